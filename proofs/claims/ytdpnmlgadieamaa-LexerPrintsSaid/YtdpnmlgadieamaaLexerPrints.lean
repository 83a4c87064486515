/-
  For every list of lexemes the law LexerPrints (P7.2) returns true and leaves its argument alone: Print agrees with the reference (the law itself asks this of at most 60 lexemes with texts of at most 200 bytes). No condition.
-/
import Derived.Test.YtdpnmlgadieamaaRows
import Derived.WalkKit
import Derived.ProofKit
import Derived.OpenShut
import Derived.ShutString
import Derived.ChangeOld
import Derived.Below
import Derived.Carry
import Derived.Test.YtdpnmlgadieamaaLxArg
namespace Go.Proofs.Ytdpnmlgadieamaa.lexerPrints
open Go.ChangeShapes Go.WideShapes Go.ChangeAt Go.RowKit Go.Proofs.Ytdpnmlgadieamaa.Lx
open Go.ChangeMaps (open_string shut_string)
set_option linter.unusedVariables false

theorem own : ownKnob Try.prog.godebug = none := by kernel_rfl
theorem laidOut : laidOutB Try.prog = true := by kernel_rfl



/-! ### The walk: the law returns true, and writes nothing that was there. -/
set_option maxRecDepth 100000 in
set_option maxHeartbeats 16000000 in
theorem walk (l0 : List LexI) (v0 : Value) (w : World) (h0 : LexA w v0 l0) :
    Calls Try.prog 6 #[v0] w fun e w' => e = .returned (.bool true) ∧ Below w.heap.size w w' := by
  obtain ⟨h0, hn⟩ := h0
  have HL := Lib.hid h0
  have HN := Lib.hid hn
  obtain ⟨p0, c0, rfl⟩ := h0.nil
  clear h0 hn
  by_cases hbig : 60 < l0.length
  · have hbig' : (60 : Int) < (l0.length : Int) := by omega
    clear hbig
    go_enter Try.func6, Try.ntmps6
    go_wp2_with fail
    refine (alive_any _).mono ?_; rintro e w9 ⟨rfl, k9⟩
    go_wp2_with fail
    go_ret
    exact ⟨rfl, k9⟩
  · have hs : ¬ (60 : Int) < (l0.length : Int) := by omega
    have hs60 : l0.length ≤ 60 := by omega
    clear hbig
    go_enter Try.func6, Try.ntmps6
    go_wp2_with fail
    go_loopw [3] (fun i wr => ∃ j : Nat, i = .int .i64 (j : Int) ∧ j ≤ l0.length ∧ w = wr ∧ Hid (∀ i x, i < j → l0[i]? = some x → x.t.length ≤ 200)) (fun i _ => l0.length - (intOf i).toNat)
    case atStart => exact ⟨0, rfl, Nat.zero_le _, by trivial, fun i x h => absurd h (Nat.not_lt_zero _)⟩
    case round =>
      obtain ⟨j, rfl, hj, rfl, hall⟩ := hrel
      by_cases hlt : j < l0.length
      · have hlt' : (j : Int) < (l0.length : Int) := by omega
        obtain ⟨x, hx⟩ : ∃ x, l0[j]? = some x := ⟨_, List.getElem?_eq_getElem hlt⟩
        obtain ⟨bb, off, cc, e1, ha⟩ := HL.out.open (by omega)
        simp only [Value.slice.injEq] at e1
        obtain ⟨rfl, -, rfl⟩ := e1
        obtain ⟨-, y1, -, -⟩ := ha.at_ j x hx
        have hsz := toS_size x.t
        by_cases h200 : 200 < x.t.length
        · have g1 : (200 : Int) < ((toS x.t).size : Int) := by omega
          generalize toS x.t = X at y1 g1 hsz
          clear hall hx ha h200 hsz
          go_wp2_with fail
          refine (alive_any _).mono ?_; rintro e w9 ⟨rfl, k9⟩
          go_wp2_with fail
          go_ret
          exact ⟨rfl, k9⟩
        · have g1 : ¬ (200 : Int) < ((toS x.t).size : Int) := by omega
          have hn : Hid (∀ i x, i < j + 1 → l0[i]? = some x → x.t.length ≤ 200) := fun i y h hy => by
            by_cases e : i < j
            · exact hall.out i y e hy
            · obtain rfl : i = j := by omega
              rw [hx] at hy
              cases hy
              omega
          generalize toS x.t = X at y1 g1 hsz
          clear hall hx ha h200 hsz
          go_wp2_with fail
          exact ⟨⟨j + 1, rfl, hlt, by trivial, hn.out⟩, by simp [intOf]; omega⟩
      · obtain rfl : j = l0.length := by omega
        have hlt' : ¬ (l0.length : Int) < (l0.length : Int) := by omega
        have hm : Mild l0 := ⟨by omega, fun x hx => by
          obtain ⟨i, hi, rfl⟩ := List.getElem_of_mem hx
          have := hall.out i _ hi (List.getElem?_eq_getElem hi)
          exact ⟨by omega, HN.out _ hx⟩⟩
        have c1 := Lib.hid (qPrint_any l0 _ w HL.out hm)
        have c2 := Lib.hid (fun W (hB : Below w.heap.size w W) => rprint_any l0 _ W (HL.out.below hB) hm)
        generalize prF [] false l0 = X at c1 c2
        have hXX : ((toS X).toList == (toS X).toList) = true := beq_self_eq_true _
        generalize toS X = Y at c1 c2 hXX
        clear hall hm hs60
        go_wp2_with fail
        refine c1.out.mono ?_; rintro e w1 ⟨rfl, k1⟩
        go_wp2_with fail
        refine (c2.out _ k1).mono ?_; rintro e w2 ⟨rfl, k2⟩
        have m2 := stepB k1 k2
        go_wp2_with fail
        refine (alive_any _).mono ?_; rintro e w9 ⟨rfl, k9⟩
        go_wp2_with fail
        go_ret
        exact ⟨rfl, stepB m2 k9⟩

/-! ### The row's step -/
set_option maxRecDepth 100000 in
theorem lifted (os : Os) (started : os.Started) (H : Type) (enc : TypeId × Value → H) :
    ReturnsInHanded {} Try.checked os 6 .any (Rows.lexerPrintsSpec.pre6 enc Try.prog Try.f6 Rows.lexerPrintsRow.domain false) (Rows.lexerPrintsSpec.post enc Try.prog Try.f6 false true false false) := by
  refine returnsInHanded_of_change (C := Try.checked) own started (by kernel_rfl) Try.func6
    (ChangeSpec.witness6 (enc := enc) (C := Try.checked) false ⟨#[], #[.slice none 0 0], []⟩ 8 (by kernel_rfl) (by kernel_rfl) (by kernel_rfl) (by kernel_rfl)) ?_
  intro W base args ds gs before hval0 hW hcnd _
  have hval : ∀ (j : Nat) t v, Try.f6.params[j]? = some t → args[j]? = some v → Value.okWide Try.prog W .any base t v := hval0
  have hW' := hW
  obtain ⟨p, q, hA0, hV, rfl, hfz, hnd⟩ := hW
  have hA : DataW.TrodAll enc Try.prog W 0 (fun _ => true) true Try.f6.params.toList args.toList ds p := hA0
  rw [Try.params6] at hA hval
  obtain ⟨v0, vs0, d0, ds0, p0, q0, hargs, rfl, rfl, h0, r0⟩ := trodAll_cons hA
  obtain ⟨rfl, rfl, rfl⟩ := trodAll_nil r0
  obtain rfl : args = #[v0] := by cases args; simp_all
  obtain ⟨rfl, rfl⟩ := trodVars_none hV
  obtain ⟨a0, len0, cap0, rfl⟩ := okWide_slice Try.underlying23 (hval 0 23 v0 rfl rfl)
  have k0 := h0
  have lt0 : ∀ x ∈ p0, x.block < W.heap.size := by obtain ⟨m, hm⟩ := k0; exact DataW.trod_lt m _ _ _ hm
  obtain ⟨l0, s0⟩ := lexs_arg h0
  clear hA0 hval0
  simp only [List.append_nil] at hW'
  refine (walk l0 _ W s0).mono fun e W' ⟨he, hg⟩ => ?_
  subst he
  exact ⟨_, rfl, _, _, _, [], _, [], hW', trodAll_mk1 (shut_bool Try.underlying4 _), (trodAll_cons_mk (Below.trod laidOut (by kernel_rfl) (of_decide_eq_true (by kernel_rfl)) k0 hg lt0) trodAll_mk0), rfl, hg.frame _, fun h => by cases h⟩

theorem over : Rows.lexerPrintsRow.holds Try.pinned (OpenSpec.ofChange Rows.lexerPrintsSpec) :=
  OpenClaim.holds_of_wide 6 Try.f6 rfl rfl rfl rfl rfl rfl rfl ⟨rfl, rfl, rfl, rfl, rfl⟩ rfl rfl rfl rfl rfl (by kernel_rfl) Try.func6 (by kernel_rfl)
    (of_decide_eq_true (by kernel_rfl)) (by unfold Func.isWrapper; first | (rw [if_pos (by decide +kernel)]; kernel_rfl) | (rw [if_neg (by decide +kernel)]; exact ⟨rfl, rfl⟩))
    (fun os started H enc _ => lifted os started H enc)

/-- The statement. -/
theorem proved : Rows.LexerPrintsSaid :=
  over
#print axioms proved
end Go.Proofs.Ytdpnmlgadieamaa.lexerPrints
