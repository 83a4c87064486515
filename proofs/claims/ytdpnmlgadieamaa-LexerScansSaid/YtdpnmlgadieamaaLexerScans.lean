/-
  For every string the law LexerScans (P7.1) returns true and leaves its argument alone: Scan agrees with the reference (the law itself asks this of at most 3000 bytes). No condition.
-/
import Derived.Test.YtdpnmlgadieamaaRows
import Derived.WalkKit
import Derived.ProofKit
import Derived.OpenShut
import Derived.ShutString
import Derived.ChangeOld
import Derived.Below
import Derived.Test.YtdpnmlgadieamaaLxLaw
namespace Go.Proofs.Ytdpnmlgadieamaa.lexerScans
open Go.ChangeShapes Go.WideShapes Go.ChangeAt Go.RowKit Go.Proofs.Ytdpnmlgadieamaa.Lx
open Go.ChangeMaps (open_string shut_string)
set_option linter.unusedVariables false

theorem own : ownKnob Try.prog.godebug = none := by kernel_rfl



/-! ### The walk: the law returns true, and writes nothing that was there. -/
set_option maxRecDepth 100000 in
set_option maxHeartbeats 16000000 in
theorem walk (b0 : ByteArray) (w0 : b0.size ≤ maxLen) (w : World) :
    Calls Try.prog 3 #[.string b0] w fun e w' => e = .returned (.bool true) ∧ Below w.heap.size w w' := by
  by_cases hbig : 3000 < b0.size
  · have hbig' : (3000 : Int) < (b0.size : Int) := by omega
    clear hbig w0
    go_enter Try.func3, Try.ntmps3
    go_wp2_with fail
    refine (alive_any _).mono ?_; rintro e w9 ⟨rfl, k9⟩
    go_wp2_with fail
    go_ret
    exact ⟨rfl, k9⟩
  · have hs : ¬ (3000 : Int) < (b0.size : Int) := by omega
    have c1 := Lib.hid (fun w => qScan_any b0 w (by omega))
    have c2 := Lib.hid (fun w => rscan_any b0 w (by omega))
    have hlen := scan_len b0.data.toList
    rw [len_data] at hlen
    generalize scanM b0.data.toList = T at c1 c2 hlen
    obtain ⟨L, E, P⟩ := T
    have cS := Lib.hid (fun (W : World) (va vb : Value) (ha : Lexs W va (L.map toI)) (hb : Lexs W vb (L.map toI)) => rsame_any (L.map toI) (L.map toI) va vb W ha hb (by rw [List.length_map]; show L.length ≤ _; have : L.length ≤ b0.size + 1 := hlen; omega) (by rw [List.length_map]; have : L.length ≤ b0.size + 1 := hlen; omega))
    rw [sameBy_refl] at cS
    generalize sameBy eqM (L.map toI) (L.map toI) = S at cS
    have hE : (E == E) = true := beq_self_eq_true _
    have hP : ((P : Int) == (P : Int)) = true := beq_self_eq_true _
    unfold ScEnd at c1 c2
    simp only at c1 c2
    clear hbig w0 hlen
    go_enter Try.func3, Try.ntmps3
    go_wp2_with fail
    refine (c1.out _).mono ?_; rintro e w1 ⟨v1, rfl, own1, k1⟩
    have n1 := Lib.hid own1.lexs
    clear own1
    go_wp2_with fail
    refine (c2.out _).mono ?_; rintro e w2 ⟨v2, rfl, own2, k2⟩
    have n2 := Lib.hid own2.lexs
    have n12 := Lib.hid (n1.out.below k2)
    have m2 := stepB k1 k2
    clear own2 n1
    go_wp2_with fail
    refine (cS.out _ _ _ n12.out n2.out).mono ?_; rintro e w3 ⟨rfl, k3⟩
    have m3 := stepB m2 k3
    go_wp2_with fail
    refine (alive_any _).mono ?_; rintro e w9 ⟨rfl, k9⟩
    go_wp2_with fail
    go_ret
    exact ⟨rfl, stepB m3 k9⟩

/-! ### The row's step -/
set_option maxRecDepth 100000 in
theorem lifted (os : Os) (started : os.Started) (H : Type) (enc : TypeId × Value → H) :
    ReturnsInHanded {} Try.checked os 3 .any (Rows.lexerScansSpec.pre6 enc Try.prog Try.f3 Rows.lexerScansRow.domain false) (Rows.lexerScansSpec.post enc Try.prog Try.f3 false true false false) := by
  refine returnsInHanded_of_change (C := Try.checked) own started (by kernel_rfl) Try.func3
    (ChangeSpec.witness6 (enc := enc) (C := Try.checked) false ⟨#[], #[.string ByteArray.empty], []⟩ 8 (by kernel_rfl) (by kernel_rfl) (by kernel_rfl) (by kernel_rfl)) ?_
  intro W base args ds gs before hval0 hW hcnd _
  have hval : ∀ (j : Nat) t v, Try.f3.params[j]? = some t → args[j]? = some v → Value.okWide Try.prog W .any base t v := hval0
  have hW' := hW
  obtain ⟨p, q, hA0, hV, rfl, hfz, hnd⟩ := hW
  have hA : DataW.TrodAll enc Try.prog W 0 (fun _ => true) true Try.f3.params.toList args.toList ds p := hA0
  rw [Try.params3] at hA hval
  obtain ⟨v0, vs0, d0, ds0, p0, q0, hargs, rfl, rfl, h0, r0⟩ := trodAll_cons hA
  obtain ⟨rfl, rfl, rfl⟩ := trodAll_nil r0
  obtain rfl : args = #[v0] := by cases args; simp_all
  obtain ⟨rfl, rfl⟩ := trodVars_none hV
  obtain ⟨b0, rfl, rfl, rfl, w0⟩ := open_string Try.underlying9 (hval 0 9 v0 rfl rfl) h0
  clear hA0 hval0
  simp only [List.append_nil] at hW'
  refine (walk b0 w0 W).mono fun e W' ⟨he, hg⟩ => ?_
  subst he
  exact ⟨_, rfl, _, _, _, [], [], [], hW', (trodAll_cons_mk (shut_bool Try.underlying4 _) trodAll_mk0), (trodAll_cons_mk (shut_string Try.underlying9 w0) trodAll_mk0), rfl, hg.frame _, fun h => by cases h⟩

theorem over : Rows.lexerScansRow.holds Try.pinned (OpenSpec.ofChange Rows.lexerScansSpec) :=
  OpenClaim.holds_of_wide 3 Try.f3 rfl rfl rfl rfl rfl rfl rfl ⟨rfl, rfl, rfl, rfl, rfl⟩ rfl rfl rfl rfl rfl (by kernel_rfl) Try.func3 (by kernel_rfl)
    (of_decide_eq_true (by kernel_rfl)) (by unfold Func.isWrapper; first | (rw [if_pos (by decide +kernel)]; kernel_rfl) | (rw [if_neg (by decide +kernel)]; exact ⟨rfl, rfl⟩))
    (fun os started H enc _ => lifted os started H enc)

/-- The statement. -/
theorem proved : Rows.LexerScansSaid :=
  over
#print axioms proved
end Go.Proofs.Ytdpnmlgadieamaa.lexerScans
