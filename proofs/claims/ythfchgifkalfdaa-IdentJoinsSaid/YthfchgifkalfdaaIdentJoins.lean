/-
  For every list of strings l the law IdentJoins (P4.2, P4.6) returns true and leaves its argument alone: Join agrees with the reference, and Split of what it returns are the names (the law itself asks this of at most 20 strings of at most 100 bytes). No condition.
-/
import Derived.Test.YthfchgifkalfdaaRows
import Derived.WalkKit
import Derived.ProofKit
import Derived.OpenShut
import Derived.ShutString
import Derived.ChangeOld
import Derived.Below
import Derived.Test.YthfchgifkalfdaaIdRound
namespace Go.Proofs.Ythfchgifkalfdaa.identJoins
open Go.ChangeShapes Go.WideShapes Go.ChangeAt Go.RowKit Go.Proofs.Ythfchgifkalfdaa.Id
open Go.ChangeMaps (open_string shut_string)
set_option linter.unusedVariables false

theorem own : ownKnob Try.prog.godebug = none := by kernel_rfl
theorem laidOut : laidOutB Try.prog = true := by kernel_rfl



/-! ### The walk: the law returns true, and writes nothing that was there. -/
set_option maxRecDepth 100000 in
set_option maxHeartbeats 16000000 in
theorem walk (l0 : List ByteArray) (v0 : Value) (w : World) (h0 : Strs w v0 l0) :
    Calls Try.prog 5 #[v0] w fun e w' => e = .returned (.bool true) ∧ Below w.heap.size w w' := by
  have hv0 := h0
  obtain ⟨p, c, rfl, hcell⟩ := h0
  by_cases hbig : 20 < l0.length
  · have hbig' : (20 : Int) < (l0.length : Int) := by omega
    clear hbig hcell hv0
    go_enter Try.func5, Try.ntmps5
    go_wp2_with fail
    refine (alive_any _).mono ?_; rintro e w1 ⟨rfl, hb⟩
    go_wp2_with fail
    go_ret
    exact ⟨rfl, hb⟩
  · have hl : l0.length ≤ 20 := by omega
    have hl' : (l0.length : Int) ≤ 20 := by omega
    have HC := Lib.hid hcell
    clear hcell hbig
    go_enter Try.func5, Try.ntmps5
    go_wp2_with fail
    go_loopw [3] (fun i wr => ∃ k : Nat, i = .int .i64 k ∧ k ≤ l0.length ∧ wr = w) (fun i _ => l0.length - (intOf i).toNat)
    case atStart => exact ⟨0, rfl, Nat.zero_le _, by trivial⟩
    case round =>
      obtain ⟨k, rfl, hk, rfl⟩ := hrel
      by_cases hlt : k < l0.length
      · obtain ⟨b, off, rfl, hb, hcs⟩ := HC.out (by omega)
        have hck := hcs k hlt
        obtain ⟨x, hx⟩ : ∃ x, l0.getD k ⟨#[]⟩ = x := ⟨_, rfl⟩
        rw [hx] at hck
        clear hcs hx HC hv0
        by_cases h100 : 100 < x.size
        · have h100' : (100 : Int) < (x.size : Int) := by omega
          clear h100
          go_wp2_with fail
          refine (alive_any _).mono ?_; rintro e w1 ⟨rfl, hb1⟩
          go_wp2_with fail
          go_ret
          exact ⟨rfl, hb1⟩
        · have h100' : (x.size : Int) ≤ 100 := by omega
          clear h100
          go_wp2_with fail
          exact ⟨⟨k + 1, rfl, hlt, by trivial⟩, by simp [intOf]; omega⟩
      · obtain rfl : k = l0.length := by omega
        clear HC hlt hk
        obtain ⟨B, hB⟩ : ∃ B, joinOk l0 = B := ⟨_, rfl⟩
        have c1 := Lib.hid (fun w hv => join_any l0 _ w (hv : Strs w (.slice p l0.length c) l0))
        have c2 := Lib.hid (fun w hv => rjoin_any l0 _ w (hv : Strs w (.slice p l0.length c) l0))
        unfold JoinEnd joinS joinE at c1 c2
        rw [hB] at c1 c2
        cases B
        · have hq : ((⟨#[]⟩ : ByteArray).toList == (⟨#[]⟩ : ByteArray).toList) = true := beq_self_eq_true _
          clear hB
          go_wp2_with fail
          refine (c1.out _ hv0).mono ?_; rintro e w1 ⟨rfl, k1⟩
          have hv1 := hv0.below k1
          clear hv0
          go_wp2_with fail
          refine (c2.out _ hv1).mono ?_; rintro e w2 ⟨rfl, k2⟩
          have hk2 := stepB k1 k2
          clear k1 k2 hv1
          go_wp2_with fail
          refine (split_any _ _).mono ?_; rintro e w3 ⟨u, rfl, ho3, k3⟩
          have hk3 := stepB hk2 k3
          clear hk2 k3 ho3
          go_wp2_with fail
          refine (alive_any _).mono ?_; rintro e w5 ⟨rfl, b5⟩
          go_wp2_with fail
          go_ret
          exact ⟨rfl, stepB hk3 b5⟩
        · have hcj := cuts_join hB
          have c3 := Lib.hid (fun w => split_any (joinN l0 l0.length) w)
          rw [(spl_ok hcj.2).1, (spl_ok hcj.2).2, hcj.1] at c3
          rw [if_pos rfl, if_pos rfl] at c1 c2
          obtain ⟨S, hS⟩ : ∃ S, joinN l0 l0.length = S := ⟨_, rfl⟩
          rw [hS] at c1 c2 c3
          have hq : (S.toList == S.toList) = true := beq_self_eq_true _
          clear hB hcj hS
          go_wp2_with fail
          refine (c1.out _ hv0).mono ?_; rintro e w1 ⟨rfl, k1⟩
          have hv1 := hv0.below k1
          clear hv0
          go_wp2_with fail
          refine (c2.out _ hv1).mono ?_; rintro e w2 ⟨rfl, k2⟩
          have hk2 := stepB k1 k2
          have hv2 := hv1.below k2
          clear k1 k2 hv1
          go_wp2_with fail
          refine (c3.out _).mono ?_; rintro e w3 ⟨u, rfl, ho3, k3⟩
          have hk3 := stepB hk2 k3
          have hv3 := hv2.below k3
          have hu3 := own_strs ho3
          clear hk2 k3 ho3 hv2
          go_wp2_with fail
          refine (same_any l0 l0 _ _ _ hu3 hv3 (by omega)).mono ?_; rintro e w4 ⟨rfl, k4⟩
          rw [decide_eq_true (rfl : l0 = l0)]
          have hk4 := stepB hk3 k4
          clear hk3 k4 hu3 hv3
          go_wp2_with fail
          refine (alive_any _).mono ?_; rintro e w5 ⟨rfl, b5⟩
          go_wp2_with fail
          go_ret
          exact ⟨rfl, stepB hk4 b5⟩

/-! ### The row's step -/
set_option maxRecDepth 100000 in
theorem lifted (os : Os) (started : os.Started) (H : Type) (enc : TypeId × Value → H) :
    ReturnsInHanded {} Try.checked os 5 .any (Rows.identJoinsSpec.pre6 enc Try.prog Try.f5 Rows.identJoinsRow.domain false) (Rows.identJoinsSpec.post enc Try.prog Try.f5 false true false false) := by
  refine returnsInHanded_of_change (C := Try.checked) own started (by kernel_rfl) Try.func5
    (ChangeSpec.witness6 (enc := enc) (C := Try.checked) false ⟨#[], #[.slice none 0 0], []⟩ 8 (by kernel_rfl) (by kernel_rfl) (by kernel_rfl) (by kernel_rfl)) ?_
  intro W base args ds gs before hval0 hW hcnd _
  have hval : ∀ (j : Nat) t v, Try.f5.params[j]? = some t → args[j]? = some v → Value.okWide Try.prog W .any base t v := hval0
  have hW' := hW
  obtain ⟨p, q, hA0, hV, rfl, hfz, hnd⟩ := hW
  have hA : DataW.TrodAll enc Try.prog W 0 (fun _ => true) true Try.f5.params.toList args.toList ds p := hA0
  rw [Try.params5] at hA hval
  obtain ⟨v0, vs0, d0, ds0, p0, q0, hargs, rfl, rfl, h0, r0⟩ := trodAll_cons hA
  obtain ⟨rfl, rfl, rfl⟩ := trodAll_nil r0
  obtain rfl : args = #[v0] := by cases args; simp_all
  obtain ⟨rfl, rfl⟩ := trodVars_none hV
  obtain ⟨a0, len0, cap0, rfl⟩ := okWide_slice Try.underlying24 (hval 0 24 v0 rfl rfl)
  have k0 := h0
  have lt0 : ∀ x ∈ p0, x.block < W.heap.size := by obtain ⟨m, hm⟩ := k0; exact DataW.trod_lt m _ _ _ hm
  obtain ⟨l0, s0⟩ := strs_arg h0
  clear hA0 hval0
  simp only [List.append_nil] at hW'
  refine (walk l0 _ W s0).mono fun e W' ⟨he, hg⟩ => ?_
  subst he
  exact ⟨_, rfl, _, _, _, [], _, [], hW', trodAll_mk1 (shut_bool Try.underlying4 _), (trodAll_cons_mk (Below.trod laidOut (by kernel_rfl) (of_decide_eq_true (by kernel_rfl)) k0 hg lt0) trodAll_mk0), rfl, hg.frame _, fun h => by cases h⟩

theorem over : Rows.identJoinsRow.holds Try.pinned (OpenSpec.ofChange Rows.identJoinsSpec) :=
  OpenClaim.holds_of_wide 5 Try.f5 rfl rfl rfl rfl rfl rfl rfl ⟨rfl, rfl, rfl, rfl, rfl⟩ rfl rfl rfl rfl rfl (by kernel_rfl) Try.func5 (by kernel_rfl)
    (of_decide_eq_true (by kernel_rfl)) (by unfold Func.isWrapper; first | (rw [if_pos (by decide +kernel)]; kernel_rfl) | (rw [if_neg (by decide +kernel)]; exact ⟨rfl, rfl⟩))
    (fun os started H enc _ => lifted os started H enc)

/-- The statement. -/
theorem proved : Rows.IdentJoinsSaid :=
  over
#print axioms proved
end Go.Proofs.Ythfchgifkalfdaa.identJoins
