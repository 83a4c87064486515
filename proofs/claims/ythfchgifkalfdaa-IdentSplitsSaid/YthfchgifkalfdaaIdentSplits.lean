/-
  For every string s the law IdentSplits (P4.2, P4.6) returns true and leaves its argument alone: Split agrees with the reference, and Join of what it returns is the identifier (the law itself asks this of strings of at most 1000 bytes). No condition.
-/
import Derived.Test.YthfchgifkalfdaaRows
import Derived.WalkKit
import Derived.ProofKit
import Derived.OpenShut
import Derived.ShutString
import Derived.ChangeOld
import Derived.Below
import Derived.Test.YthfchgifkalfdaaIdRound
namespace Go.Proofs.Ythfchgifkalfdaa.identSplits
open Go.ChangeShapes Go.WideShapes Go.ChangeAt Go.RowKit Go.Proofs.Ythfchgifkalfdaa.Id
open Go.ChangeMaps (open_string shut_string)
set_option linter.unusedVariables false

theorem own : ownKnob Try.prog.godebug = none := by kernel_rfl



/-! ### The walk: the law returns true, and writes nothing that was there. -/
set_option maxRecDepth 100000 in
set_option maxHeartbeats 16000000 in
theorem walk (b0 : ByteArray) (w0 : b0.size ≤ maxLen) (w : World) :
    Calls Try.prog 4 #[.string b0] w fun e w' => e = .returned (.bool true) ∧ Below w.heap.size w w' := by
  by_cases hbig : 1000 < b0.size
  · have hbig' : (1000 : Int) < (b0.size : Int) := by omega
    clear hbig
    go_enter Try.func4, Try.ntmps4
    go_wp2_with fail
    refine (alive_any _).mono ?_; rintro e w1 ⟨rfl, hb⟩
    go_wp2_with fail
    go_ret
    exact ⟨rfl, hb⟩
  · have hs : b0.size ≤ 1000 := by omega
    have hs' : (b0.size : Int) ≤ 1000 := by omega
    have c1 := Lib.hid (fun w => split_any b0 w)
    have c2 := Lib.hid (fun w => rsplit_any b0 w hs)
    have hL1 : (cuts b0).length ≤ 1001 := by have := cuts_le b0; omega
    clear hbig hs
    obtain ⟨B, hB⟩ : ∃ B, idOk b0 = B := ⟨_, rfl⟩
    cases B
    · rw [(spl_no hB).1, (spl_no hB).2] at c1 c2
      clear hB hL1
      go_enter Try.func4, Try.ntmps4
      go_wp2_with fail
      refine (c1.out _).mono ?_; rintro e w1 ⟨v, rfl, ho1, k1⟩
      have hv1 := own_strs ho1
      clear ho1
      go_wp2_with fail
      refine (c2.out _).mono ?_; rintro e w2 ⟨u, rfl, ho2, k2⟩
      have hv2 := own_strs ho2
      have hv1 := hv1.below k2
      have hk2 := stepB k1 k2
      clear ho2 k1 k2
      go_wp2_with fail
      refine (same_any _ _ _ _ _ hv1 hv2 (by simp)).mono ?_; rintro e w3 ⟨rfl, k3⟩
      have hv1 := hv1.below k3
      have hk3 := stepB hk2 k3
      clear hk2 k3 hv2
      go_wp2_with fail
      refine (join_any _ _ _ hv1).mono ?_; rintro e w4 ⟨rfl, k4⟩
      have hk4 := stepB hk3 k4
      clear hk3 k4 hv1
      go_wp2_with fail
      refine (alive_any _).mono ?_; rintro e w5 ⟨rfl, b5⟩
      go_wp2_with fail
      go_ret
      exact ⟨rfl, stepB hk4 b5⟩
    · rw [(spl_ok hB).1, (spl_ok hB).2] at c1 c2
      have cJ := Lib.hid (fun v w hv => join_any (cuts b0) v w hv)
      have hJ : joinS (cuts b0) = b0 := by unfold joinS; rw [join_back hB, if_pos rfl, join_cuts]
      have hE : joinE (cuts b0) = 0 := by unfold joinE; rw [join_back hB, if_pos rfl]
      unfold JoinEnd at cJ
      rw [hJ, hE] at cJ
      obtain ⟨L, hL⟩ : ∃ L, cuts b0 = L := ⟨_, rfl⟩
      rw [hL] at c1 c2 cJ hL1
      have hq : (b0.toList == b0.toList) = true := beq_self_eq_true _
      clear hB hJ hE hL
      go_enter Try.func4, Try.ntmps4
      go_wp2_with fail
      refine (c1.out _).mono ?_; rintro e w1 ⟨v, rfl, ho1, k1⟩
      have hv1 := own_strs ho1
      clear ho1
      go_wp2_with fail
      refine (c2.out _).mono ?_; rintro e w2 ⟨u, rfl, ho2, k2⟩
      have hv2 := own_strs ho2
      have hv1 := hv1.below k2
      have hk2 := stepB k1 k2
      clear ho2 k1 k2
      go_wp2_with fail
      refine (same_any L L _ _ _ hv1 hv2 (by omega)).mono ?_; rintro e w3 ⟨rfl, k3⟩
      rw [decide_eq_true (rfl : L = L)]
      have hv1 := hv1.below k3
      have hk3 := stepB hk2 k3
      clear hk2 k3 hv2
      go_wp2_with fail
      refine (cJ.out _ _ hv1).mono ?_; rintro e w4 ⟨rfl, k4⟩
      have hk4 := stepB hk3 k4
      clear hk3 k4 hv1
      go_wp2_with fail
      refine (alive_any _).mono ?_; rintro e w5 ⟨rfl, b5⟩
      go_wp2_with fail
      go_ret
      exact ⟨rfl, stepB hk4 b5⟩

/-! ### The row's step -/
set_option maxRecDepth 100000 in
theorem lifted (os : Os) (started : os.Started) (H : Type) (enc : TypeId × Value → H) :
    ReturnsInHanded {} Try.checked os 4 .any (Rows.identSplitsSpec.pre6 enc Try.prog Try.f4 Rows.identSplitsRow.domain false) (Rows.identSplitsSpec.post enc Try.prog Try.f4 false true false false) := by
  refine returnsInHanded_of_change (C := Try.checked) own started (by kernel_rfl) Try.func4
    (ChangeSpec.witness6 (enc := enc) (C := Try.checked) false ⟨#[], #[.string ByteArray.empty], []⟩ 8 (by kernel_rfl) (by kernel_rfl) (by kernel_rfl) (by kernel_rfl)) ?_
  intro W base args ds gs before hval0 hW hcnd _
  have hval : ∀ (j : Nat) t v, Try.f4.params[j]? = some t → args[j]? = some v → Value.okWide Try.prog W .any base t v := hval0
  have hW' := hW
  obtain ⟨p, q, hA0, hV, rfl, hfz, hnd⟩ := hW
  have hA : DataW.TrodAll enc Try.prog W 0 (fun _ => true) true Try.f4.params.toList args.toList ds p := hA0
  rw [Try.params4] at hA hval
  obtain ⟨v0, vs0, d0, ds0, p0, q0, hargs, rfl, rfl, h0, r0⟩ := trodAll_cons hA
  obtain ⟨rfl, rfl, rfl⟩ := trodAll_nil r0
  obtain rfl : args = #[v0] := by cases args; simp_all
  obtain ⟨rfl, rfl⟩ := trodVars_none hV
  obtain ⟨b0, rfl, rfl, rfl, w0⟩ := open_string Try.underlying9 (hval 0 9 v0 rfl rfl) h0
  clear hA0 hval0
  simp only [List.append_nil] at hW'
  refine (walk b0 w0 W).mono fun e W' ⟨he, hg⟩ => ?_
  subst he
  exact ⟨_, rfl, _, _, _, [], [], [], hW', (trodAll_cons_mk (shut_bool Try.underlying4 _) trodAll_mk0), (trodAll_cons_mk (shut_string Try.underlying9 w0) trodAll_mk0), rfl, hg.frame _, fun h => by cases h⟩

theorem over : Rows.identSplitsRow.holds Try.pinned (OpenSpec.ofChange Rows.identSplitsSpec) :=
  OpenClaim.holds_of_wide 4 Try.f4 rfl rfl rfl rfl rfl rfl rfl ⟨rfl, rfl, rfl, rfl, rfl⟩ rfl rfl rfl rfl rfl (by kernel_rfl) Try.func4 (by kernel_rfl)
    (of_decide_eq_true (by kernel_rfl)) (by unfold Func.isWrapper; first | (rw [if_pos (by decide +kernel)]; kernel_rfl) | (rw [if_neg (by decide +kernel)]; exact ⟨rfl, rfl⟩))
    (fun os started H enc _ => lifted os started H enc)

/-- The statement. -/
theorem proved : Rows.IdentSplitsSaid :=
  over
#print axioms proved
end Go.Proofs.Ythfchgifkalfdaa.identSplits
