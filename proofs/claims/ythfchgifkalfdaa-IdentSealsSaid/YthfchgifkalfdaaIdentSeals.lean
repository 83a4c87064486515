/-
  For every string s the law IdentSeals (P4.4, P4.8) returns true and leaves its argument alone: Seal agrees with the reference, and Open of what it returns is the identifier (the law itself asks this of strings of at most 1000 bytes). No condition.
-/
import Derived.Test.YthfchgifkalfdaaRows
import Derived.WalkKit
import Derived.ProofKit
import Derived.OpenShut
import Derived.ShutString
import Derived.ChangeOld
import Derived.Below
import Derived.Test.YthfchgifkalfdaaIdSealM
namespace Go.Proofs.Ythfchgifkalfdaa.identSeals
open Go.ChangeShapes Go.WideShapes Go.ChangeAt Go.RowKit Go.Proofs.Ythfchgifkalfdaa.Id
open Go.ChangeMaps (open_string shut_string)
set_option linter.unusedVariables false

theorem own : ownKnob Try.prog.godebug = none := by kernel_rfl



/-! ### The walk: the law returns true, and writes nothing that was there. -/
set_option maxRecDepth 100000 in
set_option maxHeartbeats 16000000 in
theorem walk (b0 : ByteArray) (w0 : b0.size ≤ maxLen) (w : World) :
    Calls Try.prog 8 #[.string b0] w fun e w' => e = .returned (.bool true) ∧ Below w.heap.size w w' := by
  by_cases hbig : 1000 < b0.size
  · have hbig' : (1000 : Int) < (b0.size : Int) := by omega
    clear hbig
    go_enter Try.func8, Try.ntmps8
    go_wp2_with fail
    refine (alive_any _).mono ?_; rintro e w1 ⟨rfl, hb⟩
    go_wp2_with fail
    go_ret
    exact ⟨rfl, hb⟩
  · have hs : b0.size ≤ 1000 := by omega
    have hs' : (b0.size : Int) ≤ 1000 := by omega
    have c1 := Lib.hid (fun w => seal_any b0 w)
    have c2 := Lib.hid (fun w => rseal_any b0 w hs)
    unfold SealEnd sealS sealE at c1 c2
    clear hbig hs
    obtain ⟨B, hB⟩ : ∃ B, idOk b0 = B := ⟨_, rfl⟩
    rw [hB] at c1 c2
    have hq0 : ((⟨#[]⟩ : ByteArray).toList == (⟨#[]⟩ : ByteArray).toList) = true := beq_self_eq_true _
    cases B
    · have c3 := Lib.hid (fun w => open_any ⟨#[]⟩ w (by decide))
      clear hB
      go_enter Try.func8, Try.ntmps8
      go_wp2_with fail
      refine (c1.out _).mono ?_; rintro e w1 ⟨rfl, k1⟩
      go_wp2_with fail
      refine (c2.out _).mono ?_; rintro e w2 ⟨rfl, k2⟩
      have hk2 := stepB k1 k2
      clear k1 k2
      go_wp2_with fail
      refine (c3.out _).mono ?_; rintro e w3 ⟨rfl, k3⟩
      have hk3 := stepB hk2 k3
      clear hk2 k3
      go_wp2_with fail
      refine (alive_any _).mono ?_; rintro e w5 ⟨rfl, b5⟩
      go_wp2_with fail
      go_ret
      exact ⟨rfl, stepB hk3 b5⟩
    · have ho := open_seal hB
      have hsz := id_size hB
      have c3 := Lib.hid (fun w => open_any (sealB b0) w (by rw [sealB_size]; omega))
      unfold OpenEnd at c3
      rw [ho.1, ho.2] at c3
      rw [if_pos rfl, if_pos rfl] at c1 c2
      obtain ⟨S, hS⟩ : ∃ S, sealB b0 = S := ⟨_, rfl⟩
      rw [hS] at c1 c2 c3
      have hq : (S.toList == S.toList) = true := beq_self_eq_true _
      have hq2 : (b0.toList == b0.toList) = true := beq_self_eq_true _
      clear hB hS ho hsz
      go_enter Try.func8, Try.ntmps8
      go_wp2_with fail
      refine (c1.out _).mono ?_; rintro e w1 ⟨rfl, k1⟩
      go_wp2_with fail
      refine (c2.out _).mono ?_; rintro e w2 ⟨rfl, k2⟩
      have hk2 := stepB k1 k2
      clear k1 k2
      go_wp2_with fail
      refine (c3.out _).mono ?_; rintro e w3 ⟨rfl, k3⟩
      have hk3 := stepB hk2 k3
      clear hk2 k3
      go_wp2_with fail
      refine (alive_any _).mono ?_; rintro e w5 ⟨rfl, b5⟩
      go_wp2_with fail
      go_ret
      exact ⟨rfl, stepB hk3 b5⟩

/-! ### The row's step -/
set_option maxRecDepth 100000 in
theorem lifted (os : Os) (started : os.Started) (H : Type) (enc : TypeId × Value → H) :
    ReturnsInHanded {} Try.checked os 8 .any (Rows.identSealsSpec.pre6 enc Try.prog Try.f8 Rows.identSealsRow.domain false) (Rows.identSealsSpec.post enc Try.prog Try.f8 false true false false) := by
  refine returnsInHanded_of_change (C := Try.checked) own started (by kernel_rfl) Try.func8
    (ChangeSpec.witness6 (enc := enc) (C := Try.checked) false ⟨#[], #[.string ByteArray.empty], []⟩ 8 (by kernel_rfl) (by kernel_rfl) (by kernel_rfl) (by kernel_rfl)) ?_
  intro W base args ds gs before hval0 hW hcnd _
  have hval : ∀ (j : Nat) t v, Try.f8.params[j]? = some t → args[j]? = some v → Value.okWide Try.prog W .any base t v := hval0
  have hW' := hW
  obtain ⟨p, q, hA0, hV, rfl, hfz, hnd⟩ := hW
  have hA : DataW.TrodAll enc Try.prog W 0 (fun _ => true) true Try.f8.params.toList args.toList ds p := hA0
  rw [Try.params8] at hA hval
  obtain ⟨v0, vs0, d0, ds0, p0, q0, hargs, rfl, rfl, h0, r0⟩ := trodAll_cons hA
  obtain ⟨rfl, rfl, rfl⟩ := trodAll_nil r0
  obtain rfl : args = #[v0] := by cases args; simp_all
  obtain ⟨rfl, rfl⟩ := trodVars_none hV
  obtain ⟨b0, rfl, rfl, rfl, w0⟩ := open_string Try.underlying9 (hval 0 9 v0 rfl rfl) h0
  clear hA0 hval0
  simp only [List.append_nil] at hW'
  refine (walk b0 w0 W).mono fun e W' ⟨he, hg⟩ => ?_
  subst he
  exact ⟨_, rfl, _, _, _, [], [], [], hW', (trodAll_cons_mk (shut_bool Try.underlying4 _) trodAll_mk0), (trodAll_cons_mk (shut_string Try.underlying9 w0) trodAll_mk0), rfl, hg.frame _, fun h => by cases h⟩

theorem over : Rows.identSealsRow.holds Try.pinned (OpenSpec.ofChange Rows.identSealsSpec) :=
  OpenClaim.holds_of_wide 8 Try.f8 rfl rfl rfl rfl rfl rfl rfl ⟨rfl, rfl, rfl, rfl, rfl⟩ rfl rfl rfl rfl rfl (by kernel_rfl) Try.func8 (by kernel_rfl)
    (of_decide_eq_true (by kernel_rfl)) (by unfold Func.isWrapper; first | (rw [if_pos (by decide +kernel)]; kernel_rfl) | (rw [if_neg (by decide +kernel)]; exact ⟨rfl, rfl⟩))
    (fun os started H enc _ => lifted os started H enc)

/-- The statement. -/
theorem proved : Rows.IdentSealsSaid :=
  over
#print axioms proved
end Go.Proofs.Ythfchgifkalfdaa.identSeals
