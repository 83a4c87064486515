/-
  For every string s the law IdentOpens (P4.5) returns true and leaves its argument alone: Open agrees with the reference, and what it accepts is what Seal makes of its result (the law itself asks this of strings of at most 1000 bytes). No condition.
-/
import Derived.Test.YthfchgifkalfdaaRows
import Derived.WalkKit
import Derived.ProofKit
import Derived.OpenShut
import Derived.ShutString
import Derived.ChangeOld
import Derived.Below
import Derived.Test.YthfchgifkalfdaaIdSealM
namespace Go.Proofs.Ythfchgifkalfdaa.identOpens
open Go.ChangeShapes Go.WideShapes Go.ChangeAt Go.RowKit Go.Proofs.Ythfchgifkalfdaa.Id
open Go.ChangeMaps (open_string shut_string)
set_option linter.unusedVariables false

theorem own : ownKnob Try.prog.godebug = none := by kernel_rfl



/-! ### The walk: the law returns true, and writes nothing that was there. -/
set_option maxRecDepth 100000 in
set_option maxHeartbeats 16000000 in
theorem walk (b0 : ByteArray) (w0 : b0.size ≤ maxLen) (w : World) :
    Calls Try.prog 9 #[.string b0] w fun e w' => e = .returned (.bool true) ∧ Below w.heap.size w w' := by
  by_cases hbig : 1000 < b0.size
  · have hbig' : (1000 : Int) < (b0.size : Int) := by omega
    clear hbig
    go_enter Try.func9, Try.ntmps9
    go_wp2_with fail
    refine (alive_any _).mono ?_; rintro e w1 ⟨rfl, hb⟩
    go_wp2_with fail
    go_ret
    exact ⟨rfl, hb⟩
  · have hs : b0.size ≤ 1000 := by omega
    have hs' : (b0.size : Int) ≤ 1000 := by omega
    have c1 := Lib.hid (fun w => open_any b0 w hs)
    have c2 := Lib.hid (fun w => ropen_any b0 w hs)
    unfold OpenEnd at c1 c2
    clear hbig hs
    obtain ⟨n, hn⟩ : ∃ n, openE b0 = n := ⟨_, rfl⟩
    rw [hn] at c1 c2
    by_cases h0 : n = 0
    · subst h0
      have hso := seal_open hn
      have c3 := Lib.hid (fun w => seal_any (openS b0) w)
      unfold SealEnd sealS sealE at c3
      rw [hso.1, hso.2, if_pos rfl, if_pos rfl] at c3
      obtain ⟨T, hT⟩ : ∃ T, openS b0 = T := ⟨_, rfl⟩
      rw [hT] at c1 c2 c3
      have hq : (T.toList == T.toList) = true := beq_self_eq_true _
      have hq2 : (b0.toList == b0.toList) = true := beq_self_eq_true _
      clear hn hT hso
      go_enter Try.func9, Try.ntmps9
      go_wp2_with fail
      refine (c1.out _).mono ?_; rintro e w1 ⟨rfl, k1⟩
      go_wp2_with fail
      refine (c2.out _).mono ?_; rintro e w2 ⟨rfl, k2⟩
      have hk2 := stepB k1 k2
      clear k1 k2
      go_wp2_with fail
      refine (c3.out _).mono ?_; rintro e w3 ⟨rfl, k3⟩
      have hk3 := stepB hk2 k3
      clear hk2 k3
      go_wp2_with fail
      refine (alive_any _).mono ?_; rintro e w5 ⟨rfl, b5⟩
      go_wp2_with fail
      go_ret
      exact ⟨rfl, stepB hk3 b5⟩
    · have c3 := Lib.hid (fun w => seal_any (openS b0) w)
      obtain ⟨T, hT⟩ : ∃ T, openS b0 = T := ⟨_, rfl⟩
      rw [hT] at c1 c2 c3
      have hq : (T.toList == T.toList) = true := beq_self_eq_true _
      have hne : (n != n) = false := by simp
      have hne0 : (n != 0) = true := bne_iff_ne.2 h0
      clear hn hT h0
      go_enter Try.func9, Try.ntmps9
      go_wp2_with fail
      refine (c1.out _).mono ?_; rintro e w1 ⟨rfl, k1⟩
      go_wp2_with fail
      refine (c2.out _).mono ?_; rintro e w2 ⟨rfl, k2⟩
      have hk2 := stepB k1 k2
      clear k1 k2
      go_wp2_with fail
      refine (c3.out _).mono ?_; rintro e w3 ⟨rfl, k3⟩
      have hk3 := stepB hk2 k3
      clear hk2 k3
      go_wp2_with fail
      refine (alive_any _).mono ?_; rintro e w5 ⟨rfl, b5⟩
      go_wp2_with fail
      go_ret
      exact ⟨rfl, stepB hk3 b5⟩

/-! ### The row's step -/
set_option maxRecDepth 100000 in
theorem lifted (os : Os) (started : os.Started) (H : Type) (enc : TypeId × Value → H) :
    ReturnsInHanded {} Try.checked os 9 .any (Rows.identOpensSpec.pre6 enc Try.prog Try.f9 Rows.identOpensRow.domain false) (Rows.identOpensSpec.post enc Try.prog Try.f9 false true false false) := by
  refine returnsInHanded_of_change (C := Try.checked) own started (by kernel_rfl) Try.func9
    (ChangeSpec.witness6 (enc := enc) (C := Try.checked) false ⟨#[], #[.string ByteArray.empty], []⟩ 8 (by kernel_rfl) (by kernel_rfl) (by kernel_rfl) (by kernel_rfl)) ?_
  intro W base args ds gs before hval0 hW hcnd _
  have hval : ∀ (j : Nat) t v, Try.f9.params[j]? = some t → args[j]? = some v → Value.okWide Try.prog W .any base t v := hval0
  have hW' := hW
  obtain ⟨p, q, hA0, hV, rfl, hfz, hnd⟩ := hW
  have hA : DataW.TrodAll enc Try.prog W 0 (fun _ => true) true Try.f9.params.toList args.toList ds p := hA0
  rw [Try.params9] at hA hval
  obtain ⟨v0, vs0, d0, ds0, p0, q0, hargs, rfl, rfl, h0, r0⟩ := trodAll_cons hA
  obtain ⟨rfl, rfl, rfl⟩ := trodAll_nil r0
  obtain rfl : args = #[v0] := by cases args; simp_all
  obtain ⟨rfl, rfl⟩ := trodVars_none hV
  obtain ⟨b0, rfl, rfl, rfl, w0⟩ := open_string Try.underlying9 (hval 0 9 v0 rfl rfl) h0
  clear hA0 hval0
  simp only [List.append_nil] at hW'
  refine (walk b0 w0 W).mono fun e W' ⟨he, hg⟩ => ?_
  subst he
  exact ⟨_, rfl, _, _, _, [], [], [], hW', (trodAll_cons_mk (shut_bool Try.underlying4 _) trodAll_mk0), (trodAll_cons_mk (shut_string Try.underlying9 w0) trodAll_mk0), rfl, hg.frame _, fun h => by cases h⟩

theorem over : Rows.identOpensRow.holds Try.pinned (OpenSpec.ofChange Rows.identOpensSpec) :=
  OpenClaim.holds_of_wide 9 Try.f9 rfl rfl rfl rfl rfl rfl rfl ⟨rfl, rfl, rfl, rfl, rfl⟩ rfl rfl rfl rfl rfl (by kernel_rfl) Try.func9 (by kernel_rfl)
    (of_decide_eq_true (by kernel_rfl)) (by unfold Func.isWrapper; first | (rw [if_pos (by decide +kernel)]; kernel_rfl) | (rw [if_neg (by decide +kernel)]; exact ⟨rfl, rfl⟩))
    (fun os started H enc _ => lifted os started H enc)

/-- The statement. -/
theorem proved : Rows.IdentOpensSaid :=
  over
#print axioms proved
end Go.Proofs.Ythfchgifkalfdaa.identOpens
