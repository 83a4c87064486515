/-
  For every integer, string and boolean the law CborPuts (P5.1) returns true and leaves its arguments alone: Int, Text, Bool and List agree with the reference (the law itself asks this of strings of at most 70000 bytes). No condition.
-/
import Derived.Test.YtglhbjfogbcddaaRows
import Derived.WalkKit
import Derived.ProofKit
import Derived.OpenShut
import Derived.ShutString
import Derived.ChangeOld
import Derived.Below
import Derived.Test.YtglhbjfogbcddaaCbAwake
namespace Go.Proofs.Ytglhbjfogbcddaa.cborPuts
open Go.ChangeShapes Go.WideShapes Go.ChangeAt Go.RowKit Go.Proofs.Ytglhbjfogbcddaa.Cb
open Go.ChangeMaps (open_string shut_string)
set_option linter.unusedVariables false

theorem own : ownKnob Try.prog.godebug = none := by kernel_rfl



/-! ### The walk: the law returns true, and writes nothing that was there. -/
set_option maxRecDepth 100000 in
set_option maxHeartbeats 16000000 in
theorem walk (a0 : Int) (w0 : (Lit.int .i64 a0).wf = true) (b1 : ByteArray) (w1 : b1.size ≤ maxLen) (a2 : Bool) (w : World) :
    Calls Try.prog 3 #[.int .i64 a0, .string b1, .bool a2] w fun e w' => e = .returned (.bool true) ∧ Below w.heap.size w w' := by
  by_cases hbig : 70000 < b1.size
  · have hbig' : (70000 : Int) < (b1.size : Int) := by omega
    clear hbig
    go_enter Try.func3, Try.ntmps3
    go_wp2_with fail
    refine (awake_any _).mono ?_; rintro e w1 ⟨rfl, hb⟩
    go_wp2_with fail
    go_ret
    exact ⟨rfl, hb⟩
  · have hs : (b1.size : Int) ≤ 70000 := by omega
    have hb := bounds_i64 w0
    have c1 := Lib.hid (fun w => qint_any a0 w hb.1 hb.2)
    have d1 := Lib.hid (fun w => rint_any a0 w hb.1 hb.2)
    have c2 := Lib.hid (fun w => qtext_any b1 w (by omega))
    have d2 := Lib.hid (fun w => rtextE_any b1 w (by omega))
    have c3 := Lib.hid (fun w => qbool_any a2 w)
    have d3 := Lib.hid (fun w => rbool_any a2 w)
    have c4 := Lib.hid (fun w => qlist_any a0 w hb.2)
    have d4 := Lib.hid (fun w => rlist_any a0 w hb.2)
    obtain ⟨A, hA⟩ : ∃ A, toS (intE a0) = A := ⟨_, rfl⟩
    obtain ⟨B, hB⟩ : ∃ A, toS (textE b1.data.toList) = A := ⟨_, rfl⟩
    obtain ⟨C, hC⟩ : ∃ A, toS (boolE a2) = A := ⟨_, rfl⟩
    obtain ⟨D, hD⟩ : ∃ A, toS (listE a0) = A := ⟨_, rfl⟩
    rw [hA] at c1 d1
    rw [hB] at c2 d2
    rw [hC] at c3 d3
    rw [hD] at c4 d4
    have qA : (A.toList == A.toList) = true := beq_self_eq_true _
    have qB : (B.toList == B.toList) = true := beq_self_eq_true _
    have qC : (C.toList == C.toList) = true := beq_self_eq_true _
    have qD : (D.toList == D.toList) = true := beq_self_eq_true _
    clear hbig hb w0 w1 hA hB hC hD
    go_enter Try.func3, Try.ntmps3
    go_wp2_with fail
    refine (c1.out _).mono ?_; rintro e w1 ⟨rfl, k1⟩
    go_wp2_with fail
    refine (d1.out _).mono ?_; rintro e w2 ⟨rfl, k2⟩
    have k2 := stepB k1 k2
    go_wp2_with fail
    refine (c2.out _).mono ?_; rintro e w3 ⟨rfl, k3⟩
    have k3 := stepB k2 k3
    go_wp2_with fail
    refine (d2.out _).mono ?_; rintro e w4 ⟨rfl, k4⟩
    have k4 := stepB k3 k4
    go_wp2_with fail
    refine (c3.out _).mono ?_; rintro e w5 ⟨rfl, k5⟩
    have k5 := stepB k4 k5
    go_wp2_with fail
    refine (d3.out _).mono ?_; rintro e w6 ⟨rfl, rfl⟩
    go_wp2_with fail
    refine (c4.out _).mono ?_; rintro e w7 ⟨rfl, k7⟩
    have k7 := stepB k5 k7
    go_wp2_with fail
    refine (d4.out _).mono ?_; rintro e w8 ⟨rfl, k8⟩
    have k8 := stepB k7 k8
    go_wp2_with fail
    refine (awake_any _).mono ?_; rintro e w9 ⟨rfl, k9⟩
    go_wp2_with fail
    go_ret
    exact ⟨rfl, stepB k8 k9⟩

/-! ### The row's step -/
set_option maxRecDepth 100000 in
theorem lifted (os : Os) (started : os.Started) (H : Type) (enc : TypeId × Value → H) :
    ReturnsInHanded {} Try.checked os 3 .any (Rows.cborPutsSpec.pre6 enc Try.prog Try.f3 Rows.cborPutsRow.domain false) (Rows.cborPutsSpec.post enc Try.prog Try.f3 false true false false) := by
  refine returnsInHanded_of_change (C := Try.checked) own started (by kernel_rfl) Try.func3
    (ChangeSpec.witness6 (enc := enc) (C := Try.checked) false ⟨#[], #[.int .i64 0, .string ByteArray.empty, .bool false], []⟩ 8 (by kernel_rfl) (by kernel_rfl) (by kernel_rfl) (by kernel_rfl)) ?_
  intro W base args ds gs before hval0 hW hcnd _
  have hval : ∀ (j : Nat) t v, Try.f3.params[j]? = some t → args[j]? = some v → Value.okWide Try.prog W .any base t v := hval0
  have hW' := hW
  obtain ⟨p, q, hA0, hV, rfl, hfz, hnd⟩ := hW
  have hA : DataW.TrodAll enc Try.prog W 0 (fun _ => true) true Try.f3.params.toList args.toList ds p := hA0
  rw [Try.params3] at hA hval
  obtain ⟨v0, vs0, d0, ds0, p0, q0, hargs, rfl, rfl, h0, r0⟩ := trodAll_cons hA
  obtain ⟨v1, vs1, d1, ds1, p1, q1, rfl, rfl, rfl, h1, r1⟩ := trodAll_cons r0
  obtain ⟨v2, vs2, d2, ds2, p2, q2, rfl, rfl, rfl, h2, r2⟩ := trodAll_cons r1
  obtain ⟨rfl, rfl, rfl⟩ := trodAll_nil r2
  obtain rfl : args = #[v0, v1, v2] := by cases args; simp_all
  obtain ⟨rfl, rfl⟩ := trodVars_none hV
  obtain ⟨a0, rfl, rfl, rfl, w0⟩ := open_int Try.underlying3 (hval 0 3 v0 rfl rfl) h0
  obtain ⟨b1, rfl, rfl, rfl, w1⟩ := open_string Try.underlying9 (hval 1 9 v1 rfl rfl) h1
  obtain ⟨a2, rfl, rfl, rfl⟩ := open_bool Try.underlying4 (hval 2 4 v2 rfl rfl) h2
  clear hA0 hval0
  simp only [List.append_nil] at hW'
  refine (walk a0 w0 b1 w1 a2 W).mono fun e W' ⟨he, hg⟩ => ?_
  subst he
  exact ⟨_, rfl, _, _, _, [], [], [], hW', (trodAll_cons_mk (shut_bool Try.underlying4 _) trodAll_mk0), (trodAll_cons_mk (shut_int Try.underlying3 w0) (trodAll_cons_mk (shut_string Try.underlying9 w1) (trodAll_cons_mk (shut_bool Try.underlying4 _) trodAll_mk0))), rfl, hg.frame _, fun h => by cases h⟩

theorem over : Rows.cborPutsRow.holds Try.pinned (OpenSpec.ofChange Rows.cborPutsSpec) :=
  OpenClaim.holds_of_wide 3 Try.f3 rfl rfl rfl rfl rfl rfl rfl ⟨rfl, rfl, rfl, rfl, rfl⟩ rfl rfl rfl rfl rfl (by kernel_rfl) Try.func3 (by kernel_rfl)
    (of_decide_eq_true (by kernel_rfl)) (by unfold Func.isWrapper; first | (rw [if_pos (by decide +kernel)]; kernel_rfl) | (rw [if_neg (by decide +kernel)]; exact ⟨rfl, rfl⟩))
    (fun os started H enc _ => lifted os started H enc)

/-- The statement. -/
theorem proved : Rows.CborPutsSaid :=
  over
#print axioms proved
end Go.Proofs.Ytglhbjfogbcddaa.cborPuts
