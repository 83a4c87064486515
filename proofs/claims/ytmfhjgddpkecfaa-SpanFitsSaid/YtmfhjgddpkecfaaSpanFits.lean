/-
  For every list of spans, beginning and length the law SpanFits (P8.3) returns true and leaves its arguments alone: Fit agrees with the reference (the law itself asks this of at most 60 spans). No condition.
-/
import Derived.Test.YtmfhjgddpkecfaaRows
import Derived.WalkKit
import Derived.ProofKit
import Derived.OpenShut
import Derived.ShutString
import Derived.ChangeOld
import Derived.Below
import Derived.Carry
import Derived.Test.YtmfhjgddpkecfaaSpArg
namespace Go.Proofs.Ytmfhjgddpkecfaa.spanFits
open Go.ChangeShapes Go.WideShapes Go.ChangeAt Go.RowKit Go.Proofs.Ytmfhjgddpkecfaa.Sp
open Go.ChangeMaps (open_string shut_string)
set_option linter.unusedVariables false

theorem own : ownKnob Try.prog.godebug = none := by kernel_rfl
theorem laidOut : laidOutB Try.prog = true := by kernel_rfl



/-! ### The walk: the law returns true, and writes nothing that was there. -/
set_option maxRecDepth 100000 in
set_option maxHeartbeats 16000000 in
theorem walk (l0 : List Spn) (v0 : Value) (a1 : Int) (w1 : (Lit.int .i64 a1).wf = true) (a2 : Int) (w2 : (Lit.int .i64 a2).wf = true) (w : World) (h0 : SpnA w v0 l0) :
    Calls Try.prog 5 #[v0, .int .i64 a1, .int .i64 a2] w fun e w' => e = .returned (.bool true) ∧ Below w.heap.size w w' := by
  obtain ⟨h0, g0⟩ := h0
  have HL := Lib.hid h0
  have GL := Lib.hid g0
  obtain ⟨p0, c0, rfl⟩ := h0.nil
  clear h0 g0
  have cL := Lib.hid (large_any _ _ p0 none l0.length c0 0 0 w rfl rfl)
  by_cases hbig : 60 < l0.length
  · rw [decide_eq_true hbig, Bool.true_or] at cL
    clear hbig
    go_enter Try.func5, Try.ntmps5
    go_wp2_with fail
    refine cL.out.mono ?_; rintro e w' ⟨rfl, rfl⟩
    clear cL
    go_wp2_with fail
    refine (awake_any _).mono ?_; rintro e w9 ⟨rfl, k9⟩
    go_wp2_with fail
    go_ret
    exact ⟨rfl, k9⟩
  · rw [decide_eq_false hbig, Bool.false_or, decide_eq_false (show ¬ 60 < 0 by decide)] at cL
    have hn : l0.length ≤ 60 := by omega
    clear hbig
    have c1 := Lib.hid (fun W (h : Below w.heap.size w W) => qFit_any l0 _ a1 a2 W (HL.out.below h) (by omega) GL.out (bounds_i64 w1) (bounds_i64 w2))
    have c2 := Lib.hid (fun W (h : Below w.heap.size w W) => rfit_any l0 _ a1 a2 W (HL.out.below h) (by omega) GL.out (bounds_i64 w1) (bounds_i64 w2))
    unfold FiEnd at c1 c2
    generalize fitV l0 a1 a2 = V at c1 c2
    generalize fitB l0 a1 a2 = B at c1 c2
    have hV : (V == V) = true := beq_self_eq_true _
    have hB : (B == B) = true := beq_self_eq_true _
    clear hn w1 w2
    go_enter Try.func5, Try.ntmps5
    go_wp2_with fail
    refine cL.out.mono ?_; rintro e w' ⟨rfl, rfl⟩
    clear cL
    go_wp2_with fail
    refine (c1.out _ (Below.refl _ _)).mono ?_; rintro e w1 ⟨rfl, k1⟩
    go_wp2_with fail
    refine (c2.out _ k1).mono ?_; rintro e w2 ⟨rfl, k2⟩
    have m2 := stepB k1 k2
    go_wp2_with fail
    refine (awake_any _).mono ?_; rintro e w9 ⟨rfl, k9⟩
    go_wp2_with fail
    go_ret
    exact ⟨rfl, stepB m2 k9⟩

/-! ### The row's step -/
set_option maxRecDepth 100000 in
theorem lifted (os : Os) (started : os.Started) (H : Type) (enc : TypeId × Value → H) :
    ReturnsInHanded {} Try.checked os 5 .any (Rows.spanFitsSpec.pre6 enc Try.prog Try.f5 Rows.spanFitsRow.domain false) (Rows.spanFitsSpec.post enc Try.prog Try.f5 false true false false) := by
  refine returnsInHanded_of_change (C := Try.checked) own started (by kernel_rfl) Try.func5
    (ChangeSpec.witness6 (enc := enc) (C := Try.checked) false ⟨#[], #[.slice none 0 0, .int .i64 0, .int .i64 0], []⟩ 8 (by kernel_rfl) (by kernel_rfl) (by kernel_rfl) (by kernel_rfl)) ?_
  intro W base args ds gs before hval0 hW hcnd _
  have hval : ∀ (j : Nat) t v, Try.f5.params[j]? = some t → args[j]? = some v → Value.okWide Try.prog W .any base t v := hval0
  have hW' := hW
  obtain ⟨p, q, hA0, hV, rfl, hfz, hnd⟩ := hW
  have hA : DataW.TrodAll enc Try.prog W 0 (fun _ => true) true Try.f5.params.toList args.toList ds p := hA0
  rw [Try.params5] at hA hval
  obtain ⟨v0, vs0, d0, ds0, p0, q0, hargs, rfl, rfl, h0, r0⟩ := trodAll_cons hA
  obtain ⟨v1, vs1, d1, ds1, p1, q1, rfl, rfl, rfl, h1, r1⟩ := trodAll_cons r0
  obtain ⟨v2, vs2, d2, ds2, p2, q2, rfl, rfl, rfl, h2, r2⟩ := trodAll_cons r1
  obtain ⟨rfl, rfl, rfl⟩ := trodAll_nil r2
  obtain rfl : args = #[v0, v1, v2] := by cases args; simp_all
  obtain ⟨rfl, rfl⟩ := trodVars_none hV
  obtain ⟨a0, len0, cap0, rfl⟩ := okWide_slice Try.underlying22 (hval 0 22 v0 rfl rfl)
  have k0 := h0
  have lt0 : ∀ x ∈ p0, x.block < W.heap.size := by obtain ⟨m, hm⟩ := k0; exact DataW.trod_lt m _ _ _ hm
  obtain ⟨l0, s0⟩ := spns_arg h0
  obtain ⟨a1, rfl, rfl, rfl, w1⟩ := open_int Try.underlying3 (hval 1 3 v1 rfl rfl) h1
  obtain ⟨a2, rfl, rfl, rfl, w2⟩ := open_int Try.underlying3 (hval 2 3 v2 rfl rfl) h2
  clear hA0 hval0
  simp only [List.append_nil] at hW'
  refine (walk l0 _ a1 w1 a2 w2 W s0).mono fun e W' ⟨he, hg⟩ => ?_
  subst he
  exact ⟨_, rfl, _, _, _, [], _, [], hW', trodAll_mk1 (shut_bool Try.underlying4 _), (trodAll_cons_mk (Below.trod laidOut (by kernel_rfl) (of_decide_eq_true (by kernel_rfl)) k0 hg lt0) (trodAll_cons_mk (shut_int Try.underlying3 w1) (trodAll_cons_mk (shut_int Try.underlying3 w2) trodAll_mk0))), rfl, hg.frame _, fun h => by cases h⟩

theorem over : Rows.spanFitsRow.holds Try.pinned (OpenSpec.ofChange Rows.spanFitsSpec) :=
  OpenClaim.holds_of_wide 5 Try.f5 rfl rfl rfl rfl rfl rfl rfl ⟨rfl, rfl, rfl, rfl, rfl⟩ rfl rfl rfl rfl rfl (by kernel_rfl) Try.func5 (by kernel_rfl)
    (of_decide_eq_true (by kernel_rfl)) (by unfold Func.isWrapper; first | (rw [if_pos (by decide +kernel)]; kernel_rfl) | (rw [if_neg (by decide +kernel)]; exact ⟨rfl, rfl⟩))
    (fun os started H enc _ => lifted os started H enc)

/-- The statement. -/
theorem proved : Rows.SpanFitsSaid :=
  over
#print axioms proved
end Go.Proofs.Ytmfhjgddpkecfaa.spanFits
