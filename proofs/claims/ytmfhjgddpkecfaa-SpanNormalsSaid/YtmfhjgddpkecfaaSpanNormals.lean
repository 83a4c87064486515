/-
  For every list of spans and every number the law SpanNormals (P8.1) returns true and leaves its arguments alone: Normal, Total and Has agree with the reference (the law itself asks this of at most 60 spans). No condition.
-/
import Derived.Test.YtmfhjgddpkecfaaRows
import Derived.WalkKit
import Derived.ProofKit
import Derived.OpenShut
import Derived.ShutString
import Derived.ChangeOld
import Derived.Below
import Derived.Carry
import Derived.Test.YtmfhjgddpkecfaaSpArg
namespace Go.Proofs.Ytmfhjgddpkecfaa.spanNormals
open Go.ChangeShapes Go.WideShapes Go.ChangeAt Go.RowKit Go.Proofs.Ytmfhjgddpkecfaa.Sp
open Go.ChangeMaps (open_string shut_string)
set_option linter.unusedVariables false

theorem own : ownKnob Try.prog.godebug = none := by kernel_rfl
theorem laidOut : laidOutB Try.prog = true := by kernel_rfl



/-! ### The walk: the law returns true, and writes nothing that was there. -/
set_option maxRecDepth 100000 in
set_option maxHeartbeats 16000000 in
theorem walk (l0 : List Spn) (v0 : Value) (a1 : Int) (w1 : (Lit.int .i64 a1).wf = true) (w : World) (h0 : SpnA w v0 l0) :
    Calls Try.prog 3 #[v0, .int .i64 a1] w fun e w' => e = .returned (.bool true) ∧ Below w.heap.size w w' := by
  obtain ⟨h0, g0⟩ := h0
  have HL := Lib.hid h0
  have GL := Lib.hid g0
  obtain ⟨p0, c0, rfl⟩ := h0.nil
  clear h0 g0
  have cL := Lib.hid (large_any _ _ p0 none l0.length c0 0 0 w rfl rfl)
  by_cases hbig : 60 < l0.length
  · rw [decide_eq_true hbig, Bool.true_or] at cL
    clear hbig
    go_enter Try.func3, Try.ntmps3
    go_wp2_with fail
    refine cL.out.mono ?_; rintro e w' ⟨rfl, rfl⟩
    clear cL
    go_wp2_with fail
    refine (awake_any _).mono ?_; rintro e w9 ⟨rfl, k9⟩
    go_wp2_with fail
    go_ret
    exact ⟨rfl, k9⟩
  · rw [decide_eq_false hbig, Bool.false_or, decide_eq_false (show ¬ 60 < 0 by decide)] at cL
    have hn : l0.length ≤ 60 := by omega
    clear hbig
    have c1 := Lib.hid (fun W (h : Below w.heap.size w W) => qNormal_any l0 _ W (HL.out.below h) (by omega))
    have c2 := Lib.hid (fun W (h : Below w.heap.size w W) => rnormal_any l0 _ W (HL.out.below h) (by omega))
    have c3 := Lib.hid (fun W (h : Below w.heap.size w W) => qTotal_any l0 _ W (HL.out.below h) (by omega) GL.out)
    have c4 := Lib.hid (fun W (h : Below w.heap.size w W) => rtotal_any l0 _ W (HL.out.below h) (by omega) GL.out)
    have c5 := Lib.hid (fun W (h : Below w.heap.size w W) => qHas_any l0 _ a1 W (HL.out.below h) (by omega))
    have c6 := Lib.hid (fun W (h : Below w.heap.size w W) => rhas_any l0 _ a1 W (HL.out.below h) (by omega))
    have hnl := norm_len l0
    have cS := Lib.hid (fun W va vb (h : Spns W va (normL l0)) (h2 : Spns W vb (normL l0)) => rsame_any (normL l0) (normL l0) va vb W h h2 (by omega) (by omega))
    rw [decide_eq_true rfl] at cS
    unfold SpEnd at c1
    unfold NoEnd at c2
    generalize normL l0 = C at c1 c2 cS
    generalize totV l0 = V at c3 c4
    generalize hasB l0 a1 = B at c5 c6
    have hV : (V == V) = true := beq_self_eq_true _
    have hB : (B == B) = true := beq_self_eq_true _
    clear hn w1 hnl
    go_enter Try.func3, Try.ntmps3
    go_wp2_with fail
    refine cL.out.mono ?_; rintro e w' ⟨rfl, rfl⟩
    clear cL
    go_wp2_with fail
    refine (c1.out _ (Below.refl _ _)).mono ?_; rintro e w1 ⟨v1, rfl, o1, k1⟩
    have o1 := Lib.hid o1
    go_wp2_with fail
    refine (c2.out _ k1).mono ?_; rintro e w2 ⟨v2, rfl, o2, k2⟩
    have m2 := stepB k1 k2
    have n1 := Lib.hid (o1.out.below k2)
    have n2 := Lib.hid o2.spns
    clear o1 o2
    go_wp2_with fail
    refine (cS.out _ _ _ n1.out n2.out).mono ?_; rintro e w3 ⟨rfl, k3⟩
    have m3 := stepB m2 k3
    clear n1 n2 m2 k1 k2 k3
    go_wp2_with fail
    refine (c3.out _ m3).mono ?_; rintro e w4 ⟨rfl, k4⟩
    have m4 := stepB m3 k4
    go_wp2_with fail
    refine (c4.out _ m4).mono ?_; rintro e w5 ⟨rfl, k5⟩
    have m5 := stepB m4 k5
    go_wp2_with fail
    refine (c5.out _ m5).mono ?_; rintro e w6 ⟨rfl, k6⟩
    have m6 := stepB m5 k6
    go_wp2_with fail
    refine (c6.out _ m6).mono ?_; rintro e w7 ⟨rfl, k7⟩
    have m7 := stepB m6 k7
    go_wp2_with fail
    refine (awake_any _).mono ?_; rintro e w9 ⟨rfl, k9⟩
    go_wp2_with fail
    go_ret
    exact ⟨rfl, stepB m7 k9⟩

/-! ### The row's step -/
set_option maxRecDepth 100000 in
theorem lifted (os : Os) (started : os.Started) (H : Type) (enc : TypeId × Value → H) :
    ReturnsInHanded {} Try.checked os 3 .any (Rows.spanNormalsSpec.pre6 enc Try.prog Try.f3 Rows.spanNormalsRow.domain false) (Rows.spanNormalsSpec.post enc Try.prog Try.f3 false true false false) := by
  refine returnsInHanded_of_change (C := Try.checked) own started (by kernel_rfl) Try.func3
    (ChangeSpec.witness6 (enc := enc) (C := Try.checked) false ⟨#[], #[.slice none 0 0, .int .i64 0], []⟩ 8 (by kernel_rfl) (by kernel_rfl) (by kernel_rfl) (by kernel_rfl)) ?_
  intro W base args ds gs before hval0 hW hcnd _
  have hval : ∀ (j : Nat) t v, Try.f3.params[j]? = some t → args[j]? = some v → Value.okWide Try.prog W .any base t v := hval0
  have hW' := hW
  obtain ⟨p, q, hA0, hV, rfl, hfz, hnd⟩ := hW
  have hA : DataW.TrodAll enc Try.prog W 0 (fun _ => true) true Try.f3.params.toList args.toList ds p := hA0
  rw [Try.params3] at hA hval
  obtain ⟨v0, vs0, d0, ds0, p0, q0, hargs, rfl, rfl, h0, r0⟩ := trodAll_cons hA
  obtain ⟨v1, vs1, d1, ds1, p1, q1, rfl, rfl, rfl, h1, r1⟩ := trodAll_cons r0
  obtain ⟨rfl, rfl, rfl⟩ := trodAll_nil r1
  obtain rfl : args = #[v0, v1] := by cases args; simp_all
  obtain ⟨rfl, rfl⟩ := trodVars_none hV
  obtain ⟨a0, len0, cap0, rfl⟩ := okWide_slice Try.underlying22 (hval 0 22 v0 rfl rfl)
  have k0 := h0
  have lt0 : ∀ x ∈ p0, x.block < W.heap.size := by obtain ⟨m, hm⟩ := k0; exact DataW.trod_lt m _ _ _ hm
  obtain ⟨l0, s0⟩ := spns_arg h0
  obtain ⟨a1, rfl, rfl, rfl, w1⟩ := open_int Try.underlying3 (hval 1 3 v1 rfl rfl) h1
  clear hA0 hval0
  simp only [List.append_nil] at hW'
  refine (walk l0 _ a1 w1 W s0).mono fun e W' ⟨he, hg⟩ => ?_
  subst he
  exact ⟨_, rfl, _, _, _, [], _, [], hW', trodAll_mk1 (shut_bool Try.underlying4 _), (trodAll_cons_mk (Below.trod laidOut (by kernel_rfl) (of_decide_eq_true (by kernel_rfl)) k0 hg lt0) (trodAll_cons_mk (shut_int Try.underlying3 w1) trodAll_mk0)), rfl, hg.frame _, fun h => by cases h⟩

theorem over : Rows.spanNormalsRow.holds Try.pinned (OpenSpec.ofChange Rows.spanNormalsSpec) :=
  OpenClaim.holds_of_wide 3 Try.f3 rfl rfl rfl rfl rfl rfl rfl ⟨rfl, rfl, rfl, rfl, rfl⟩ rfl rfl rfl rfl rfl (by kernel_rfl) Try.func3 (by kernel_rfl)
    (of_decide_eq_true (by kernel_rfl)) (by unfold Func.isWrapper; first | (rw [if_pos (by decide +kernel)]; kernel_rfl) | (rw [if_neg (by decide +kernel)]; exact ⟨rfl, rfl⟩))
    (fun os started H enc _ => lifted os started H enc)

/-- The statement. -/
theorem proved : Rows.SpanNormalsSaid :=
  over
#print axioms proved
end Go.Proofs.Ytmfhjgddpkecfaa.spanNormals
