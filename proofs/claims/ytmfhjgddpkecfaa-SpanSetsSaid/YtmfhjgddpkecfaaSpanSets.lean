/-
  For every two lists of spans the law SpanSets (P8.2) returns true and leaves its arguments alone: Union, Inter and Minus agree with the reference (the law itself asks this of at most 60 spans each). No condition.
-/
import Derived.Test.YtmfhjgddpkecfaaRows
import Derived.WalkKit
import Derived.ProofKit
import Derived.OpenShut
import Derived.ShutString
import Derived.ChangeOld
import Derived.Below
import Derived.Carry
import Derived.Test.YtmfhjgddpkecfaaSpArg
namespace Go.Proofs.Ytmfhjgddpkecfaa.spanSets
open Go.ChangeShapes Go.WideShapes Go.ChangeAt Go.RowKit Go.Proofs.Ytmfhjgddpkecfaa.Sp
open Go.ChangeMaps (open_string shut_string)
set_option linter.unusedVariables false

theorem own : ownKnob Try.prog.godebug = none := by kernel_rfl
theorem laidOut : laidOutB Try.prog = true := by kernel_rfl



/-! ### The walk: the law returns true, and writes nothing that was there. -/
set_option maxRecDepth 100000 in
set_option maxHeartbeats 16000000 in
theorem walk (l0 : List Spn) (v0 : Value) (l1 : List Spn) (v1 : Value) (w : World) (h0 : SpnA w v0 l0) (h1 : SpnA w v1 l1) :
    Calls Try.prog 4 #[v0, v1] w fun e w' => e = .returned (.bool true) ∧ Below w.heap.size w w' := by
  obtain ⟨h0, g0⟩ := h0
  obtain ⟨h1, g1⟩ := h1
  have HL := Lib.hid h0
  have GL := Lib.hid g0
  have HM := Lib.hid h1
  have GM := Lib.hid g1
  obtain ⟨p0, c0, rfl⟩ := h0.nil
  obtain ⟨p1, c1, rfl⟩ := h1.nil
  clear h0 g0 h1 g1
  have cL := Lib.hid (large_any _ _ p0 p1 l0.length c0 l1.length c1 w rfl rfl)
  by_cases hbig : 60 < l0.length ∨ 60 < l1.length
  · have hbb : (decide (60 < l0.length) || decide (60 < l1.length)) = true := by
      rcases hbig with h | h
      · rw [decide_eq_true h, Bool.true_or]
      · rw [decide_eq_true h, Bool.or_true]
    rw [hbb] at cL
    clear hbig hbb
    go_enter Try.func4, Try.ntmps4
    go_wp2_with fail
    refine cL.out.mono ?_; rintro e w' ⟨rfl, rfl⟩
    clear cL
    go_wp2_with fail
    refine (awake_any _).mono ?_; rintro e w9 ⟨rfl, k9⟩
    go_wp2_with fail
    go_ret
    exact ⟨rfl, k9⟩
  · have hn : l0.length ≤ 60 := by omega
    have hm : l1.length ≤ 60 := by omega
    rw [decide_eq_false (show ¬ 60 < l0.length by omega), decide_eq_false (show ¬ 60 < l1.length by omega), Bool.false_or] at cL
    clear hbig
    have hu := norm_len (l0 ++ l1)
    rw [List.length_append] at hu
    have hx := norm_len (crossL l0 l1)
    rw [cross_len] at hx
    have hxx : l0.length * l1.length ≤ 60 * 60 := Nat.mul_le_mul hn hm
    have hd := minus_len l0 l1
    have hu : (unionL l0 l1).length ≤ 120 := by show (normL (l0 ++ l1)).length ≤ _; omega
    have hx : (interL l0 l1).length ≤ 3600 := by show (normL (crossL l0 l1)).length ≤ _; omega
    have hd : (minusL l0 l1).length ≤ 120 := by omega
    clear hxx
    have cq0 := Lib.hid (fun W (h : Below w.heap.size w W) => qUnion_any l0 l1 _ _ W (HL.out.below h) (HM.out.below h) (by omega) (by omega))
    have cr0 := Lib.hid (fun W (h : Below w.heap.size w W) => runion_any l0 l1 _ _ W (HL.out.below h) (HM.out.below h) (by omega) (by omega))
    have cS0 := Lib.hid (fun W va vb (h : Spns W va (unionL l0 l1)) (h2 : Spns W vb (unionL l0 l1)) => rsame_any (unionL l0 l1) (unionL l0 l1) va vb W h h2 (by omega) (by omega))
    rw [decide_eq_true rfl] at cS0
    unfold SpEnd at cq0
    unfold NoEnd at cr0
    generalize unionL l0 l1 = C0 at cq0 cr0 cS0
    have cq1 := Lib.hid (fun W (h : Below w.heap.size w W) => qInter_any l0 l1 _ _ W (HL.out.below h) (HM.out.below h) (by omega) (by omega))
    have cr1 := Lib.hid (fun W (h : Below w.heap.size w W) => rinter_any l0 l1 _ _ W (HL.out.below h) (HM.out.below h) (by omega) (by omega))
    have cS1 := Lib.hid (fun W va vb (h : Spns W va (interL l0 l1)) (h2 : Spns W vb (interL l0 l1)) => rsame_any (interL l0 l1) (interL l0 l1) va vb W h h2 (by omega) (by omega))
    rw [decide_eq_true rfl] at cS1
    unfold SpEnd at cq1
    unfold NoEnd at cr1
    generalize interL l0 l1 = C1 at cq1 cr1 cS1
    have cq2 := Lib.hid (fun W (h : Below w.heap.size w W) => qMinus_any l0 l1 _ _ W (HL.out.below h) (HM.out.below h) (by omega) (by omega) GL.out)
    have cr2 := Lib.hid (fun W (h : Below w.heap.size w W) => rminus_any l0 l1 _ _ W (HL.out.below h) (HM.out.below h) (by omega) (by omega))
    have cS2 := Lib.hid (fun W va vb (h : Spns W va (minusL l0 l1)) (h2 : Spns W vb (minusL l0 l1)) => rsame_any (minusL l0 l1) (minusL l0 l1) va vb W h h2 (by omega) (by omega))
    rw [decide_eq_true rfl] at cS2
    unfold SpEnd at cq2
    unfold NoEnd at cr2
    generalize minusL l0 l1 = C2 at cq2 cr2 cS2
    clear hn hm hu hx hd
    go_enter Try.func4, Try.ntmps4
    go_wp2_with fail
    refine cL.out.mono ?_; rintro e w' ⟨rfl, rfl⟩
    clear cL
    go_wp2_with fail
    have m0 := Below.refl w.heap.size w
    refine (cq0.out _ m0).mono ?_; rintro e w1 ⟨v1, rfl, o1, k1⟩
    have m1 := stepB m0 k1
    have o1 := Lib.hid o1
    go_wp2_with fail
    refine (cr0.out _ m1).mono ?_; rintro e w2 ⟨v2, rfl, o2, k2⟩
    have m2 := stepB m1 k2
    have n1 := Lib.hid (o1.out.below k2)
    have n2 := Lib.hid o2.spns
    clear o1 o2
    go_wp2_with fail
    refine (cS0.out _ _ _ n1.out n2.out).mono ?_; rintro e w3 ⟨rfl, k3⟩
    have a0 := stepB m2 k3
    clear n1 n2 m1 m2 k1 k2 k3
    go_wp2_with fail
    refine (cq1.out _ a0).mono ?_; rintro e w1 ⟨v1, rfl, o1, k1⟩
    have m1 := stepB a0 k1
    have o1 := Lib.hid o1
    go_wp2_with fail
    refine (cr1.out _ m1).mono ?_; rintro e w2 ⟨v2, rfl, o2, k2⟩
    have m2 := stepB m1 k2
    have n1 := Lib.hid (o1.out.below k2)
    have n2 := Lib.hid o2.spns
    clear o1 o2
    go_wp2_with fail
    refine (cS1.out _ _ _ n1.out n2.out).mono ?_; rintro e w3 ⟨rfl, k3⟩
    have a1 := stepB m2 k3
    clear n1 n2 m1 m2 k1 k2 k3
    go_wp2_with fail
    refine (cq2.out _ a1).mono ?_; rintro e w1 ⟨v1, rfl, o1, k1⟩
    have m1 := stepB a1 k1
    have o1 := Lib.hid o1
    go_wp2_with fail
    refine (cr2.out _ m1).mono ?_; rintro e w2 ⟨v2, rfl, o2, k2⟩
    have m2 := stepB m1 k2
    have n1 := Lib.hid (o1.out.below k2)
    have n2 := Lib.hid o2.spns
    clear o1 o2
    go_wp2_with fail
    refine (cS2.out _ _ _ n1.out n2.out).mono ?_; rintro e w3 ⟨rfl, k3⟩
    have a2 := stepB m2 k3
    clear n1 n2 m1 m2 k1 k2 k3
    go_wp2_with fail
    refine (awake_any _).mono ?_; rintro e w9 ⟨rfl, k9⟩
    go_wp2_with fail
    go_ret
    exact ⟨rfl, stepB a2 k9⟩

/-! ### The row's step -/
set_option maxRecDepth 100000 in
theorem lifted (os : Os) (started : os.Started) (H : Type) (enc : TypeId × Value → H) :
    ReturnsInHanded {} Try.checked os 4 .any (Rows.spanSetsSpec.pre6 enc Try.prog Try.f4 Rows.spanSetsRow.domain false) (Rows.spanSetsSpec.post enc Try.prog Try.f4 false true false false) := by
  refine returnsInHanded_of_change (C := Try.checked) own started (by kernel_rfl) Try.func4
    (ChangeSpec.witness6 (enc := enc) (C := Try.checked) false ⟨#[], #[.slice none 0 0, .slice none 0 0], []⟩ 8 (by kernel_rfl) (by kernel_rfl) (by kernel_rfl) (by kernel_rfl)) ?_
  intro W base args ds gs before hval0 hW hcnd _
  have hval : ∀ (j : Nat) t v, Try.f4.params[j]? = some t → args[j]? = some v → Value.okWide Try.prog W .any base t v := hval0
  have hW' := hW
  obtain ⟨p, q, hA0, hV, rfl, hfz, hnd⟩ := hW
  have hA : DataW.TrodAll enc Try.prog W 0 (fun _ => true) true Try.f4.params.toList args.toList ds p := hA0
  rw [Try.params4] at hA hval
  obtain ⟨v0, vs0, d0, ds0, p0, q0, hargs, rfl, rfl, h0, r0⟩ := trodAll_cons hA
  obtain ⟨v1, vs1, d1, ds1, p1, q1, rfl, rfl, rfl, h1, r1⟩ := trodAll_cons r0
  obtain ⟨rfl, rfl, rfl⟩ := trodAll_nil r1
  obtain rfl : args = #[v0, v1] := by cases args; simp_all
  obtain ⟨rfl, rfl⟩ := trodVars_none hV
  obtain ⟨a0, len0, cap0, rfl⟩ := okWide_slice Try.underlying22 (hval 0 22 v0 rfl rfl)
  have k0 := h0
  have lt0 : ∀ x ∈ p0, x.block < W.heap.size := by obtain ⟨m, hm⟩ := k0; exact DataW.trod_lt m _ _ _ hm
  obtain ⟨l0, s0⟩ := spns_arg h0
  obtain ⟨a1, len1, cap1, rfl⟩ := okWide_slice Try.underlying22 (hval 1 22 v1 rfl rfl)
  have k1 := h1
  have lt1 : ∀ x ∈ p1, x.block < W.heap.size := by obtain ⟨m, hm⟩ := k1; exact DataW.trod_lt m _ _ _ hm
  obtain ⟨l1, s1⟩ := spns_arg h1
  clear hA0 hval0
  simp only [List.append_nil] at hW'
  refine (walk l0 _ l1 _ W s0 s1).mono fun e W' ⟨he, hg⟩ => ?_
  subst he
  exact ⟨_, rfl, _, _, _, [], _, [], hW', trodAll_mk1 (shut_bool Try.underlying4 _), (trodAll_cons_mk (Below.trod laidOut (by kernel_rfl) (of_decide_eq_true (by kernel_rfl)) k0 hg lt0) (trodAll_cons_mk (Below.trod laidOut (by kernel_rfl) (of_decide_eq_true (by kernel_rfl)) k1 hg lt1) trodAll_mk0)), rfl, hg.frame _, fun h => by cases h⟩

theorem over : Rows.spanSetsRow.holds Try.pinned (OpenSpec.ofChange Rows.spanSetsSpec) :=
  OpenClaim.holds_of_wide 4 Try.f4 rfl rfl rfl rfl rfl rfl rfl ⟨rfl, rfl, rfl, rfl, rfl⟩ rfl rfl rfl rfl rfl (by kernel_rfl) Try.func4 (by kernel_rfl)
    (of_decide_eq_true (by kernel_rfl)) (by unfold Func.isWrapper; first | (rw [if_pos (by decide +kernel)]; kernel_rfl) | (rw [if_neg (by decide +kernel)]; exact ⟨rfl, rfl⟩))
    (fun os started H enc _ => lifted os started H enc)

/-- The statement. -/
theorem proved : Rows.SpanSetsSaid :=
  over
#print axioms proved
end Go.Proofs.Ytmfhjgddpkecfaa.spanSets
