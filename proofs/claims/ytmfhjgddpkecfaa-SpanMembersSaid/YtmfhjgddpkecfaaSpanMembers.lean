/-
  For every two lists of spans and every number the law SpanMembers (P8.4) returns true and leaves its arguments alone: an integer is in the union, the intersection and the difference exactly if the definitions say so, and all results are in canonical form (the law itself asks this of at most 60 spans each). No condition.
-/
import Derived.Test.YtmfhjgddpkecfaaRows
import Derived.WalkKit
import Derived.ProofKit
import Derived.OpenShut
import Derived.ShutString
import Derived.ChangeOld
import Derived.Below
import Derived.Carry
import Derived.Test.YtmfhjgddpkecfaaSpArg
namespace Go.Proofs.Ytmfhjgddpkecfaa.spanMembers
open Go.ChangeShapes Go.WideShapes Go.ChangeAt Go.RowKit Go.Proofs.Ytmfhjgddpkecfaa.Sp
open Go.ChangeMaps (open_string shut_string)
set_option linter.unusedVariables false

theorem own : ownKnob Try.prog.godebug = none := by kernel_rfl
theorem laidOut : laidOutB Try.prog = true := by kernel_rfl

theorem step4 {w w' : World} {a b c d : Value} {A B C D : List Spn} (h : Spns w a A ∧ Spns w b B ∧ Spns w c C ∧ Spns w d D) (k : Below w.heap.size w w') : Spns w' a A ∧ Spns w' b B ∧ Spns w' c C ∧ Spns w' d D := ⟨h.1.below k, h.2.1.below k, h.2.2.1.below k, h.2.2.2.below k⟩

/-! ### The walk: the law returns true, and writes nothing that was there. -/
set_option maxRecDepth 100000 in
set_option maxHeartbeats 16000000 in
theorem walk (l0 : List Spn) (v0 : Value) (l1 : List Spn) (v1 : Value) (a2 : Int) (w2 : (Lit.int .i64 a2).wf = true) (w : World) (h0 : SpnA w v0 l0) (h1 : SpnA w v1 l1) :
    Calls Try.prog 6 #[v0, v1, .int .i64 a2] w fun e w' => e = .returned (.bool true) ∧ Below w.heap.size w w' := by
  obtain ⟨h0, g0⟩ := h0
  obtain ⟨h1, g1⟩ := h1
  have HL := Lib.hid h0
  have GL := Lib.hid g0
  have HM := Lib.hid h1
  have GM := Lib.hid g1
  obtain ⟨p0, c0, rfl⟩ := h0.nil
  obtain ⟨p1, c1, rfl⟩ := h1.nil
  clear h0 g0 h1 g1
  have cL := Lib.hid (large_any _ _ p0 p1 l0.length c0 l1.length c1 w rfl rfl)
  by_cases hbig : 60 < l0.length ∨ 60 < l1.length
  · have hbb : (decide (60 < l0.length) || decide (60 < l1.length)) = true := by
      rcases hbig with h | h
      · rw [decide_eq_true h, Bool.true_or]
      · rw [decide_eq_true h, Bool.or_true]
    rw [hbb] at cL
    clear hbig hbb
    go_enter Try.func6, Try.ntmps6
    go_wp2_with fail
    refine cL.out.mono ?_; rintro e w' ⟨rfl, rfl⟩
    clear cL
    go_wp2_with fail
    refine (awake_any _).mono ?_; rintro e w9 ⟨rfl, k9⟩
    go_wp2_with fail
    go_ret
    exact ⟨rfl, k9⟩
  · have hn : l0.length ≤ 60 := by omega
    have hm : l1.length ≤ 60 := by omega
    rw [decide_eq_false (show ¬ 60 < l0.length by omega), decide_eq_false (show ¬ 60 < l1.length by omega), Bool.false_or] at cL
    clear hbig
    have hu := norm_len (l0 ++ l1)
    rw [List.length_append] at hu
    have hx := norm_len (crossL l0 l1)
    rw [cross_len] at hx
    have hxx : l0.length * l1.length ≤ 60 * 60 := Nat.mul_le_mul hn hm
    have hd := minus_len l0 l1
    have hu : (unionL l0 l1).length ≤ 120 := by show (normL (l0 ++ l1)).length ≤ _; omega
    have hx : (interL l0 l1).length ≤ 3600 := by show (normL (crossL l0 l1)).length ≤ _; omega
    have hd : (minusL l0 l1).length ≤ 120 := by omega
    clear hxx
    have hcn := norm_len l0
    have c1 := Lib.hid (fun W (h : Below w.heap.size w W) => qUnion_any l0 l1 _ _ W (HL.out.below h) (HM.out.below h) (by omega) (by omega))
    have c2 := Lib.hid (fun W (h : Below w.heap.size w W) => qInter_any l0 l1 _ _ W (HL.out.below h) (HM.out.below h) (by omega) (by omega))
    have c3 := Lib.hid (fun W (h : Below w.heap.size w W) => qMinus_any l0 l1 _ _ W (HL.out.below h) (HM.out.below h) (by omega) (by omega) GL.out)
    have c4 := Lib.hid (fun W (h : Below w.heap.size w W) => qNormal_any l0 _ W (HL.out.below h) (by omega))
    unfold SpEnd at c1 c2 c3 c4
    have cA := Lib.hid (fun W (h : Below w.heap.size w W) => qHas_any l0 _ a2 W (HL.out.below h) (by omega))
    have cB := Lib.hid (fun W (h : Below w.heap.size w W) => qHas_any l1 _ a2 W (HM.out.below h) (by omega))
    have cHU := Lib.hid (fun v W (h : Spns W v (unionL l0 l1)) => qHas_any (unionL l0 l1) v a2 W h (by omega))
    have cCU := Lib.hid (fun v W (h : Spns W v (unionL l0 l1)) => canonical_any (unionL l0 l1) v W h (by omega))
    have cHX := Lib.hid (fun v W (h : Spns W v (interL l0 l1)) => qHas_any (interL l0 l1) v a2 W h (by omega))
    have cCX := Lib.hid (fun v W (h : Spns W v (interL l0 l1)) => canonical_any (interL l0 l1) v W h (by omega))
    have cHD := Lib.hid (fun v W (h : Spns W v (minusL l0 l1)) => qHas_any (minusL l0 l1) v a2 W h (by omega))
    have cCD := Lib.hid (fun v W (h : Spns W v (minusL l0 l1)) => canonical_any (minusL l0 l1) v W h (by omega))
    have cHN := Lib.hid (fun v W (h : Spns W v (normL l0)) => qHas_any (normL l0) v a2 W h (by omega))
    have cCN := Lib.hid (fun v W (h : Spns W v (normL l0)) => canonical_any (normL l0) v W h (by omega))
    have cNU := Lib.hid (fun v W (h : Spns W v (unionL l0 l1)) => qNormal_any (unionL l0 l1) v W h (by omega))
    unfold SpEnd at cNU
    rw [norm_same (union_canon l0 l1)] at cNU
    have cS := Lib.hid (fun W va vb (h : Spns W va (unionL l0 l1)) (h2 : Spns W vb (unionL l0 l1)) => rsame_any (unionL l0 l1) (unionL l0 l1) va vb W h h2 (by omega) (by omega))
    rw [decide_eq_true rfl] at cS
    rw [(canonB_iff _).2 (union_canon l0 l1)] at cCU
    rw [(canonB_iff _).2 (inter_canon l0 l1)] at cCX
    rw [(canonB_iff _).2 (minus_canon l0 l1)] at cCD
    rw [(canonB_iff _).2 (norm_canon l0)] at cCN
    have eU : hasB (unionL l0 l1) a2 = (hasB l0 a2 || hasB l1 a2) := by rw [Bool.eq_iff_iff, has_iff, union_mem, Bool.or_eq_true, has_iff, has_iff]
    have eX : hasB (interL l0 l1) a2 = (hasB l0 a2 && hasB l1 a2) := by rw [Bool.eq_iff_iff, has_iff, inter_mem, Bool.and_eq_true, has_iff, has_iff]
    have eD : hasB (minusL l0 l1) a2 = (hasB l0 a2 && !hasB l1 a2) := by rw [Bool.eq_iff_iff, has_iff, minus_mem, Bool.and_eq_true, has_iff, Bool.not_eq_true', ← Bool.not_eq_true, has_iff]
    have eN : hasB (normL l0) a2 = hasB l0 a2 := by rw [Bool.eq_iff_iff, has_iff, norm_mem, has_iff]
    rw [eU] at cHU
    rw [eX] at cHX
    rw [eD] at cHD
    rw [eN] at cHN
    generalize unionL l0 l1 = LU at c1 cHU cCU cNU cS
    generalize interL l0 l1 = LX at c2 cHX cCX
    generalize minusL l0 l1 = LD at c3 cHD cCD
    generalize normL l0 = LN at c4 cHN cCN
    generalize hasB l0 a2 = A at cA cHU cHX cHD cHN
    generalize hasB l1 a2 = B at cB cHU cHX cHD
    clear hn hm hu hx hd hcn w2 eU eX eD eN
    cases A <;> cases B
    all_goals (
      simp only [Bool.or_true, Bool.or_false, Bool.and_true, Bool.and_false, Bool.not_true, Bool.not_false] at cHU cHX cHD cHN
      go_enter Try.func6, Try.ntmps6
      go_wp2_with fail
      refine cL.out.mono ?_; rintro e w' ⟨rfl, rfl⟩
      clear cL
      go_wp2_with fail
      refine (c1.out _ (Below.refl _ _)).mono ?_; rintro e w1 ⟨v1, rfl, o1, m1⟩
      obtain ⟨pU, qU, rfl⟩ := o1.nil
      have o1 := Lib.hid o1
      go_wp2_with fail
      refine (c2.out _ m1).mono ?_; rintro e w2 ⟨v2, rfl, o2, k2⟩
      obtain ⟨pX, qX, rfl⟩ := o2.nil
      have m2 := stepB m1 k2
      have u2 := Lib.hid (o1.out.below k2)
      have o2 := Lib.hid o2
      clear o1
      go_wp2_with fail
      refine (c3.out _ m2).mono ?_; rintro e w3 ⟨v3, rfl, o3, k3⟩
      obtain ⟨pD, qD, rfl⟩ := o3.nil
      have m3 := stepB m2 k3
      have u3 := Lib.hid (u2.out.below k3)
      have x3 := Lib.hid (o2.out.below k3)
      have o3 := Lib.hid o3
      clear u2 o2
      go_wp2_with fail
      refine (c4.out _ m3).mono ?_; rintro e w4 ⟨v4, rfl, o4, k4⟩
      obtain ⟨pN, qN, rfl⟩ := o4.nil
      have m4 := stepB m3 k4
      have B4 := Lib.hid ((⟨u3.out.below k4, x3.out.below k4, o3.out.below k4, o4⟩ : Spns w4 _ LU ∧ Spns w4 _ LX ∧ Spns w4 _ LD ∧ Spns w4 _ LN))
      clear u3 x3 o3 o4 k4 k3 k2 c1 c2 c3 c4
      go_wp2_with fail
      refine (cA.out _ m4).mono ?_; rintro e w5 ⟨rfl, k5⟩
      have m5 := stepB m4 k5
      have B5 := Lib.hid (step4 B4.out k5)
      clear B4 m4
      go_wp2_with fail
      refine (cB.out _ m5).mono ?_; rintro e w6 ⟨rfl, k6⟩
      have m6 := stepB m5 k6
      have B6 := Lib.hid (step4 B5.out k6)
      clear B5 m5
      go_wp2_with fail
      refine (cHU.out _ _ B6.out.1).mono ?_; rintro e w7 ⟨rfl, k7⟩
      have m7 := stepB m6 k7
      have B7 := Lib.hid (step4 B6.out k7)
      clear B6 m6
      go_wp2_with fail
      refine (cHX.out _ _ B7.out.2.1).mono ?_; rintro e w8 ⟨rfl, k8⟩
      have m8 := stepB m7 k8
      have B8 := Lib.hid (step4 B7.out k8)
      clear B7 m7
      go_wp2_with fail
      refine (cHD.out _ _ B8.out.2.2.1).mono ?_; rintro e wa ⟨rfl, ka⟩
      have ma := stepB m8 ka
      have Ba := Lib.hid (step4 B8.out ka)
      clear B8 m8
      go_wp2_with fail
      refine (cHN.out _ _ Ba.out.2.2.2).mono ?_; rintro e wb ⟨rfl, kb⟩
      have mb := stepB ma kb
      have Bb := Lib.hid (step4 Ba.out kb)
      clear Ba ma
      go_wp2_with fail
      refine (cCU.out _ _ Bb.out.1).mono ?_; rintro e wc ⟨rfl, kc⟩
      have mc := stepB mb kc
      have Bc := Lib.hid (step4 Bb.out kc)
      clear Bb mb
      go_wp2_with fail
      refine (cCX.out _ _ Bc.out.2.1).mono ?_; rintro e wd ⟨rfl, kd⟩
      have md := stepB mc kd
      have Bd := Lib.hid (step4 Bc.out kd)
      clear Bc mc
      go_wp2_with fail
      refine (cCD.out _ _ Bd.out.2.2.1).mono ?_; rintro e we ⟨rfl, ke⟩
      have me := stepB md ke
      have Be := Lib.hid (step4 Bd.out ke)
      clear Bd md
      go_wp2_with fail
      refine (cCN.out _ _ Be.out.2.2.2).mono ?_; rintro e wf ⟨rfl, kf⟩
      have mf := stepB me kf
      have Bf := Lib.hid (step4 Be.out kf)
      clear Be me
      go_wp2_with fail
      refine (cNU.out _ _ Bf.out.1).mono ?_; rintro e wg ⟨vg, rfl, og, kg⟩
      have mg := stepB mf kg
      have Bg := Lib.hid (step4 Bf.out kg)
      have og := Lib.hid og
      clear Bf mf
      go_wp2_with fail
      refine (cS.out _ _ _ og.out Bg.out.1).mono ?_; rintro e wh ⟨rfl, kh⟩
      have mh := stepB mg kh
      clear Bg og mg
      go_wp2_with fail
      refine (awake_any _).mono ?_; rintro e w9 ⟨rfl, k9⟩
      go_wp2_with fail
      go_ret
      exact ⟨rfl, stepB mh k9⟩)

/-! ### The row's step -/
set_option maxRecDepth 100000 in
theorem lifted (os : Os) (started : os.Started) (H : Type) (enc : TypeId × Value → H) :
    ReturnsInHanded {} Try.checked os 6 .any (Rows.spanMembersSpec.pre6 enc Try.prog Try.f6 Rows.spanMembersRow.domain false) (Rows.spanMembersSpec.post enc Try.prog Try.f6 false true false false) := by
  refine returnsInHanded_of_change (C := Try.checked) own started (by kernel_rfl) Try.func6
    (ChangeSpec.witness6 (enc := enc) (C := Try.checked) false ⟨#[], #[.slice none 0 0, .slice none 0 0, .int .i64 0], []⟩ 8 (by kernel_rfl) (by kernel_rfl) (by kernel_rfl) (by kernel_rfl)) ?_
  intro W base args ds gs before hval0 hW hcnd _
  have hval : ∀ (j : Nat) t v, Try.f6.params[j]? = some t → args[j]? = some v → Value.okWide Try.prog W .any base t v := hval0
  have hW' := hW
  obtain ⟨p, q, hA0, hV, rfl, hfz, hnd⟩ := hW
  have hA : DataW.TrodAll enc Try.prog W 0 (fun _ => true) true Try.f6.params.toList args.toList ds p := hA0
  rw [Try.params6] at hA hval
  obtain ⟨v0, vs0, d0, ds0, p0, q0, hargs, rfl, rfl, h0, r0⟩ := trodAll_cons hA
  obtain ⟨v1, vs1, d1, ds1, p1, q1, rfl, rfl, rfl, h1, r1⟩ := trodAll_cons r0
  obtain ⟨v2, vs2, d2, ds2, p2, q2, rfl, rfl, rfl, h2, r2⟩ := trodAll_cons r1
  obtain ⟨rfl, rfl, rfl⟩ := trodAll_nil r2
  obtain rfl : args = #[v0, v1, v2] := by cases args; simp_all
  obtain ⟨rfl, rfl⟩ := trodVars_none hV
  obtain ⟨a0, len0, cap0, rfl⟩ := okWide_slice Try.underlying22 (hval 0 22 v0 rfl rfl)
  have k0 := h0
  have lt0 : ∀ x ∈ p0, x.block < W.heap.size := by obtain ⟨m, hm⟩ := k0; exact DataW.trod_lt m _ _ _ hm
  obtain ⟨l0, s0⟩ := spns_arg h0
  obtain ⟨a1, len1, cap1, rfl⟩ := okWide_slice Try.underlying22 (hval 1 22 v1 rfl rfl)
  have k1 := h1
  have lt1 : ∀ x ∈ p1, x.block < W.heap.size := by obtain ⟨m, hm⟩ := k1; exact DataW.trod_lt m _ _ _ hm
  obtain ⟨l1, s1⟩ := spns_arg h1
  obtain ⟨a2, rfl, rfl, rfl, w2⟩ := open_int Try.underlying3 (hval 2 3 v2 rfl rfl) h2
  clear hA0 hval0
  simp only [List.append_nil] at hW'
  refine (walk l0 _ l1 _ a2 w2 W s0 s1).mono fun e W' ⟨he, hg⟩ => ?_
  subst he
  exact ⟨_, rfl, _, _, _, [], _, [], hW', trodAll_mk1 (shut_bool Try.underlying4 _), (trodAll_cons_mk (Below.trod laidOut (by kernel_rfl) (of_decide_eq_true (by kernel_rfl)) k0 hg lt0) (trodAll_cons_mk (Below.trod laidOut (by kernel_rfl) (of_decide_eq_true (by kernel_rfl)) k1 hg lt1) (trodAll_cons_mk (shut_int Try.underlying3 w2) trodAll_mk0))), rfl, hg.frame _, fun h => by cases h⟩

theorem over : Rows.spanMembersRow.holds Try.pinned (OpenSpec.ofChange Rows.spanMembersSpec) :=
  OpenClaim.holds_of_wide 6 Try.f6 rfl rfl rfl rfl rfl rfl rfl ⟨rfl, rfl, rfl, rfl, rfl⟩ rfl rfl rfl rfl rfl (by kernel_rfl) Try.func6 (by kernel_rfl)
    (of_decide_eq_true (by kernel_rfl)) (by unfold Func.isWrapper; first | (rw [if_pos (by decide +kernel)]; kernel_rfl) | (rw [if_neg (by decide +kernel)]; exact ⟨rfl, rfl⟩))
    (fun os started H enc _ => lifted os started H enc)

/-- The statement. -/
theorem proved : Rows.SpanMembersSaid :=
  over
#print axioms proved
end Go.Proofs.Ytmfhjgddpkecfaa.spanMembers
