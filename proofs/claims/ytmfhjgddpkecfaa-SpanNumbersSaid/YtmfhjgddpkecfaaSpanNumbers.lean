/-
  For every two lists of spans the law SpanNumbers (P8.5) returns true and leaves its arguments alone: totals of two sets are those of their union and intersection, and the total of one set is that of the intersection and the difference (the law itself asks this of at most 60 spans each, with ends from -2^40 to 2^40). No condition.
-/
import Derived.Test.YtmfhjgddpkecfaaRows
import Derived.WalkKit
import Derived.ProofKit
import Derived.OpenShut
import Derived.ShutString
import Derived.ChangeOld
import Derived.Below
import Derived.Carry
import Derived.Test.YtmfhjgddpkecfaaSpArg
namespace Go.Proofs.Ytmfhjgddpkecfaa.spanNumbers
open Go.ChangeShapes Go.WideShapes Go.ChangeAt Go.RowKit Go.Proofs.Ytmfhjgddpkecfaa.Sp
open Go.ChangeMaps (open_string shut_string)
set_option linter.unusedVariables false

theorem own : ownKnob Try.prog.godebug = none := by kernel_rfl
theorem laidOut : laidOutB Try.prog = true := by kernel_rfl



/-! ### The walk: the law returns true, and writes nothing that was there. -/
set_option maxRecDepth 100000 in
set_option maxHeartbeats 16000000 in
theorem walk (l0 : List Spn) (v0 : Value) (l1 : List Spn) (v1 : Value) (w : World) (h0 : SpnA w v0 l0) (h1 : SpnA w v1 l1) :
    Calls Try.prog 7 #[v0, v1] w fun e w' => e = .returned (.bool true) ∧ Below w.heap.size w w' := by
  obtain ⟨h0, g0⟩ := h0
  obtain ⟨h1, g1⟩ := h1
  have HL := Lib.hid h0
  have GL := Lib.hid g0
  have HM := Lib.hid h1
  have GM := Lib.hid g1
  obtain ⟨p0, c0, rfl⟩ := h0.nil
  obtain ⟨p1, c1, rfl⟩ := h1.nil
  clear h0 g0 h1 g1
  have cL := Lib.hid (large_any _ _ p0 p1 l0.length c0 l1.length c1 w rfl rfl)
  by_cases hbig : 60 < l0.length ∨ 60 < l1.length
  · have hbb : (decide (60 < l0.length) || decide (60 < l1.length)) = true := by
      rcases hbig with h | h
      · rw [decide_eq_true h, Bool.true_or]
      · rw [decide_eq_true h, Bool.or_true]
    rw [hbb] at cL
    clear hbig hbb
    go_enter Try.func7, Try.ntmps7
    go_wp2_with fail
    refine cL.out.mono ?_; rintro e w' ⟨rfl, rfl⟩
    clear cL
    go_wp2_with fail
    refine (awake_any _).mono ?_; rintro e w9 ⟨rfl, k9⟩
    go_wp2_with fail
    go_ret
    exact ⟨rfl, k9⟩
  · have hn : l0.length ≤ 60 := by omega
    have hm : l1.length ≤ 60 := by omega
    rw [decide_eq_false (show ¬ 60 < l0.length by omega), decide_eq_false (show ¬ 60 < l1.length by omega), Bool.false_or] at cL
    clear hbig
    have hu := norm_len (l0 ++ l1)
    rw [List.length_append] at hu
    have hx := norm_len (crossL l0 l1)
    rw [cross_len] at hx
    have hxx : l0.length * l1.length ≤ 60 * 60 := Nat.mul_le_mul hn hm
    have hd := minus_len l0 l1
    have hu : (unionL l0 l1).length ≤ 120 := by show (normL (l0 ++ l1)).length ≤ _; omega
    have hx : (interL l0 l1).length ≤ 3600 := by show (normL (crossL l0 l1)).length ≤ _; omega
    have hd : (minusL l0 l1).length ≤ 120 := by omega
    clear hxx
    have wL := Lib.hid (fun W (h : Below w.heap.size w W) => near_any l0 _ W (HL.out.below h) (by omega))
    have wM := Lib.hid (fun W (h : Below w.heap.size w W) => near_any l1 _ W (HM.out.below h) (by omega))
    by_cases n0 : nearB l0 = true
    · rw [n0] at wL
      by_cases n1 : nearB l1 = true
      · rw [n1] at wM
        have E0 := near_ends n0
        have E1 := near_ends n1
        have e2 : (1099511627776 : Int) = -1099511627776 + ((2199023255552 : Nat) : Int) := rfl
        rw [e2] at E0 E1
        obtain ⟨s1, s2⟩ := size_union l0 l1 _ _ E0 E1
        have b0 := size_bounds (by decide) E0
        have b1 := size_bounds (by decide) E1
        have b2 := size_bounds (by decide) (union_ends E0 E1)
        have b3 := size_bounds (by decide) (inter_ends (b := l1) E0)
        have b4 := size_bounds (by decide) (minus_ends (b := l1) E0)
        rw [← e2] at b0 b1 b2 b3 b4
        have tv : ∀ l, sizeL l ≤ 1099511627776 - -1099511627776 → totV l = sizeL l := fun l h => by unfold totV; rw [if_neg (by omega)]
        have i64 : ∀ l, Go.Proofs.Ytmfhjgddpkecfaa.Sp.Ends (-1099511627776) (-1099511627776 + ((2199023255552 : Nat) : Int)) l → I64 l := fun l h x hx => by
          have := h x hx
          rw [← e2] at this
          omega
        have c1 := Lib.hid (fun W (h : Below w.heap.size w W) => qInter_any l0 l1 _ _ W (HL.out.below h) (HM.out.below h) (by omega) (by omega))
        have c2 := Lib.hid (fun v W (h : Spns W v (interL l0 l1)) => qTotal_any (interL l0 l1) v W h (by omega) (i64 _ (inter_ends E0)))
        have c3 := Lib.hid (fun W (h : Below w.heap.size w W) => qTotal_any l0 _ W (HL.out.below h) (by omega) GL.out)
        have c4 := Lib.hid (fun W (h : Below w.heap.size w W) => qTotal_any l1 _ W (HM.out.below h) (by omega) GM.out)
        have c5 := Lib.hid (fun W (h : Below w.heap.size w W) => qUnion_any l0 l1 _ _ W (HL.out.below h) (HM.out.below h) (by omega) (by omega))
        have c6 := Lib.hid (fun v W (h : Spns W v (unionL l0 l1)) => qTotal_any (unionL l0 l1) v W h (by omega) (i64 _ (union_ends E0 E1)))
        have c7 := Lib.hid (fun W (h : Below w.heap.size w W) => qMinus_any l0 l1 _ _ W (HL.out.below h) (HM.out.below h) (by omega) (by omega) GL.out)
        have c8 := Lib.hid (fun v W (h : Spns W v (minusL l0 l1)) => qTotal_any (minusL l0 l1) v W h (by omega) (i64 _ (minus_ends E0)))
        unfold SpEnd at c1 c5 c7
        rw [tv _ b0.2] at c3
        rw [tv _ b1.2] at c4
        rw [tv _ b2.2] at c6
        rw [tv _ b3.2] at c2
        rw [tv _ b4.2] at c8
        clear tv i64 E0 E1 e2 hn hm hu hx hd n0 n1
        generalize interL l0 l1 = LX at *
        generalize unionL l0 l1 = LU at *
        generalize minusL l0 l1 = LD at *
        generalize sizeL l0 = SA at *
        generalize sizeL l1 = SB at *
        generalize sizeL LX = SX at *
        generalize sizeL LU = SU at *
        generalize sizeL LD = SD at *
        have t1 : (SA + SB == SU + SX) = true := beq_iff_eq.2 s1
        have t2 : (SA == SX + SD) = true := beq_iff_eq.2 s2
        obtain ⟨b01, b02⟩ := b0
        obtain ⟨b11, b12⟩ := b1
        obtain ⟨b21, b22⟩ := b2
        obtain ⟨b31, b32⟩ := b3
        obtain ⟨b41, b42⟩ := b4
        have g1 : SA + SB ≤ 4398046511104 := by omega
        have g2 : SU + SX ≤ 4398046511104 := by omega
        have g3 : SX + SD ≤ 4398046511104 := by omega
        clear s1 s2
        go_enter Try.func7, Try.ntmps7
        go_wp2_with fail
        refine cL.out.mono ?_; rintro e w' ⟨rfl, rfl⟩
        clear cL
        go_wp2_with fail
        refine (wL.out _ (Below.refl _ _)).mono ?_; rintro e u1 ⟨rfl, m1⟩
        go_wp2_with fail
        refine (wM.out _ m1).mono ?_; rintro e u2 ⟨rfl, j2⟩
        have m2 := stepB m1 j2
        go_wp2_with fail
        refine (c1.out _ m2).mono ?_; rintro e u3 ⟨v3, rfl, o3, j3⟩
        have m3 := stepB m2 j3
        have o3 := Lib.hid o3
        go_wp2_with fail
        refine (c2.out _ _ o3.out).mono ?_; rintro e u4 ⟨rfl, j4⟩
        have m4 := stepB m3 j4
        clear o3 m2 m3 j2 j3 j4
        go_wp2_with fail
        refine (c3.out _ m4).mono ?_; rintro e u5 ⟨rfl, j5⟩
        have m5 := stepB m4 j5
        go_wp2_with fail
        refine (c4.out _ m5).mono ?_; rintro e u6 ⟨rfl, j6⟩
        have m6 := stepB m5 j6
        go_wp2_with fail
        refine (c5.out _ m6).mono ?_; rintro e u7 ⟨v7, rfl, o7, j7⟩
        have m7 := stepB m6 j7
        have o7 := Lib.hid o7
        go_wp2_with fail
        refine (c6.out _ _ o7.out).mono ?_; rintro e u8 ⟨rfl, j8⟩
        have m8 := stepB m7 j8
        clear o7 m4 m5 m6 m7 j5 j6 j7 j8
        go_wp2_with fail
        refine (c3.out _ m8).mono ?_; rintro e u9 ⟨rfl, j9⟩
        have ma := stepB m8 j9
        go_wp2_with fail
        refine (c7.out _ ma).mono ?_; rintro e ub ⟨vb, rfl, ob, jb⟩
        have mb := stepB ma jb
        have ob := Lib.hid ob
        go_wp2_with fail
        refine (c8.out _ _ ob.out).mono ?_; rintro e uc ⟨rfl, jc⟩
        have mc := stepB mb jc
        clear ob m8 ma mb
        go_wp2_with fail
        refine (awake_any _).mono ?_; rintro e w9 ⟨rfl, k9⟩
        go_wp2_with fail
        go_ret
        exact ⟨rfl, stepB mc k9⟩
      · have n1 : nearB l1 = false := by cases h : nearB l1 with | true => exact absurd h n1 | false => rfl
        rw [n1] at wM
        clear hn hm hu hx hd n0
        go_enter Try.func7, Try.ntmps7
        go_wp2_with fail
        refine cL.out.mono ?_; rintro e w' ⟨rfl, rfl⟩
        clear cL
        go_wp2_with fail
        refine (wL.out _ (Below.refl _ _)).mono ?_; rintro e u1 ⟨rfl, m1⟩
        go_wp2_with fail
        refine (wM.out _ m1).mono ?_; rintro e u2 ⟨rfl, j2⟩
        have m2 := stepB m1 j2
        go_wp2_with fail
        refine (awake_any _).mono ?_; rintro e w9 ⟨rfl, k9⟩
        go_wp2_with fail
        go_ret
        exact ⟨rfl, stepB m2 k9⟩
    · have n0 : nearB l0 = false := by cases h : nearB l0 with | true => exact absurd h n0 | false => rfl
      rw [n0] at wL
      clear hn hm hu hx hd
      go_enter Try.func7, Try.ntmps7
      go_wp2_with fail
      refine cL.out.mono ?_; rintro e w' ⟨rfl, rfl⟩
      clear cL
      go_wp2_with fail
      refine (wL.out _ (Below.refl _ _)).mono ?_; rintro e u1 ⟨rfl, m1⟩
      go_wp2_with fail
      refine (awake_any _).mono ?_; rintro e w9 ⟨rfl, k9⟩
      go_wp2_with fail
      go_ret
      exact ⟨rfl, stepB m1 k9⟩

/-! ### The row's step -/
set_option maxRecDepth 100000 in
theorem lifted (os : Os) (started : os.Started) (H : Type) (enc : TypeId × Value → H) :
    ReturnsInHanded {} Try.checked os 7 .any (Rows.spanNumbersSpec.pre6 enc Try.prog Try.f7 Rows.spanNumbersRow.domain false) (Rows.spanNumbersSpec.post enc Try.prog Try.f7 false true false false) := by
  refine returnsInHanded_of_change (C := Try.checked) own started (by kernel_rfl) Try.func7
    (ChangeSpec.witness6 (enc := enc) (C := Try.checked) false ⟨#[], #[.slice none 0 0, .slice none 0 0], []⟩ 8 (by kernel_rfl) (by kernel_rfl) (by kernel_rfl) (by kernel_rfl)) ?_
  intro W base args ds gs before hval0 hW hcnd _
  have hval : ∀ (j : Nat) t v, Try.f7.params[j]? = some t → args[j]? = some v → Value.okWide Try.prog W .any base t v := hval0
  have hW' := hW
  obtain ⟨p, q, hA0, hV, rfl, hfz, hnd⟩ := hW
  have hA : DataW.TrodAll enc Try.prog W 0 (fun _ => true) true Try.f7.params.toList args.toList ds p := hA0
  rw [Try.params7] at hA hval
  obtain ⟨v0, vs0, d0, ds0, p0, q0, hargs, rfl, rfl, h0, r0⟩ := trodAll_cons hA
  obtain ⟨v1, vs1, d1, ds1, p1, q1, rfl, rfl, rfl, h1, r1⟩ := trodAll_cons r0
  obtain ⟨rfl, rfl, rfl⟩ := trodAll_nil r1
  obtain rfl : args = #[v0, v1] := by cases args; simp_all
  obtain ⟨rfl, rfl⟩ := trodVars_none hV
  obtain ⟨a0, len0, cap0, rfl⟩ := okWide_slice Try.underlying22 (hval 0 22 v0 rfl rfl)
  have k0 := h0
  have lt0 : ∀ x ∈ p0, x.block < W.heap.size := by obtain ⟨m, hm⟩ := k0; exact DataW.trod_lt m _ _ _ hm
  obtain ⟨l0, s0⟩ := spns_arg h0
  obtain ⟨a1, len1, cap1, rfl⟩ := okWide_slice Try.underlying22 (hval 1 22 v1 rfl rfl)
  have k1 := h1
  have lt1 : ∀ x ∈ p1, x.block < W.heap.size := by obtain ⟨m, hm⟩ := k1; exact DataW.trod_lt m _ _ _ hm
  obtain ⟨l1, s1⟩ := spns_arg h1
  clear hA0 hval0
  simp only [List.append_nil] at hW'
  refine (walk l0 _ l1 _ W s0 s1).mono fun e W' ⟨he, hg⟩ => ?_
  subst he
  exact ⟨_, rfl, _, _, _, [], _, [], hW', trodAll_mk1 (shut_bool Try.underlying4 _), (trodAll_cons_mk (Below.trod laidOut (by kernel_rfl) (of_decide_eq_true (by kernel_rfl)) k0 hg lt0) (trodAll_cons_mk (Below.trod laidOut (by kernel_rfl) (of_decide_eq_true (by kernel_rfl)) k1 hg lt1) trodAll_mk0)), rfl, hg.frame _, fun h => by cases h⟩

theorem over : Rows.spanNumbersRow.holds Try.pinned (OpenSpec.ofChange Rows.spanNumbersSpec) :=
  OpenClaim.holds_of_wide 7 Try.f7 rfl rfl rfl rfl rfl rfl rfl ⟨rfl, rfl, rfl, rfl, rfl⟩ rfl rfl rfl rfl rfl (by kernel_rfl) Try.func7 (by kernel_rfl)
    (of_decide_eq_true (by kernel_rfl)) (by unfold Func.isWrapper; first | (rw [if_pos (by decide +kernel)]; kernel_rfl) | (rw [if_neg (by decide +kernel)]; exact ⟨rfl, rfl⟩))
    (fun os started H enc _ => lifted os started H enc)

/-- The statement. -/
theorem proved : Rows.SpanNumbersSaid :=
  over
#print axioms proved
end Go.Proofs.Ytmfhjgddpkecfaa.spanNumbers
