/-
  For any int and any wide number the law WideInts (P2.1) returns true and leaves its arguments alone: Of, Int, Valid and Neg agree with the reference, and the chapter's numbers come out. No condition.
-/
import Derived.Test.YtnpgikjahfhaoaaRows
import Derived.WalkKit
import Derived.ProofKit
import Derived.OpenShut
import Derived.ShutString
import Derived.ChangeOld
import Derived.Below
import Derived.Test.YtnpgikjahfhaoaaWOpen
import Derived.Test.YtnpgikjahfhaoaaWLaw
import Derived.Test.YtnpgikjahfhaoaaWPlain
import Derived.Test.YtnpgikjahfhaoaaWRef4
import Derived.Test.YtnpgikjahfhaoaaWRef5
import Derived.Test.YtnpgikjahfhaoaaWRef6
import Derived.Test.YtnpgikjahfhaoaaWRef8
import Derived.Test.YtnpgikjahfhaoaaWRef9
import Derived.Test.YtnpgikjahfhaoaaWRText
import Derived.Test.YtnpgikjahfhaoaaWRParse
import Derived.Test.YtnpgikjahfhaoaaWOps2
import Derived.Test.YtnpgikjahfhaoaaWRef2
namespace Go.Proofs.Ytnpgikjahfhaoaa.wideInts
open Go.ChangeShapes Go.WideShapes Go.ChangeAt Go.RowKit Go.Proofs.WM Go.Proofs.WD Go.Proofs.Reg
open Go.ChangeMaps (open_string shut_string)
set_option linter.unusedVariables false

theorem own : ownKnob Try.prog.godebug = none := by kernel_rfl



/-! ### The walk: the law returns true, and writes nothing that was there. -/
set_option maxRecDepth 100000 in
set_option maxHeartbeats 16000000 in
theorem walk (a0 : Int) (w0 : (Lit.int .i64 a0).wf = true) (s1 : Bool) (n1 : Nat) (w1 : n1 < M256) (w : World) :
    Calls Try.prog 3 #[.int .i64 a0, .agg (widL s1 n1)] w (Gives (.bool true) w) := by
  obtain ⟨l0, g0⟩ := bounds_i64 w0
  have po := fun w => pof_any a0 w l0 g0
  have ro := fun w => rof_any a0 w l0 g0
  have lo : a0.natAbs < M256 := Nat.lt_of_lt_of_le (show a0.natAbs < 18446744073709551616 by omega) (by decide)
  obtain ⟨O, hO⟩ : ∃ O, O = widL (ngB a0) a0.natAbs := ⟨_, rfl⟩
  have e1 := fun wx => eq_self (ngB a0) a0.natAbs lo wx
  generalize ngB a0 = so at *
  generalize a0.natAbs = no at *
  clear hO lo
  have pi := fun w => pint_any s1 n1 w w1
  have ri := fun w => rint_any s1 n1 w w1
  generalize intV s1 n1 = iv at *
  generalize intB s1 n1 = ib at *
  have pv := fun w => pvalid_any s1 n1 w w1
  have rv := fun w => rvalid_any s1 n1 w w1
  generalize validB s1 n1 = vb at *
  have pn := fun w => pneg_any s1 n1 w w1
  have rn := fun w => rneg_any s1 n1 w w1
  have e2 := fun wx => eq_self (sg (!s1) n1) n1 w1 wx
  generalize sg (!s1) n1 = sn at *
  clear w0 w1 l0 g0
  go_enter Try.func3, Try.ntmps3
  go_upto_region 1 with fail
  have k3 : Hid (Blk (w.alloc (.cells (widL s1 n1) 25)) (w.heap.size) 25 (widL s1 n1)) := Blk.new _ _ _
  have kW : Below w.heap.size w (w.alloc (.cells (widL s1 n1) 25)) := ((Below.refl _ _).alloc (by simp) _)
  obtain ⟨q3, hg3⟩ : ∃ g, g = w.heap.size := ⟨_, rfl⟩
  rw [← hg3] at k3 ⊢
  have hlow : w.heap.size ≤ q3 := by omega
  clear hg3
  generalize World.alloc _ _ = wa1 at k3 kW ⊢
  go_wp2_with (first | (refine lda 25 (.tmp 3) rfl rfl ?_; refine ldb q3 25 _ _ k3.out rfl under_wide rfl info_wide ?_) | (refine ldga 25 (.tmp 3) rfl rfl ?_; refine ldgb q3 25 _ _ k3.out rfl under_wide rfl info_wide ?_))
  refine (pi _).mono ?_
  rintro e wc2 ⟨rfl, hb⟩
  replace k3 := Lib.hid (k3.out.below hb)
  replace kW := kW.trans (hb.mono kW.size)
  clear hb
  go_wp2_with (first | (refine lda 25 (.tmp 3) rfl rfl ?_; refine ldb q3 25 _ _ k3.out rfl under_wide rfl info_wide ?_) | (refine ldga 25 (.tmp 3) rfl rfl ?_; refine ldgb q3 25 _ _ k3.out rfl under_wide rfl info_wide ?_))
  refine (ri _).mono ?_
  rintro e wc3 ⟨rfl, hb⟩
  replace k3 := Lib.hid (k3.out.below hb)
  replace kW := kW.trans (hb.mono kW.size)
  clear hb
  go_wp2_with (first | (refine lda 25 (.tmp 3) rfl rfl ?_; refine ldb q3 25 _ _ k3.out rfl under_wide rfl info_wide ?_) | (refine ldga 25 (.tmp 3) rfl rfl ?_; refine ldgb q3 25 _ _ k3.out rfl under_wide rfl info_wide ?_))
  have hG : Keep [(q3, 25, (widL s1 n1))] q3 25 (widL s1 n1) (widL s1 n1) w wc3.drew := by
    refine ⟨?_, .inl k3.out.drew, kW.drew⟩
    intro k hk
    simp only [List.mem_cons, List.mem_nil_iff, or_false] at hk
    rcases hk with rfl
    · exact k3.out.drew
  clear k3 kW
  refine region_kitG (ds := [some 19, some 20, some 21, some 22, some 23, some 24, some 25, some 26, some 27, some 28, some 29, some 30, some 31, some 32, some 33, some 34, some 35, some 36, some 37, some 38, some 39, some 40, some 41, some 42, some 43, some 44, some 45, some 46, some 47, some 48, some 49, some 50]) [] [[], [0], [], [2], [1, 3], [4], [], [], [6, 7], [5, 8], [9], [], [], [11, 12], [10, 13], [14], [], [16], [], [18], [17, 19], [15, 20], [21], [], [23], [], [25], [24, 26], [22, 27], [28], [], [29, 30]] (fun i => false) [.is _ 0 (.int .i64 a0), .is _ 1 (.agg (widL so no)), .is _ 2 (.int .i64 a0), .is _ 3 (.agg (widL so no)), .is _ 4 (.bool true), .is _ 5 (.bool true), .is _ 6 (.int .i64 iv), .is _ 7 (.int .i64 iv), .is _ 8 (.bool true), .is _ 9 (.bool true), .is _ 10 (.bool true), .is _ 11 (.bool ib), .is _ 12 (.bool ib), .is _ 13 (.bool true), .is _ 14 (.bool true), .is _ 15 (.bool true), .is _ 16 (.agg (widL s1 n1)), .is _ 17 (.bool vb), .is _ 18 (.agg (widL s1 n1)), .is _ 19 (.bool vb), .is _ 20 (.bool true), .is _ 21 (.bool true), .is _ 22 (.bool true), .is _ 23 (.agg (widL s1 n1)), .is _ 24 (.agg (widL sn n1)), .is _ 25 (.agg (widL s1 n1)), .is _ 26 (.agg (widL sn n1)), .is _ 27 (.bool true), .is _ 28 (.bool true), .is _ 29 (.bool true), .is _ 30 (.bool true), .is _ 31 (.bool true)] (Keep [(q3, 25, (widL s1 n1))] (q3) 25 (widL s1 n1) (widL s1 n1) w) follows_mixed (by kernel_rfl) (by kernel_rfl) (by kernel_rfl) (fun _ _ h he => h.ext he (by intro r hr; simp at hr) (by intro r hr; simp at hr) (by intro r hr; simp at hr)) hG ?_ [none, none, none, none, none, some true, none, none, none, none, some true, none, none, none, none, some true, none, none, none, none, none, none, some true, none, none, none, none, none, none, some true, none, none] ⟨fun _ _ h => h, ⟨fun _ _ h => h, ⟨fun _ _ h => h, ⟨fun _ _ h => h, ⟨fun _ _ h => h, trivial⟩⟩⟩⟩⟩ (Nat.le_of_ble_eq_true rfl) (by kernel_rfl) rfl ?_
  · refine steps_cons ?_ (steps_cons ?_ (steps_cons ?_ (steps_cons ?_ (steps_cons ?_ (steps_cons ?_ (steps_cons ?_ (steps_cons ?_ (steps_cons ?_ (steps_cons ?_ (steps_cons ?_ (steps_cons ?_ (steps_cons ?_ (steps_cons ?_ (steps_cons ?_ (steps_cons ?_ (steps_cons ?_ (steps_cons ?_ (steps_cons ?_ (steps_cons ?_ (steps_cons ?_ (steps_cons ?_ (steps_cons ?_ (steps_cons ?_ (steps_cons ?_ (steps_cons ?_ (steps_cons ?_ (steps_cons ?_ (steps_cons ?_ (steps_cons ?_ (steps_cons ?_ (steps_cons ?_ (steps_nil))))))))))))))))))))))))))))))))
    · exact fun xs wx hG _ => step_value (.int .i64 a0) (w' := wx) (by simp only [fillIn, Act.put, List.setIfInBounds_toArray, List.set_cons_zero, List.set_cons_succ]; go_simp) rfl (Below.refl _ _)
    · exact fun xs wx hG hF => step_call1 15 (.tmp 19) #[3] (.int .i64 a0) rfl ((eval_new (i := 0) (by decide) rfl (by simp)).trans hF.1) (by kernel_rfl) (po wx) (fun e w' h => ⟨_, h.1, rfl, h.2⟩)
    · exact fun xs wx hG _ => step_value (.int .i64 a0) (w' := wx) (by simp only [fillIn, Act.put, List.setIfInBounds_toArray, List.set_cons_zero, List.set_cons_succ]; go_simp) rfl (Below.refl _ _)
    · exact fun xs wx hG hF => step_call1 16 (.tmp 21) #[3] (.int .i64 a0) rfl ((eval_new (i := 2) (by decide) rfl (by simp)).trans hF.1) (by kernel_rfl) (ro wx) (fun e w' h => ⟨_, h.1, rfl, h.2⟩)
    · intro xs wx hG hF
      have f1 : xs 1 = (.agg (widL so no)) := hF.1
      have f3 : xs 3 = (.agg (widL so no)) := hF.2.1
      exact step_value (.bool true) (w' := wx) (by simp only [fillIn, Act.put, List.setIfInBounds_toArray, List.set_cons_zero, List.set_cons_succ, f1, f3]; go_simp) rfl (Below.refl _ _)
    · intro xs wx hG hF
      have f4 : xs 4 = (.bool true) := hF.1
      exact step_value (.bool true) (w' := wx) (by simp only [fillIn, Act.put, List.setIfInBounds_toArray, List.set_cons_zero, List.set_cons_succ, f4]; go_simp) rfl (Below.refl _ _)
    · exact fun xs wx hG _ => step_value (.int .i64 iv) (w' := wx) (by simp only [fillIn, Act.put, List.setIfInBounds_toArray, List.set_cons_zero, List.set_cons_succ]; go_simp) rfl (Below.refl _ _)
    · exact fun xs wx hG _ => step_value (.int .i64 iv) (w' := wx) (by simp only [fillIn, Act.put, List.setIfInBounds_toArray, List.set_cons_zero, List.set_cons_succ]; go_simp) rfl (Below.refl _ _)
    · intro xs wx hG hF
      have f6 : xs 6 = (.int .i64 iv) := hF.1
      have f7 : xs 7 = (.int .i64 iv) := hF.2.1
      exact step_value (.bool true) (w' := wx) (by simp only [fillIn, Act.put, List.setIfInBounds_toArray, List.set_cons_zero, List.set_cons_succ, f6, f7]; go_simp) rfl (Below.refl _ _)
    · intro xs wx hG hF
      have f5 : xs 5 = (.bool true) := hF.1
      have f8 : xs 8 = (.bool true) := hF.2.1
      exact step_value (.bool true) (w' := wx) (by simp only [fillIn, Act.put, List.setIfInBounds_toArray, List.set_cons_zero, List.set_cons_succ, f5, f8]; go_simp) rfl (Below.refl _ _)
    · intro xs wx hG hF
      have f9 : xs 9 = (.bool true) := hF.1
      exact step_value (.bool true) (w' := wx) (by simp only [fillIn, Act.put, List.setIfInBounds_toArray, List.set_cons_zero, List.set_cons_succ, f9]; go_simp) rfl (Below.refl _ _)
    · exact fun xs wx hG _ => step_value (.bool ib) (w' := wx) (by simp only [fillIn, Act.put, List.setIfInBounds_toArray, List.set_cons_zero, List.set_cons_succ]; go_simp) rfl (Below.refl _ _)
    · exact fun xs wx hG _ => step_value (.bool ib) (w' := wx) (by simp only [fillIn, Act.put, List.setIfInBounds_toArray, List.set_cons_zero, List.set_cons_succ]; go_simp) rfl (Below.refl _ _)
    · intro xs wx hG hF
      have f11 : xs 11 = (.bool ib) := hF.1
      have f12 : xs 12 = (.bool ib) := hF.2.1
      exact step_value (.bool true) (w' := wx) (by simp only [fillIn, Act.put, List.setIfInBounds_toArray, List.set_cons_zero, List.set_cons_succ, f11, f12]; go_simp) rfl (Below.refl _ _)
    · intro xs wx hG hF
      have f10 : xs 10 = (.bool true) := hF.1
      have f13 : xs 13 = (.bool true) := hF.2.1
      exact step_value (.bool true) (w' := wx) (by simp only [fillIn, Act.put, List.setIfInBounds_toArray, List.set_cons_zero, List.set_cons_succ, f10, f13]; go_simp) rfl (Below.refl _ _)
    · intro xs wx hG hF
      have f14 : xs 14 = (.bool true) := hF.1
      exact step_value (.bool true) (w' := wx) (by simp only [fillIn, Act.put, List.setIfInBounds_toArray, List.set_cons_zero, List.set_cons_succ, f14]; go_simp) rfl (Below.refl _ _)
    · exact fun xs wx hG _ => step_row 25 (.tmp 3) rfl (q3) (eval_old (by decide)) 25 (widL s1 n1) _ (hG.rows _ (List.mem_cons_self ..)) under_wide rfl info_wide rfl
    · exact fun xs wx hG hF => step_call1 17 (.tmp 35) #[25] (.agg (widL s1 n1)) rfl ((eval_new (i := 16) (by decide) rfl (by simp)).trans hF.1) (by kernel_rfl) (pv wx) (fun e w' h => ⟨_, h.1, rfl, h.2⟩)
    · exact fun xs wx hG _ => step_row 25 (.tmp 3) rfl (q3) (eval_old (by decide)) 25 (widL s1 n1) _ (hG.rows _ (List.mem_cons_self ..)) under_wide rfl info_wide rfl
    · exact fun xs wx hG hF => step_call1 18 (.tmp 37) #[25] (.agg (widL s1 n1)) rfl ((eval_new (i := 18) (by decide) rfl (by simp)).trans hF.1) (by kernel_rfl) (rv wx) (fun e w' h => ⟨_, h.1, rfl, h.2⟩)
    · intro xs wx hG hF
      have f17 : xs 17 = (.bool vb) := hF.1
      have f19 : xs 19 = (.bool vb) := hF.2.1
      exact step_value (.bool true) (w' := wx) (by simp only [fillIn, Act.put, List.setIfInBounds_toArray, List.set_cons_zero, List.set_cons_succ, f17, f19]; go_simp) rfl (Below.refl _ _)
    · intro xs wx hG hF
      have f15 : xs 15 = (.bool true) := hF.1
      have f20 : xs 20 = (.bool true) := hF.2.1
      exact step_value (.bool true) (w' := wx) (by simp only [fillIn, Act.put, List.setIfInBounds_toArray, List.set_cons_zero, List.set_cons_succ, f15, f20]; go_simp) rfl (Below.refl _ _)
    · intro xs wx hG hF
      have f21 : xs 21 = (.bool true) := hF.1
      exact step_value (.bool true) (w' := wx) (by simp only [fillIn, Act.put, List.setIfInBounds_toArray, List.set_cons_zero, List.set_cons_succ, f21]; go_simp) rfl (Below.refl _ _)
    · exact fun xs wx hG _ => step_row 25 (.tmp 3) rfl (q3) (eval_old (by decide)) 25 (widL s1 n1) _ (hG.rows _ (List.mem_cons_self ..)) under_wide rfl info_wide rfl
    · exact fun xs wx hG hF => step_call1 19 (.tmp 42) #[25] (.agg (widL s1 n1)) rfl ((eval_new (i := 23) (by decide) rfl (by simp)).trans hF.1) (by kernel_rfl) (pn wx) (fun e w' h => ⟨_, h.1, rfl, h.2⟩)
    · exact fun xs wx hG _ => step_row 25 (.tmp 3) rfl (q3) (eval_old (by decide)) 25 (widL s1 n1) _ (hG.rows _ (List.mem_cons_self ..)) under_wide rfl info_wide rfl
    · exact fun xs wx hG hF => step_call1 20 (.tmp 44) #[25] (.agg (widL s1 n1)) rfl ((eval_new (i := 25) (by decide) rfl (by simp)).trans hF.1) (by kernel_rfl) (rn wx) (fun e w' h => ⟨_, h.1, rfl, h.2⟩)
    · intro xs wx hG hF
      have f24 : xs 24 = (.agg (widL sn n1)) := hF.1
      have f26 : xs 26 = (.agg (widL sn n1)) := hF.2.1
      exact step_value (.bool true) (w' := wx) (by simp only [fillIn, Act.put, List.setIfInBounds_toArray, List.set_cons_zero, List.set_cons_succ, f24, f26]; go_simp) rfl (Below.refl _ _)
    · intro xs wx hG hF
      have f22 : xs 22 = (.bool true) := hF.1
      have f27 : xs 27 = (.bool true) := hF.2.1
      exact step_value (.bool true) (w' := wx) (by simp only [fillIn, Act.put, List.setIfInBounds_toArray, List.set_cons_zero, List.set_cons_succ, f22, f27]; go_simp) rfl (Below.refl _ _)
    · intro xs wx hG hF
      have f28 : xs 28 = (.bool true) := hF.1
      exact step_value (.bool true) (w' := wx) (by simp only [fillIn, Act.put, List.setIfInBounds_toArray, List.set_cons_zero, List.set_cons_succ, f28]; go_simp) rfl (Below.refl _ _)
    · exact fun xs wx hG hF => step_call0 21  #[]  rfl  (by kernel_rfl) (awake_any wx) (fun e w' h => ⟨_, h.1, rfl, h.2⟩)
    · intro xs wx hG hF
      have f29 : xs 29 = (.bool true) := hF.1
      have f30 : xs 30 = (.bool true) := hF.2.1
      exact step_value (.bool true) (w' := wx) (by simp only [fillIn, Act.put, List.setIfInBounds_toArray, List.set_cons_zero, List.set_cons_succ, f29, f30]; go_simp) rfl (Below.refl _ _)
  intro xs wx hG hA hF
  obtain ⟨f0, f1, f2, f3, f4, f5, f6, f7, f8, f9, f10, f11, f12, f13, f14, f15, f16, f17, f18, f19, f20, f21, f22, f23, f24, f25, f26, f27, f28, f29, f30, f31, _⟩ := hF
  have f0 : xs 0 = (.int .i64 a0) := f0
  have f1 : xs 1 = (.agg (widL so no)) := f1
  have f2 : xs 2 = (.int .i64 a0) := f2
  have f3 : xs 3 = (.agg (widL so no)) := f3
  have f4 : xs 4 = (.bool true) := f4
  have f5 : xs 5 = (.bool true) := f5
  have f6 : xs 6 = (.int .i64 iv) := f6
  have f7 : xs 7 = (.int .i64 iv) := f7
  have f8 : xs 8 = (.bool true) := f8
  have f9 : xs 9 = (.bool true) := f9
  have f10 : xs 10 = (.bool true) := f10
  have f11 : xs 11 = (.bool ib) := f11
  have f12 : xs 12 = (.bool ib) := f12
  have f13 : xs 13 = (.bool true) := f13
  have f14 : xs 14 = (.bool true) := f14
  have f15 : xs 15 = (.bool true) := f15
  have f16 : xs 16 = (.agg (widL s1 n1)) := f16
  have f17 : xs 17 = (.bool vb) := f17
  have f18 : xs 18 = (.agg (widL s1 n1)) := f18
  have f19 : xs 19 = (.bool vb) := f19
  have f20 : xs 20 = (.bool true) := f20
  have f21 : xs 21 = (.bool true) := f21
  have f22 : xs 22 = (.bool true) := f22
  have f23 : xs 23 = (.agg (widL s1 n1)) := f23
  have f24 : xs 24 = (.agg (widL sn n1)) := f24
  have f25 : xs 25 = (.agg (widL s1 n1)) := f25
  have f26 : xs 26 = (.agg (widL sn n1)) := f26
  have f27 : xs 27 = (.bool true) := f27
  have f28 : xs 28 = (.bool true) := f28
  have f29 : xs 29 = (.bool true) := f29
  have f30 : xs 30 = (.bool true) := f30
  have f31 : xs 31 = (.bool true) := f31
  simp only [fillIn, Act.put, List.setIfInBounds_toArray, List.set_cons_zero, List.set_cons_succ, f0, f1, f2, f3, f4, f5, f6, f7, f8, f9, f10, f11, f12, f13, f14, f15, f16, f17, f18, f19, f20, f21, f22, f23, f24, f25, f26, f27, f28, f29, f30, f31, List.drop_succ_cons, List.drop_zero, List.length_cons, List.length_nil]
  obtain ⟨_, _, kW⟩ := hG
  go_wp2
  go_ret
  exact ⟨rfl, kW⟩

/-! ### The row's step -/
set_option maxRecDepth 100000 in
theorem lifted (os : Os) (started : os.Started) (H : Type) (enc : TypeId × Value → H) :
    ReturnsInHanded {} Try.checked os 3 .any (Rows.wideIntsSpec.pre6 enc Try.prog Try.f3 Rows.wideIntsRow.domain false) (Rows.wideIntsSpec.post enc Try.prog Try.f3 false true false false) := by
  refine returnsInHanded_of_change (C := Try.checked) own started (by kernel_rfl) Try.func3
    (ChangeSpec.witness6 (enc := enc) (C := Try.checked) false ⟨#[], #[.int .i64 0, .agg #[.bool false, .int .u64 0, .int .u64 0, .int .u64 0, .int .u64 0]], []⟩ 8 (by kernel_rfl) (by kernel_rfl) (by kernel_rfl) (by kernel_rfl)) ?_
  intro W base args ds gs before hval0 hW hcnd _
  have hval : ∀ (j : Nat) t v, Try.f3.params[j]? = some t → args[j]? = some v → Value.okWide Try.prog W .any base t v := hval0
  have hW' := hW
  obtain ⟨p, q, hA0, hV, rfl, hfz, hnd⟩ := hW
  have hA : DataW.TrodAll enc Try.prog W 0 (fun _ => true) true Try.f3.params.toList args.toList ds p := hA0
  rw [Try.params3] at hA hval
  obtain ⟨v0, vs0, d0, ds0, p0, q0, hargs, rfl, rfl, h0, r0⟩ := trodAll_cons hA
  obtain ⟨v1, vs1, d1, ds1, p1, q1, rfl, rfl, rfl, h1, r1⟩ := trodAll_cons r0
  obtain ⟨rfl, rfl, rfl⟩ := trodAll_nil r1
  obtain rfl : args = #[v0, v1] := by cases args; simp_all
  obtain ⟨rfl, rfl⟩ := trodVars_none hV
  obtain ⟨a0, rfl, rfl, rfl, w0⟩ := open_int Try.underlying3 (hval 0 3 v0 rfl rfl) h0
  obtain ⟨s1, n1, rfl, rfl, rfl, w1⟩ := open_wide (hval 1 25 v1 rfl rfl) h1
  clear hA0 hval0
  simp only [List.append_nil] at hW'
  refine (walk a0 w0 s1 n1 w1 W).mono fun e W' ⟨he, hg⟩ => ?_
  subst he
  exact ⟨_, rfl, _, _, _, [], [], [], hW', (trodAll_cons_mk (shut_bool Try.underlying4 _) trodAll_mk0), (trodAll_cons_mk (shut_int Try.underlying3 w0) (trodAll_cons_mk (shut_wide s1 n1) trodAll_mk0)), rfl, hg.frame _, fun h => by cases h⟩

theorem over : Rows.wideIntsRow.holds Try.pinned (OpenSpec.ofChange Rows.wideIntsSpec) :=
  OpenClaim.holds_of_wide 3 Try.f3 rfl rfl rfl rfl rfl rfl rfl ⟨rfl, rfl, rfl, rfl, rfl⟩ rfl rfl rfl rfl rfl (by kernel_rfl) Try.func3 (by kernel_rfl)
    (of_decide_eq_true (by kernel_rfl)) (by unfold Func.isWrapper; first | (rw [if_pos (by decide +kernel)]; kernel_rfl) | (rw [if_neg (by decide +kernel)]; exact ⟨rfl, rfl⟩))
    (fun os started H enc _ => lifted os started H enc)

/-- The statement. -/
theorem proved : Rows.WideIntsSaid :=
  over
#print axioms proved
end Go.Proofs.Ytnpgikjahfhaoaa.wideInts
