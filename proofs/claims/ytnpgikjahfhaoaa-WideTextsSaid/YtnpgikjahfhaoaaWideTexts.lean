/-
  For any wide number and any string the law WideTexts (P2.4) returns true and leaves its arguments alone: Text and Parse agree with the reference (the string has at most 300 bytes: beyond that the law asks for the chapter's numbers alone). No condition.
-/
import Derived.Test.YtnpgikjahfhaoaaRows
import Derived.WalkKit
import Derived.ProofKit
import Derived.OpenShut
import Derived.ShutString
import Derived.ChangeOld
import Derived.Below
import Derived.Test.YtnpgikjahfhaoaaWOpen
import Derived.Test.YtnpgikjahfhaoaaWLaw
import Derived.Test.YtnpgikjahfhaoaaWPlain
import Derived.Test.YtnpgikjahfhaoaaWRef4
import Derived.Test.YtnpgikjahfhaoaaWRef5
import Derived.Test.YtnpgikjahfhaoaaWRef6
import Derived.Test.YtnpgikjahfhaoaaWRef8
import Derived.Test.YtnpgikjahfhaoaaWRef9
import Derived.Test.YtnpgikjahfhaoaaWRText
import Derived.Test.YtnpgikjahfhaoaaWRParse
import Derived.Test.YtnpgikjahfhaoaaWOps2
import Derived.Test.YtnpgikjahfhaoaaWRef2
namespace Go.Proofs.Ytnpgikjahfhaoaa.wideTexts
open Go.ChangeShapes Go.WideShapes Go.ChangeAt Go.RowKit Go.Proofs.WM Go.Proofs.WD Go.Proofs.Reg
open Go.ChangeMaps (open_string shut_string)
set_option linter.unusedVariables false

theorem own : ownKnob Try.prog.godebug = none := by kernel_rfl



/-! ### The walk: the law returns true, and writes nothing that was there. -/
set_option maxRecDepth 100000 in
set_option maxHeartbeats 16000000 in
theorem walk (s0 : Bool) (n0 : Nat) (w0 : n0 < M256) (b1 : ByteArray) (w1 : b1.size ≤ maxLen) (w : World) :
    Calls Try.prog 8 #[.agg (widL s0 n0), .string b1] w (Gives (.bool true) w) := by
  have pt := fun w => ptext_any s0 n0 w w0
  have rt := fun w => rtext_any s0 n0 w w0
  generalize txtB s0 n0 = TX at *
  clear w0
  by_cases hlen : 300 < b1.size
  · have hl1 : (300 : Int) < (b1.size : Int) := by omega
    clear hlen w1
    go_enter Try.func8, Try.ntmps8
    go_upto_region 1 with fail
    have k2 : Hid (Blk (w.alloc (.cells (widL s0 n0) 25)) (w.heap.size) 25 (widL s0 n0)) := Blk.new _ _ _
    have kW : Below w.heap.size w (w.alloc (.cells (widL s0 n0) 25)) := ((Below.refl _ _).alloc (by simp) _)
    obtain ⟨q2, hg2⟩ : ∃ g, g = w.heap.size := ⟨_, rfl⟩
    rw [← hg2] at k2 ⊢
    have hlow : w.heap.size ≤ q2 := by omega
    clear hg2
    generalize World.alloc _ _ = wa1 at k2 kW ⊢
    go_wp2_with (first | (refine lda 25 (.tmp 2) rfl rfl ?_; refine ldb q2 25 _ _ k2.out rfl under_wide rfl info_wide ?_) | (refine ldga 25 (.tmp 2) rfl rfl ?_; refine ldgb q2 25 _ _ k2.out rfl under_wide rfl info_wide ?_))
    refine (awake_any _).mono ?_
    rintro e wc2 ⟨rfl, hb⟩
    replace k2 := Lib.hid (k2.out.below hb)
    replace kW := kW.trans (hb.mono kW.size)
    clear hb
    go_wp2_with fail
    go_ret
    exact ⟨rfl, kW⟩
  · have hl1 : (b1.size : Int) ≤ 300 := by omega
    have hmx : b1.size ≤ 9223372036854775806 := by omega
    have pp := fun w => pparse_any b1 w hmx
    have rp := fun w => rparse_any b1 w hmx
    have lP := parW_lt b1.data.toList
    unfold ParV at pp rp
    generalize (ParW b1.data.toList).1 = PS at *
    generalize (ParW b1.data.toList).2.1 = PN at *
    generalize (ParW b1.data.toList).2.2 = PE at *
    have e1 := fun wx => eq_self PS PN lP wx
    clear hlen w1 hmx lP
    go_enter Try.func8, Try.ntmps8
    go_upto_region 1 with fail
    have k2 : Hid (Blk (w.alloc (.cells (widL s0 n0) 25)) (w.heap.size) 25 (widL s0 n0)) := Blk.new _ _ _
    have kW : Below w.heap.size w (w.alloc (.cells (widL s0 n0) 25)) := ((Below.refl _ _).alloc (by simp) _)
    obtain ⟨q2, hg2⟩ : ∃ g, g = w.heap.size := ⟨_, rfl⟩
    rw [← hg2] at k2 ⊢
    have hlow : w.heap.size ≤ q2 := by omega
    clear hg2
    generalize World.alloc _ _ = wa3 at k2 kW ⊢
    go_wp2_with (first | (refine lda 25 (.tmp 2) rfl rfl ?_; refine ldb q2 25 _ _ k2.out rfl under_wide rfl info_wide ?_) | (refine ldga 25 (.tmp 2) rfl rfl ?_; refine ldgb q2 25 _ _ k2.out rfl under_wide rfl info_wide ?_))
    refine (pp _).mono ?_
    rintro e wc4 ⟨rfl, hb⟩
    replace k2 := Lib.hid (k2.out.below hb)
    replace kW := kW.trans (hb.mono kW.size)
    clear hb
    have l2 := k2.out.lt
    have z5 : Hid (Blk (wc4.alloc (.cells wid0 25)) (wc4.heap.size) 25 wid0) := (Blk.new _ _ _ : Blk (wc4.alloc (.cells wid0 25)) wc4.heap.size 25 wid0)
    have k5 : Hid (Blk ((wc4.alloc (.cells wid0 25)).setRow (wc4.heap.size) (widL PS PN)) (wc4.heap.size) 25 (widL PS PN)) := (z5.out.row (widL PS PN))
    replace k2 := Lib.hid ((k2.out.old (.cells wid0 25)).rowOther (k := wc4.heap.size) (by omega) (widL PS PN))
    replace kW := (below_row (kW.alloc (by first | exact kW.size | (simp; have := kW.size; omega)) (.cells wid0 25)) (g := wc4.heap.size) (by have := kW.size; omega) (widL PS PN))
    go_wp2_with (first | (refine sta 25 (.tmp 5) (.tmp 16) rfl rfl ?_; refine stb (wc4.heap.size) (widL PS PN) 25 _ z5.out rfl rfl info_wide rfl (widF_ones _ (wd PN)) ?_) | (refine lda 25 (.tmp 2) rfl rfl ?_; refine ldb q2 25 _ _ k2.out rfl under_wide rfl info_wide ?_) | (refine lda 25 (.tmp 5) rfl rfl ?_; refine ldb (wc4.heap.size) 25 _ _ k5.out rfl under_wide rfl info_wide ?_) | (refine ldga 25 (.tmp 2) rfl rfl ?_; refine ldgb q2 25 _ _ k2.out rfl under_wide rfl info_wide ?_) | (refine ldga 25 (.tmp 5) rfl rfl ?_; refine ldgb (wc4.heap.size) 25 _ _ k5.out rfl under_wide rfl info_wide ?_))
    clear z5 l2
    generalize wc4.heap.size = q5 at k2 k5 kW ⊢
    generalize World.setRow _ _ _ = wa5 at k2 k5 kW ⊢
    refine (rp _).mono ?_
    rintro e wc6 ⟨rfl, hb⟩
    replace k2 := Lib.hid (k2.out.below hb)
    replace k5 := Lib.hid (k5.out.below hb)
    replace kW := kW.trans (hb.mono kW.size)
    clear hb
    have l2 := k2.out.lt
    have l5 := k5.out.lt
    have z7 : Hid (Blk (wc6.alloc (.cells wid0 25)) (wc6.heap.size) 25 wid0) := (Blk.new _ _ _ : Blk (wc6.alloc (.cells wid0 25)) wc6.heap.size 25 wid0)
    have k7 : Hid (Blk ((wc6.alloc (.cells wid0 25)).setRow (wc6.heap.size) (widL PS PN)) (wc6.heap.size) 25 (widL PS PN)) := (z7.out.row (widL PS PN))
    replace k2 := Lib.hid ((k2.out.old (.cells wid0 25)).rowOther (k := wc6.heap.size) (by omega) (widL PS PN))
    replace k5 := Lib.hid ((k5.out.old (.cells wid0 25)).rowOther (k := wc6.heap.size) (by omega) (widL PS PN))
    replace kW := (below_row (kW.alloc (by first | exact kW.size | (simp; have := kW.size; omega)) (.cells wid0 25)) (g := wc6.heap.size) (by have := kW.size; omega) (widL PS PN))
    go_wp2_with (first | (refine sta 25 (.tmp 7) (.tmp 21) rfl rfl ?_; refine stb (wc6.heap.size) (widL PS PN) 25 _ z7.out rfl rfl info_wide rfl (widF_ones _ (wd PN)) ?_) | (refine lda 25 (.tmp 2) rfl rfl ?_; refine ldb q2 25 _ _ k2.out rfl under_wide rfl info_wide ?_) | (refine lda 25 (.tmp 5) rfl rfl ?_; refine ldb q5 25 _ _ k5.out rfl under_wide rfl info_wide ?_) | (refine lda 25 (.tmp 7) rfl rfl ?_; refine ldb (wc6.heap.size) 25 _ _ k7.out rfl under_wide rfl info_wide ?_) | (refine ldga 25 (.tmp 2) rfl rfl ?_; refine ldgb q2 25 _ _ k2.out rfl under_wide rfl info_wide ?_) | (refine ldga 25 (.tmp 5) rfl rfl ?_; refine ldgb q5 25 _ _ k5.out rfl under_wide rfl info_wide ?_) | (refine ldga 25 (.tmp 7) rfl rfl ?_; refine ldgb (wc6.heap.size) 25 _ _ k7.out rfl under_wide rfl info_wide ?_))
    clear z7 l2 l5
    generalize wc6.heap.size = q7 at k2 k5 k7 kW ⊢
    generalize World.setRow _ _ _ = wa7 at k2 k5 k7 kW ⊢
    have hG : Keep [(q2, 25, (widL s0 n0)), (q5, 25, (widL PS PN)), (q7, 25, (widL PS PN))] q2 25 (widL s0 n0) (widL s0 n0) w wa7.drew := by
      refine ⟨?_, .inl k2.out.drew, kW.drew⟩
      intro k hk
      simp only [List.mem_cons, List.mem_nil_iff, or_false] at hk
      rcases hk with rfl | rfl | rfl
      · exact k2.out.drew
      · exact k5.out.drew
      · exact k7.out.drew
    clear k2 k5 k7 kW
    refine region_kitG (ds := [some 23, some 24, some 25, some 26, some 27, some 28, some 29, some 30, some 31, some 32, some 33, some 34, some 35, some 36, some 37, some 38, some 39, some 40]) [] [[], [0], [], [2], [1, 3], [4], [], [], [6, 7], [5, 8], [9], [], [], [11, 12], [10, 13], [14], [], [15, 16]] (fun i => false) [.is _ 0 (.agg (widL s0 n0)), .is _ 1 (.string TX), .is _ 2 (.agg (widL s0 n0)), .is _ 3 (.string TX), .is _ 4 (.bool true), .is _ 5 (.bool true), .is _ 6 (.agg (widL PS PN)), .is _ 7 (.agg (widL PS PN)), .is _ 8 (.bool true), .is _ 9 (.bool true), .is _ 10 (.bool true), .is _ 11 (.int .i64 PE), .is _ 12 (.int .i64 PE), .is _ 13 (.bool true), .is _ 14 (.bool true), .is _ 15 (.bool true), .is _ 16 (.bool true), .is _ 17 (.bool true)] (Keep [(q2, 25, (widL s0 n0)), (q5, 25, (widL PS PN)), (q7, 25, (widL PS PN))] (q2) 25 (widL s0 n0) (widL s0 n0) w) follows_mixed (by kernel_rfl) (by kernel_rfl) (by kernel_rfl) (fun _ _ h he => h.ext he (by intro r hr; simp at hr) (by intro r hr; simp at hr) (by intro r hr; simp at hr)) hG ?_ [none, none, none, none, none, some true, none, none, none, none, some true, none, none, none, none, some true, none, none] ⟨fun _ _ h => h, ⟨fun _ _ h => h, ⟨fun _ _ h => h, trivial⟩⟩⟩ (Nat.le_of_ble_eq_true rfl) (by kernel_rfl) rfl ?_
    · refine steps_cons ?_ (steps_cons ?_ (steps_cons ?_ (steps_cons ?_ (steps_cons ?_ (steps_cons ?_ (steps_cons ?_ (steps_cons ?_ (steps_cons ?_ (steps_cons ?_ (steps_cons ?_ (steps_cons ?_ (steps_cons ?_ (steps_cons ?_ (steps_cons ?_ (steps_cons ?_ (steps_cons ?_ (steps_cons ?_ (steps_nil))))))))))))))))))
      · exact fun xs wx hG _ => step_row 25 (.tmp 2) rfl (q2) (eval_old (by decide)) 25 (widL s0 n0) _ (hG.rows _ (List.mem_cons_self ..)) under_wide rfl info_wide rfl
      · exact fun xs wx hG hF => step_call1 36 (.tmp 23) #[25] (.agg (widL s0 n0)) rfl ((eval_new (i := 0) (by decide) rfl (by simp)).trans hF.1) (by kernel_rfl) (pt wx) (fun e w' h => ⟨_, h.1, rfl, h.2⟩)
      · exact fun xs wx hG _ => step_row 25 (.tmp 2) rfl (q2) (eval_old (by decide)) 25 (widL s0 n0) _ (hG.rows _ (List.mem_cons_self ..)) under_wide rfl info_wide rfl
      · exact fun xs wx hG hF => step_call1 37 (.tmp 25) #[25] (.agg (widL s0 n0)) rfl ((eval_new (i := 2) (by decide) rfl (by simp)).trans hF.1) (by kernel_rfl) (rt wx) (fun e w' h => ⟨_, h.1, rfl, h.2⟩)
      · intro xs wx hG hF
        have f1 : xs 1 = (.string TX) := hF.1
        have f3 : xs 3 = (.string TX) := hF.2.1
        exact step_value (.bool true) (w' := wx) (by simp only [fillIn, Act.put, List.setIfInBounds_toArray, List.set_cons_zero, List.set_cons_succ, f1, f3]; go_simp) rfl (Below.refl _ _)
      · intro xs wx hG hF
        have f4 : xs 4 = (.bool true) := hF.1
        exact step_value (.bool true) (w' := wx) (by simp only [fillIn, Act.put, List.setIfInBounds_toArray, List.set_cons_zero, List.set_cons_succ, f4]; go_simp) rfl (Below.refl _ _)
      · exact fun xs wx hG _ => step_row 25 (.tmp 5) rfl (q5) (eval_old (by decide)) 25 (widL PS PN) _ (hG.rows _ (List.mem_cons_of_mem _ (List.mem_cons_self ..))) under_wide rfl info_wide rfl
      · exact fun xs wx hG _ => step_row 25 (.tmp 7) rfl (q7) (eval_old (by decide)) 25 (widL PS PN) _ (hG.rows _ (List.mem_cons_of_mem _ (List.mem_cons_of_mem _ (List.mem_cons_self ..)))) under_wide rfl info_wide rfl
      · intro xs wx hG hF
        have f6 : xs 6 = (.agg (widL PS PN)) := hF.1
        have f7 : xs 7 = (.agg (widL PS PN)) := hF.2.1
        exact step_value (.bool true) (w' := wx) (by simp only [fillIn, Act.put, List.setIfInBounds_toArray, List.set_cons_zero, List.set_cons_succ, f6, f7]; go_simp) rfl (Below.refl _ _)
      · intro xs wx hG hF
        have f5 : xs 5 = (.bool true) := hF.1
        have f8 : xs 8 = (.bool true) := hF.2.1
        exact step_value (.bool true) (w' := wx) (by simp only [fillIn, Act.put, List.setIfInBounds_toArray, List.set_cons_zero, List.set_cons_succ, f5, f8]; go_simp) rfl (Below.refl _ _)
      · intro xs wx hG hF
        have f9 : xs 9 = (.bool true) := hF.1
        exact step_value (.bool true) (w' := wx) (by simp only [fillIn, Act.put, List.setIfInBounds_toArray, List.set_cons_zero, List.set_cons_succ, f9]; go_simp) rfl (Below.refl _ _)
      · exact fun xs wx hG _ => step_value (.int .i64 PE) (w' := wx) (by simp only [fillIn, Act.put, List.setIfInBounds_toArray, List.set_cons_zero, List.set_cons_succ]; go_simp) rfl (Below.refl _ _)
      · exact fun xs wx hG _ => step_value (.int .i64 PE) (w' := wx) (by simp only [fillIn, Act.put, List.setIfInBounds_toArray, List.set_cons_zero, List.set_cons_succ]; go_simp) rfl (Below.refl _ _)
      · intro xs wx hG hF
        have f11 : xs 11 = (.int .i64 PE) := hF.1
        have f12 : xs 12 = (.int .i64 PE) := hF.2.1
        exact step_value (.bool true) (w' := wx) (by simp only [fillIn, Act.put, List.setIfInBounds_toArray, List.set_cons_zero, List.set_cons_succ, f11, f12]; go_simp) rfl (Below.refl _ _)
      · intro xs wx hG hF
        have f10 : xs 10 = (.bool true) := hF.1
        have f13 : xs 13 = (.bool true) := hF.2.1
        exact step_value (.bool true) (w' := wx) (by simp only [fillIn, Act.put, List.setIfInBounds_toArray, List.set_cons_zero, List.set_cons_succ, f10, f13]; go_simp) rfl (Below.refl _ _)
      · intro xs wx hG hF
        have f14 : xs 14 = (.bool true) := hF.1
        exact step_value (.bool true) (w' := wx) (by simp only [fillIn, Act.put, List.setIfInBounds_toArray, List.set_cons_zero, List.set_cons_succ, f14]; go_simp) rfl (Below.refl _ _)
      · exact fun xs wx hG hF => step_call0 21  #[]  rfl  (by kernel_rfl) (awake_any wx) (fun e w' h => ⟨_, h.1, rfl, h.2⟩)
      · intro xs wx hG hF
        have f15 : xs 15 = (.bool true) := hF.1
        have f16 : xs 16 = (.bool true) := hF.2.1
        exact step_value (.bool true) (w' := wx) (by simp only [fillIn, Act.put, List.setIfInBounds_toArray, List.set_cons_zero, List.set_cons_succ, f15, f16]; go_simp) rfl (Below.refl _ _)
    intro xs wx hG hA hF
    obtain ⟨f0, f1, f2, f3, f4, f5, f6, f7, f8, f9, f10, f11, f12, f13, f14, f15, f16, f17, _⟩ := hF
    have f0 : xs 0 = (.agg (widL s0 n0)) := f0
    have f1 : xs 1 = (.string TX) := f1
    have f2 : xs 2 = (.agg (widL s0 n0)) := f2
    have f3 : xs 3 = (.string TX) := f3
    have f4 : xs 4 = (.bool true) := f4
    have f5 : xs 5 = (.bool true) := f5
    have f6 : xs 6 = (.agg (widL PS PN)) := f6
    have f7 : xs 7 = (.agg (widL PS PN)) := f7
    have f8 : xs 8 = (.bool true) := f8
    have f9 : xs 9 = (.bool true) := f9
    have f10 : xs 10 = (.bool true) := f10
    have f11 : xs 11 = (.int .i64 PE) := f11
    have f12 : xs 12 = (.int .i64 PE) := f12
    have f13 : xs 13 = (.bool true) := f13
    have f14 : xs 14 = (.bool true) := f14
    have f15 : xs 15 = (.bool true) := f15
    have f16 : xs 16 = (.bool true) := f16
    have f17 : xs 17 = (.bool true) := f17
    simp only [fillIn, Act.put, List.setIfInBounds_toArray, List.set_cons_zero, List.set_cons_succ, f0, f1, f2, f3, f4, f5, f6, f7, f8, f9, f10, f11, f12, f13, f14, f15, f16, f17, List.drop_succ_cons, List.drop_zero, List.length_cons, List.length_nil]
    obtain ⟨_, _, kW⟩ := hG
    go_wp2
    go_ret
    exact ⟨rfl, kW⟩

/-! ### The row's step -/
set_option maxRecDepth 100000 in
theorem lifted (os : Os) (started : os.Started) (H : Type) (enc : TypeId × Value → H) :
    ReturnsInHanded {} Try.checked os 8 .any (Rows.wideTextsSpec.pre6 enc Try.prog Try.f8 Rows.wideTextsRow.domain false) (Rows.wideTextsSpec.post enc Try.prog Try.f8 false true false false) := by
  refine returnsInHanded_of_change (C := Try.checked) own started (by kernel_rfl) Try.func8
    (ChangeSpec.witness6 (enc := enc) (C := Try.checked) false ⟨#[], #[.agg #[.bool false, .int .u64 0, .int .u64 0, .int .u64 0, .int .u64 0], .string ByteArray.empty], []⟩ 8 (by kernel_rfl) (by kernel_rfl) (by kernel_rfl) (by kernel_rfl)) ?_
  intro W base args ds gs before hval0 hW hcnd _
  have hval : ∀ (j : Nat) t v, Try.f8.params[j]? = some t → args[j]? = some v → Value.okWide Try.prog W .any base t v := hval0
  have hW' := hW
  obtain ⟨p, q, hA0, hV, rfl, hfz, hnd⟩ := hW
  have hA : DataW.TrodAll enc Try.prog W 0 (fun _ => true) true Try.f8.params.toList args.toList ds p := hA0
  rw [Try.params8] at hA hval
  obtain ⟨v0, vs0, d0, ds0, p0, q0, hargs, rfl, rfl, h0, r0⟩ := trodAll_cons hA
  obtain ⟨v1, vs1, d1, ds1, p1, q1, rfl, rfl, rfl, h1, r1⟩ := trodAll_cons r0
  obtain ⟨rfl, rfl, rfl⟩ := trodAll_nil r1
  obtain rfl : args = #[v0, v1] := by cases args; simp_all
  obtain ⟨rfl, rfl⟩ := trodVars_none hV
  obtain ⟨s0, n0, rfl, rfl, rfl, w0⟩ := open_wide (hval 0 25 v0 rfl rfl) h0
  obtain ⟨b1, rfl, rfl, rfl, w1⟩ := open_string Try.underlying9 (hval 1 9 v1 rfl rfl) h1
  clear hA0 hval0
  simp only [List.append_nil] at hW'
  refine (walk s0 n0 w0 b1 w1 W).mono fun e W' ⟨he, hg⟩ => ?_
  subst he
  exact ⟨_, rfl, _, _, _, [], [], [], hW', (trodAll_cons_mk (shut_bool Try.underlying4 _) trodAll_mk0), (trodAll_cons_mk (shut_wide s0 n0) (trodAll_cons_mk (shut_string Try.underlying9 w1) trodAll_mk0)), rfl, hg.frame _, fun h => by cases h⟩

theorem over : Rows.wideTextsRow.holds Try.pinned (OpenSpec.ofChange Rows.wideTextsSpec) :=
  OpenClaim.holds_of_wide 8 Try.f8 rfl rfl rfl rfl rfl rfl rfl ⟨rfl, rfl, rfl, rfl, rfl⟩ rfl rfl rfl rfl rfl (by kernel_rfl) Try.func8 (by kernel_rfl)
    (of_decide_eq_true (by kernel_rfl)) (by unfold Func.isWrapper; first | (rw [if_pos (by decide +kernel)]; kernel_rfl) | (rw [if_neg (by decide +kernel)]; exact ⟨rfl, rfl⟩))
    (fun os started H enc _ => lifted os started H enc)

/-- The statement. -/
theorem proved : Rows.WideTextsSaid :=
  over
#print axioms proved
end Go.Proofs.Ytnpgikjahfhaoaa.wideTexts
