/-
  For any wide number and any string the law WideRoundTrip (P2.8) returns true and leaves its arguments alone: the text of a number is parsed as this number, and what is parsed has this text. No condition.
-/
import Derived.Test.YtnpgikjahfhaoaaRows
import Derived.WalkKit
import Derived.ProofKit
import Derived.OpenShut
import Derived.ShutString
import Derived.ChangeOld
import Derived.Below
import Derived.Test.YtnpgikjahfhaoaaWOpen
import Derived.Test.YtnpgikjahfhaoaaWLaw
import Derived.Test.YtnpgikjahfhaoaaWPlain
import Derived.Test.YtnpgikjahfhaoaaWOps2
import Derived.Test.YtnpgikjahfhaoaaWInt
import Derived.Test.YtnpgikjahfhaoaaWText
import Derived.Test.YtnpgikjahfhaoaaWParse
namespace Go.Proofs.Ytnpgikjahfhaoaa.wideRoundTrip
open Go.ChangeShapes Go.WideShapes Go.ChangeAt Go.RowKit Go.Proofs.WM Go.Proofs.WD Go.Proofs.Reg
open Go.ChangeMaps (open_string shut_string)
set_option linter.unusedVariables false

theorem own : ownKnob Try.prog.godebug = none := by kernel_rfl



/-! ### The walk: the law returns true, and writes nothing that was there. -/
set_option maxRecDepth 100000 in
set_option maxHeartbeats 16000000 in
theorem walk (s0 : Bool) (n0 : Nat) (w0 : n0 < M256) (b1 : ByteArray) (w1 : b1.size ≤ maxLen) (w : World) :
    Calls Try.prog 12 #[.agg (widL s0 n0), .string b1] w (Gives (.bool true) w) := by
  have ct := fun w => ptext_any s0 n0 w w0
  have cp : ∀ w, Calls Try.prog 34 #[.string (txtB s0 n0)] w (Gives (.tuple #[.agg (widL (sg s0 n0) n0), .int .i64 0]) w) := by
    intro w
    have h := pparse_any (txtB s0 n0) w (Nat.le_trans (txtB_size s0 n0) (by decide))
    unfold ParV at h
    rw [txtB_list, parW_text s0 n0 w0] at h
    exact h
  have cl := fun w => plain_any s0 n0 w w0
  have e1 := fun wx => eq_self (sg s0 n0) n0 w0 wx
  generalize sg s0 n0 = sx at *
  generalize txtB s0 n0 = TX at *
  clear w0
  by_cases hlen : 300 < b1.size
  · have hl1 : (300 : Int) < (b1.size : Int) := by omega
    clear hlen w1
    go_enter Try.func12, Try.ntmps12
    go_upto_region 1 with fail
    have k2 : Hid (Blk (w.alloc (.cells (widL s0 n0) 25)) (w.heap.size) 25 (widL s0 n0)) := Blk.new _ _ _
    have kW : Below w.heap.size w (w.alloc (.cells (widL s0 n0) 25)) := ((Below.refl _ _).alloc (by simp) _)
    obtain ⟨q2, hg2⟩ : ∃ g, g = w.heap.size := ⟨_, rfl⟩
    rw [← hg2] at k2 ⊢
    have hlow : w.heap.size ≤ q2 := by omega
    clear hg2
    generalize World.alloc _ _ = wa1 at k2 kW ⊢
    go_wp2_with (first | (refine lda 25 (.tmp 2) rfl rfl ?_; refine ldb q2 25 _ _ k2.out rfl under_wide rfl info_wide ?_) | (refine ldga 25 (.tmp 2) rfl rfl ?_; refine ldgb q2 25 _ _ k2.out rfl under_wide rfl info_wide ?_))
    refine (awake_any _).mono ?_
    rintro e wc2 ⟨rfl, hb⟩
    replace k2 := Lib.hid (k2.out.below hb)
    replace kW := kW.trans (hb.mono kW.size)
    clear hb
    go_wp2_with fail
    go_ret
    exact ⟨rfl, kW⟩
  · have hl1 : (b1.size : Int) ≤ 300 := by omega
    have hmx : b1.size ≤ 9223372036854775806 := by omega
    have cq := fun w => pparse_any b1 w hmx
    have lP := parW_lt b1.data.toList
    have hbk := parW_back b1.data.toList
    unfold ParV at cq
    have hz := parW_else b1.data.toList
    generalize (ParW b1.data.toList).1 = PS at *
    generalize (ParW b1.data.toList).2.1 = PN at *
    generalize (ParW b1.data.toList).2.2 = PE at *
    have HB := Lib.hid hbk
    have HZ := Lib.hid hz
    have HP := Lib.hid lP
    clear hlen w1 hmx lP hbk hz
    go_enter Try.func12, Try.ntmps12
    go_upto_region 1 with fail
    have k2 : Hid (Blk (w.alloc (.cells (widL s0 n0) 25)) (w.heap.size) 25 (widL s0 n0)) := Blk.new _ _ _
    have kW : Below w.heap.size w (w.alloc (.cells (widL s0 n0) 25)) := ((Below.refl _ _).alloc (by simp) _)
    obtain ⟨q2, hg2⟩ : ∃ g, g = w.heap.size := ⟨_, rfl⟩
    rw [← hg2] at k2 ⊢
    have hlow : w.heap.size ≤ q2 := by omega
    clear hg2
    generalize World.alloc _ _ = wa3 at k2 kW ⊢
    go_wp2_with (first | (refine lda 25 (.tmp 2) rfl rfl ?_; refine ldb q2 25 _ _ k2.out rfl under_wide rfl info_wide ?_) | (refine ldga 25 (.tmp 2) rfl rfl ?_; refine ldgb q2 25 _ _ k2.out rfl under_wide rfl info_wide ?_))
    refine (ct _).mono ?_
    rintro e wc4 ⟨rfl, hb⟩
    replace k2 := Lib.hid (k2.out.below hb)
    replace kW := kW.trans (hb.mono kW.size)
    clear hb
    go_wp2_with (first | (refine lda 25 (.tmp 2) rfl rfl ?_; refine ldb q2 25 _ _ k2.out rfl under_wide rfl info_wide ?_) | (refine ldga 25 (.tmp 2) rfl rfl ?_; refine ldgb q2 25 _ _ k2.out rfl under_wide rfl info_wide ?_))
    refine (cp _).mono ?_
    rintro e wc5 ⟨rfl, hb⟩
    replace k2 := Lib.hid (k2.out.below hb)
    replace kW := kW.trans (hb.mono kW.size)
    clear hb
    have l2 := k2.out.lt
    have z5 : Hid (Blk (wc5.alloc (.cells wid0 25)) (wc5.heap.size) 25 wid0) := (Blk.new _ _ _ : Blk (wc5.alloc (.cells wid0 25)) wc5.heap.size 25 wid0)
    have k5 : Hid (Blk ((wc5.alloc (.cells wid0 25)).setRow (wc5.heap.size) (widL sx n0)) (wc5.heap.size) 25 (widL sx n0)) := (z5.out.row (widL sx n0))
    replace k2 := Lib.hid ((k2.out.old (.cells wid0 25)).rowOther (k := wc5.heap.size) (by omega) (widL sx n0))
    replace kW := (below_row (kW.alloc (by first | exact kW.size | (simp; have := kW.size; omega)) (.cells wid0 25)) (g := wc5.heap.size) (by have := kW.size; omega) (widL sx n0))
    go_wp2_with (first | (refine sta 25 (.tmp 5) (.tmp 17) rfl rfl ?_; refine stb (wc5.heap.size) (widL sx n0) 25 _ z5.out rfl rfl info_wide rfl (widF_ones _ (wd n0)) ?_) | (refine lda 25 (.tmp 2) rfl rfl ?_; refine ldb q2 25 _ _ k2.out rfl under_wide rfl info_wide ?_) | (refine lda 25 (.tmp 5) rfl rfl ?_; refine ldb (wc5.heap.size) 25 _ _ k5.out rfl under_wide rfl info_wide ?_) | (refine ldga 25 (.tmp 2) rfl rfl ?_; refine ldgb q2 25 _ _ k2.out rfl under_wide rfl info_wide ?_) | (refine ldga 25 (.tmp 5) rfl rfl ?_; refine ldgb (wc5.heap.size) 25 _ _ k5.out rfl under_wide rfl info_wide ?_))
    clear z5 l2
    generalize wc5.heap.size = q5 at k2 k5 kW ⊢
    generalize World.setRow _ _ _ = wa6 at k2 k5 kW ⊢
    have hG : Keep [(q2, 25, (widL s0 n0)), (q5, 25, (widL sx n0))] q2 25 (widL s0 n0) (widL s0 n0) w wa6.drew := by
      refine ⟨?_, .inl k2.out.drew, kW.drew⟩
      intro k hk
      simp only [List.mem_cons, List.mem_nil_iff, or_false] at hk
      rcases hk with rfl | rfl
      · exact k2.out.drew
      · exact k5.out.drew
    clear k2 k5 kW
    refine region_kitG (ds := [some 19, some 20, some 21, some 22, some 23, some 24, some 25, some 26]) [] [[], [0], [1], [], [], [4], [3, 5], [2, 6]] (fun i => false) [.is _ 0 (.int .i64 0), .is _ 1 (.bool false), .is _ 2 (.bool false), .is _ 3 (.agg (widL sx n0)), .is _ 4 (.agg (widL s0 n0)), .is _ 5 (.agg (widL sx n0)), .is _ 6 (.bool false), .is _ 7 (.bool false)] (Keep [(q2, 25, (widL s0 n0)), (q5, 25, (widL sx n0))] (q2) 25 (widL s0 n0) (widL s0 n0) w) follows_mixed (by kernel_rfl) (by kernel_rfl) (by kernel_rfl) (fun _ _ h he => h.ext he (by intro r hr; simp at hr) (by intro r hr; simp at hr) (by intro r hr; simp at hr)) hG ?_ [none, none, some false, none, none, none, none, none] ⟨fun _ _ h => h, trivial⟩ (Nat.le_of_ble_eq_true rfl) (by kernel_rfl) rfl ?_
    · refine steps_cons ?_ (steps_cons ?_ (steps_cons ?_ (steps_cons ?_ (steps_cons ?_ (steps_cons ?_ (steps_cons ?_ (steps_cons ?_ (steps_nil))))))))
      · exact fun xs wx hG _ => step_value (.int .i64 0) (w' := wx) (by simp only [fillIn, Act.put, List.setIfInBounds_toArray, List.set_cons_zero, List.set_cons_succ]; go_simp) rfl (Below.refl _ _)
      · intro xs wx hG hF
        have f0 : xs 0 = (.int .i64 0) := hF.1
        exact step_value (.bool false) (w' := wx) (by simp only [fillIn, Act.put, List.setIfInBounds_toArray, List.set_cons_zero, List.set_cons_succ, f0]; go_simp) rfl (Below.refl _ _)
      · intro xs wx hG hF
        have f1 : xs 1 = (.bool false) := hF.1
        exact step_value (.bool false) (w' := wx) (by simp only [fillIn, Act.put, List.setIfInBounds_toArray, List.set_cons_zero, List.set_cons_succ, f1]; go_simp) rfl (Below.refl _ _)
      · exact fun xs wx hG _ => step_row 25 (.tmp 5) rfl (q5) (eval_old (by decide)) 25 (widL sx n0) _ (hG.rows _ (List.mem_cons_of_mem _ (List.mem_cons_self ..))) under_wide rfl info_wide rfl
      · exact fun xs wx hG _ => step_row 25 (.tmp 2) rfl (q2) (eval_old (by decide)) 25 (widL s0 n0) _ (hG.rows _ (List.mem_cons_self ..)) under_wide rfl info_wide rfl
      · exact fun xs wx hG hF => step_call1 38 (.tmp 23) #[25] (.agg (widL s0 n0)) rfl ((eval_new (i := 4) (by decide) rfl (by simp)).trans hF.1) (by kernel_rfl) (cl wx) (fun e w' h => ⟨_, h.1, rfl, h.2⟩)
      · intro xs wx hG hF
        have f3 : xs 3 = (.agg (widL sx n0)) := hF.1
        have f5 : xs 5 = (.agg (widL sx n0)) := hF.2.1
        exact step_value (.bool false) (w' := wx) (by simp only [fillIn, Act.put, List.setIfInBounds_toArray, List.set_cons_zero, List.set_cons_succ, f3, f5]; go_simp) rfl (Below.refl _ _)
      · intro xs wx hG hF
        have f2 : xs 2 = (.bool false) := hF.1
        have f6 : xs 6 = (.bool false) := hF.2.1
        exact step_value (.bool false) (w' := wx) (by simp only [fillIn, Act.put, List.setIfInBounds_toArray, List.set_cons_zero, List.set_cons_succ, f2, f6]; go_simp) rfl (Below.refl _ _)
    intro xs wx hG hA hF
    obtain ⟨f0, f1, f2, f3, f4, f5, f6, f7, _⟩ := hF
    have f0 : xs 0 = (.int .i64 0) := f0
    have f1 : xs 1 = (.bool false) := f1
    have f2 : xs 2 = (.bool false) := f2
    have f3 : xs 3 = (.agg (widL sx n0)) := f3
    have f4 : xs 4 = (.agg (widL s0 n0)) := f4
    have f5 : xs 5 = (.agg (widL sx n0)) := f5
    have f6 : xs 6 = (.bool false) := f6
    have f7 : xs 7 = (.bool false) := f7
    simp only [fillIn, Act.put, List.setIfInBounds_toArray, List.set_cons_zero, List.set_cons_succ, f0, f1, f2, f3, f4, f5, f6, f7, List.drop_succ_cons, List.drop_zero, List.length_cons, List.length_nil]
    obtain ⟨kk, _, kW⟩ := hG
    have k2 : Hid (Blk wx q2 25 (widL s0 n0)) := kk _ (List.mem_cons_self ..)
    have k5 : Hid (Blk wx q5 25 (widL sx n0)) := kk _ (List.mem_cons_of_mem _ (List.mem_cons_self ..))
    clear kk
    clear hA f0 f1 f2 f3 f4 f5 f6 f7
    go_wp2_with (first | (refine lda 25 (.tmp 2) rfl rfl ?_; refine ldb q2 25 _ _ k2.out rfl under_wide rfl info_wide ?_) | (refine lda 25 (.tmp 5) rfl rfl ?_; refine ldb q5 25 _ _ k5.out rfl under_wide rfl info_wide ?_) | (refine ldga 25 (.tmp 2) rfl rfl ?_; refine ldgb q2 25 _ _ k2.out rfl under_wide rfl info_wide ?_) | (refine ldga 25 (.tmp 5) rfl rfl ?_; refine ldgb q5 25 _ _ k5.out rfl under_wide rfl info_wide ?_))
    refine (cq _).mono ?_
    rintro e wc7 ⟨rfl, hb⟩
    replace k2 := Lib.hid (k2.out.below hb)
    replace k5 := Lib.hid (k5.out.below hb)
    replace kW := kW.trans (hb.mono kW.size)
    clear hb
    by_cases hPE : PE = 0
    · subst hPE
      obtain ⟨hb1, hb2⟩ := HB.out rfl
      have ct2 : ∀ w, Calls Try.prog 36 #[.agg (widL PS PN)] w (Gives (.string b1) w) := by
        intro w
        have h := ptext_any PS PN w HP.out
        rw [show txtB PS PN = b1 by unfold txtB; rw [hb1]] at h
        exact h
      have cv : ∀ w, Calls Try.prog 17 #[.agg (widL PS PN)] w (Gives (.bool true) w) := by
        intro w
        have h := pvalid_any PS PN w HP.out
        rw [show validB PS PN = true by unfold validB; rw [hb2]; simp] at h
        exact h
      clear hb1 hb2
      have l2 := k2.out.lt
      have l5 := k5.out.lt
      have z7 : Hid (Blk (wc7.alloc (.cells wid0 25)) (wc7.heap.size) 25 wid0) := (Blk.new _ _ _ : Blk (wc7.alloc (.cells wid0 25)) wc7.heap.size 25 wid0)
      have k7 : Hid (Blk ((wc7.alloc (.cells wid0 25)).setRow (wc7.heap.size) (widL PS PN)) (wc7.heap.size) 25 (widL PS PN)) := (z7.out.row (widL PS PN))
      replace k2 := Lib.hid ((k2.out.old (.cells wid0 25)).rowOther (k := wc7.heap.size) (by omega) (widL PS PN))
      replace k5 := Lib.hid ((k5.out.old (.cells wid0 25)).rowOther (k := wc7.heap.size) (by omega) (widL PS PN))
      replace kW := (below_row (kW.alloc (by first | exact kW.size | (simp; have := kW.size; omega)) (.cells wid0 25)) (g := wc7.heap.size) (by have := kW.size; omega) (widL PS PN))
      go_wp2_with (first | (refine sta 25 (.tmp 7) (.tmp 30) rfl rfl ?_; refine stb (wc7.heap.size) (widL PS PN) 25 _ z7.out rfl rfl info_wide rfl (widF_ones _ (wd PN)) ?_) | (refine lda 25 (.tmp 2) rfl rfl ?_; refine ldb q2 25 _ _ k2.out rfl under_wide rfl info_wide ?_) | (refine lda 25 (.tmp 5) rfl rfl ?_; refine ldb q5 25 _ _ k5.out rfl under_wide rfl info_wide ?_) | (refine lda 25 (.tmp 7) rfl rfl ?_; refine ldb (wc7.heap.size) 25 _ _ k7.out rfl under_wide rfl info_wide ?_) | (refine ldga 25 (.tmp 2) rfl rfl ?_; refine ldgb q2 25 _ _ k2.out rfl under_wide rfl info_wide ?_) | (refine ldga 25 (.tmp 5) rfl rfl ?_; refine ldgb q5 25 _ _ k5.out rfl under_wide rfl info_wide ?_) | (refine ldga 25 (.tmp 7) rfl rfl ?_; refine ldgb (wc7.heap.size) 25 _ _ k7.out rfl under_wide rfl info_wide ?_))
      clear z7 l2 l5
      generalize wc7.heap.size = q7 at k2 k5 k7 kW ⊢
      generalize World.setRow _ _ _ = wa8 at k2 k5 k7 kW ⊢
      refine (ct2 _).mono ?_
      rintro e wc9 ⟨rfl, hb⟩
      replace k2 := Lib.hid (k2.out.below hb)
      replace k5 := Lib.hid (k5.out.below hb)
      replace k7 := Lib.hid (k7.out.below hb)
      replace kW := kW.trans (hb.mono kW.size)
      clear hb
      go_wp2_with (first | (refine lda 25 (.tmp 2) rfl rfl ?_; refine ldb q2 25 _ _ k2.out rfl under_wide rfl info_wide ?_) | (refine lda 25 (.tmp 5) rfl rfl ?_; refine ldb q5 25 _ _ k5.out rfl under_wide rfl info_wide ?_) | (refine lda 25 (.tmp 7) rfl rfl ?_; refine ldb q7 25 _ _ k7.out rfl under_wide rfl info_wide ?_) | (refine ldga 25 (.tmp 2) rfl rfl ?_; refine ldgb q2 25 _ _ k2.out rfl under_wide rfl info_wide ?_) | (refine ldga 25 (.tmp 5) rfl rfl ?_; refine ldgb q5 25 _ _ k5.out rfl under_wide rfl info_wide ?_) | (refine ldga 25 (.tmp 7) rfl rfl ?_; refine ldgb q7 25 _ _ k7.out rfl under_wide rfl info_wide ?_))
      refine (cv _).mono ?_
      rintro e wc10 ⟨rfl, hb⟩
      replace k2 := Lib.hid (k2.out.below hb)
      replace k5 := Lib.hid (k5.out.below hb)
      replace k7 := Lib.hid (k7.out.below hb)
      replace kW := kW.trans (hb.mono kW.size)
      clear hb
      go_wp2_with (first | (refine lda 25 (.tmp 2) rfl rfl ?_; refine ldb q2 25 _ _ k2.out rfl under_wide rfl info_wide ?_) | (refine lda 25 (.tmp 5) rfl rfl ?_; refine ldb q5 25 _ _ k5.out rfl under_wide rfl info_wide ?_) | (refine lda 25 (.tmp 7) rfl rfl ?_; refine ldb q7 25 _ _ k7.out rfl under_wide rfl info_wide ?_) | (refine ldga 25 (.tmp 2) rfl rfl ?_; refine ldgb q2 25 _ _ k2.out rfl under_wide rfl info_wide ?_) | (refine ldga 25 (.tmp 5) rfl rfl ?_; refine ldgb q5 25 _ _ k5.out rfl under_wide rfl info_wide ?_) | (refine ldga 25 (.tmp 7) rfl rfl ?_; refine ldgb q7 25 _ _ k7.out rfl under_wide rfl info_wide ?_))
      refine (awake_any _).mono ?_
      rintro e wc11 ⟨rfl, hb⟩
      replace k2 := Lib.hid (k2.out.below hb)
      replace k5 := Lib.hid (k5.out.below hb)
      replace k7 := Lib.hid (k7.out.below hb)
      replace kW := kW.trans (hb.mono kW.size)
      clear hb
      go_wp2_with fail
      go_ret
      exact ⟨rfl, kW⟩
    · obtain ⟨hz1, hz2⟩ := HZ.out hPE
      subst hz1 hz2
      have e2 := fun wx => eq_zero wx
      have hpe : (PE == 0) = false := by simpa using hPE
      have hpe2 : (PE != 0) = true := by rw [bne, hpe]; rfl
      clear hPE
      have l2 := k2.out.lt
      have l5 := k5.out.lt
      have z7 : Hid (Blk (wc7.alloc (.cells wid0 25)) (wc7.heap.size) 25 wid0) := (Blk.new _ _ _ : Blk (wc7.alloc (.cells wid0 25)) wc7.heap.size 25 wid0)
      have k7 : Hid (Blk ((wc7.alloc (.cells wid0 25)).setRow (wc7.heap.size) (widL false 0)) (wc7.heap.size) 25 (widL false 0)) := (z7.out.row (widL false 0))
      replace k2 := Lib.hid ((k2.out.old (.cells wid0 25)).rowOther (k := wc7.heap.size) (by omega) (widL false 0))
      replace k5 := Lib.hid ((k5.out.old (.cells wid0 25)).rowOther (k := wc7.heap.size) (by omega) (widL false 0))
      replace kW := (below_row (kW.alloc (by first | exact kW.size | (simp; have := kW.size; omega)) (.cells wid0 25)) (g := wc7.heap.size) (by have := kW.size; omega) (widL false 0))
      go_wp2_with (first | (refine sta 25 (.tmp 7) (.tmp 30) rfl rfl ?_; refine stb (wc7.heap.size) (widL false 0) 25 _ z7.out rfl rfl info_wide rfl (widF_ones _ (wd 0)) ?_) | (refine lda 25 (.tmp 2) rfl rfl ?_; refine ldb q2 25 _ _ k2.out rfl under_wide rfl info_wide ?_) | (refine lda 25 (.tmp 5) rfl rfl ?_; refine ldb q5 25 _ _ k5.out rfl under_wide rfl info_wide ?_) | (refine lda 25 (.tmp 7) rfl rfl ?_; refine ldb (wc7.heap.size) 25 _ _ k7.out rfl under_wide rfl info_wide ?_) | (refine ldga 25 (.tmp 2) rfl rfl ?_; refine ldgb q2 25 _ _ k2.out rfl under_wide rfl info_wide ?_) | (refine ldga 25 (.tmp 5) rfl rfl ?_; refine ldgb q5 25 _ _ k5.out rfl under_wide rfl info_wide ?_) | (refine ldga 25 (.tmp 7) rfl rfl ?_; refine ldgb (wc7.heap.size) 25 _ _ k7.out rfl under_wide rfl info_wide ?_))
      clear z7 l2 l5
      generalize wc7.heap.size = q7 at k2 k5 k7 kW ⊢
      generalize World.setRow _ _ _ = wa12 at k2 k5 k7 kW ⊢
      refine (awake_any _).mono ?_
      rintro e wc13 ⟨rfl, hb⟩
      replace k2 := Lib.hid (k2.out.below hb)
      replace k5 := Lib.hid (k5.out.below hb)
      replace k7 := Lib.hid (k7.out.below hb)
      replace kW := kW.trans (hb.mono kW.size)
      clear hb
      go_wp2_with fail
      go_ret
      exact ⟨rfl, kW⟩

/-! ### The row's step -/
set_option maxRecDepth 100000 in
theorem lifted (os : Os) (started : os.Started) (H : Type) (enc : TypeId × Value → H) :
    ReturnsInHanded {} Try.checked os 12 .any (Rows.wideRoundTripSpec.pre6 enc Try.prog Try.f12 Rows.wideRoundTripRow.domain false) (Rows.wideRoundTripSpec.post enc Try.prog Try.f12 false true false false) := by
  refine returnsInHanded_of_change (C := Try.checked) own started (by kernel_rfl) Try.func12
    (ChangeSpec.witness6 (enc := enc) (C := Try.checked) false ⟨#[], #[.agg #[.bool false, .int .u64 0, .int .u64 0, .int .u64 0, .int .u64 0], .string ByteArray.empty], []⟩ 8 (by kernel_rfl) (by kernel_rfl) (by kernel_rfl) (by kernel_rfl)) ?_
  intro W base args ds gs before hval0 hW hcnd _
  have hval : ∀ (j : Nat) t v, Try.f12.params[j]? = some t → args[j]? = some v → Value.okWide Try.prog W .any base t v := hval0
  have hW' := hW
  obtain ⟨p, q, hA0, hV, rfl, hfz, hnd⟩ := hW
  have hA : DataW.TrodAll enc Try.prog W 0 (fun _ => true) true Try.f12.params.toList args.toList ds p := hA0
  rw [Try.params12] at hA hval
  obtain ⟨v0, vs0, d0, ds0, p0, q0, hargs, rfl, rfl, h0, r0⟩ := trodAll_cons hA
  obtain ⟨v1, vs1, d1, ds1, p1, q1, rfl, rfl, rfl, h1, r1⟩ := trodAll_cons r0
  obtain ⟨rfl, rfl, rfl⟩ := trodAll_nil r1
  obtain rfl : args = #[v0, v1] := by cases args; simp_all
  obtain ⟨rfl, rfl⟩ := trodVars_none hV
  obtain ⟨s0, n0, rfl, rfl, rfl, w0⟩ := open_wide (hval 0 25 v0 rfl rfl) h0
  obtain ⟨b1, rfl, rfl, rfl, w1⟩ := open_string Try.underlying9 (hval 1 9 v1 rfl rfl) h1
  clear hA0 hval0
  simp only [List.append_nil] at hW'
  refine (walk s0 n0 w0 b1 w1 W).mono fun e W' ⟨he, hg⟩ => ?_
  subst he
  exact ⟨_, rfl, _, _, _, [], [], [], hW', (trodAll_cons_mk (shut_bool Try.underlying4 _) trodAll_mk0), (trodAll_cons_mk (shut_wide s0 n0) (trodAll_cons_mk (shut_string Try.underlying9 w1) trodAll_mk0)), rfl, hg.frame _, fun h => by cases h⟩

theorem over : Rows.wideRoundTripRow.holds Try.pinned (OpenSpec.ofChange Rows.wideRoundTripSpec) :=
  OpenClaim.holds_of_wide 12 Try.f12 rfl rfl rfl rfl rfl rfl rfl ⟨rfl, rfl, rfl, rfl, rfl⟩ rfl rfl rfl rfl rfl (by kernel_rfl) Try.func12 (by kernel_rfl)
    (of_decide_eq_true (by kernel_rfl)) (by unfold Func.isWrapper; first | (rw [if_pos (by decide +kernel)]; kernel_rfl) | (rw [if_neg (by decide +kernel)]; exact ⟨rfl, rfl⟩))
    (fun os started H enc _ => lifted os started H enc)

/-- The statement. -/
theorem proved : Rows.WideRoundTripSaid :=
  over
#print axioms proved
end Go.Proofs.Ytnpgikjahfhaoaa.wideRoundTrip
