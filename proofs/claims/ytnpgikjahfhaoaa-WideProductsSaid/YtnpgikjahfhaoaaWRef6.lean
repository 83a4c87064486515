/-
  The reference's Cmp.
-/
import Derived.Test.YtnpgikjahfhaoaaWOps8
import Derived.Test.YtnpgikjahfhaoaaWJoin
import Derived.Test.YtnpgikjahfhaoaaKit
namespace Go.Proofs.Ytnpgikjahfhaoaa
open Go.RowKit Go.Proofs.WM Go.Proofs.Reg

theorem rcmp_any (s t : Bool) (n m : Nat) (w : World) (hn : n < M256) (hm : m < M256) :
    Calls Try.prog 23 #[.agg (widL s n), .agg (widL t m)] w (Gives (.int .i64 (cmpW s n t m)) w) := by
  have HN := Lib.hid hn
  have HM := Lib.hid hm
  clear hn hm
  go_enter Try.func23, Try.ntmps23
  go_wp2_with fail
  have hG : Keep [(w.heap.size, 25, widL s n), (w.heap.size + 1, 25, widL t m)] (w.heap.size) 25 (widL s n) (widL s n) w (((w.alloc (.cells (widL s n) 25)).alloc (.cells (widL t m) 25)).drew) := by
    refine ⟨?_, .inl ((Blk.new _ _ _).old _).drew, (below2 _ _ _).drew⟩
    intro k hk
    simp only [List.mem_cons, List.mem_nil_iff, or_false] at hk
    rcases hk with rfl | rfl
    · exact ((Blk.new _ _ _).old _).drew
    · exact (Blk.newAt (by simp) _ _).drew
  refine region_kit (ds := [some 7, some 8, some 9, some 10, some 11, some 12, some 13, some 14, some 15, some 16, some 5, some 6]) [] [[], [0], [], [2], [1, 3], [], [5], [], [7], [6, 8], [], []] (fun i => i == 10 || i == 11) [.is _ 0 (.pointer (some ⟨w.heap.size, 0, none⟩)), .is _ 1 (.bool s), .is _ 2 (.agg (widL s n)), .is _ 3 (.agg (halL n)), .is _ 4 (.agg (widL (sg s n) n)), .is _ 5 (.pointer (some ⟨w.heap.size + 1, 0, none⟩)), .is _ 6 (.bool t), .is _ 7 (.agg (widL t m)), .is _ 8 (.agg (halL m)), .is _ 9 (.agg (widL (sg t m) m)), .ptr _ 10 (w.heap.size + 1 + 1) 25 wid0 (by intro r hr; simp at hr), .ptr _ 11 (w.heap.size + 1 + 1) 25 wid0 (by intro r hr; simp at hr)] (Keep [(w.heap.size, 25, (widL s n)), (w.heap.size + 1, 25, (widL t m))] (w.heap.size) 25 (widL s n) (widL s n) w) follows_mixed (by kernel_rfl) (by kernel_rfl) (by kernel_rfl) (fun _ _ h he => h.ext he (by intro r hr; simp at hr) (by intro r hr; simp at hr) (by intro r hr; simp at hr)) hG ?_ ?_
  · refine steps_cons ?_ (steps_cons ?_ (steps_cons ?_ (steps_cons ?_ (steps_cons ?_ (steps_cons ?_ (steps_cons ?_ (steps_cons ?_ (steps_cons ?_ (steps_cons ?_ (steps_cons ?_ (steps_cons ?_ (steps_nil))))))))))))
    · exact fun xs wx hG _ => step_value (.pointer (some ⟨w.heap.size, 0, none⟩)) (w' := wx) (by simp only [fillIn, Act.put, List.setIfInBounds_toArray, List.set_cons_zero, List.set_cons_succ]; go_simp) rfl (Below.refl _ _)
    · intro xs wx hG hF
      have f1 : xs 0 = .pointer (some ⟨w.heap.size, 0, none⟩) := hF.1
      obtain ⟨c0, c1, c2, c3, c4⟩ := wide_cells (hG.rows _ (List.mem_cons_self ..))
      exact step_value (.bool s) (w' := wx) (by simp only [fillIn, Act.put, List.setIfInBounds_toArray, List.set_cons_zero, List.set_cons_succ, f1]; go_simp) rfl (Below.refl _ _)
    · exact fun xs wx hG _ => step_row 25 (.tmp 2) rfl (w.heap.size) (eval_old (by decide)) 25 (widL s n) _ (hG.rows _ (List.mem_cons_self ..)) under_wide rfl info_wide rfl
    · exact fun xs wx hG hF => step_call1 41 (.tmp 9) #[25] (.agg (widL s n)) rfl ((eval_new (i := 2) (by decide) rfl (by simp)).trans hF.1) (by kernel_rfl) (rsplit_any s n wx) (fun e w' h => ⟨_, h.1, rfl, h.2⟩)
    · exact fun xs wx hG hF => step_call2 42 (.tmp 8) (.tmp 10) #[4, 48] (.bool s) (.agg (halL n)) rfl ((eval_new (i := 1) (by decide) rfl (by simp)).trans hF.1) ((eval_new (i := 3) (by decide) rfl (by simp)).trans hF.2.1) (by kernel_rfl) (rjoin_any s n wx HN.out) (fun e w' h => ⟨_, h.1, rfl, h.2⟩)
    · exact fun xs wx hG _ => step_value (.pointer (some ⟨w.heap.size + 1, 0, none⟩)) (w' := wx) (by simp only [fillIn, Act.put, List.setIfInBounds_toArray, List.set_cons_zero, List.set_cons_succ]; go_simp) rfl (Below.refl _ _)
    · intro xs wx hG hF
      have f1 : xs 5 = .pointer (some ⟨w.heap.size + 1, 0, none⟩) := hF.1
      obtain ⟨c0, c1, c2, c3, c4⟩ := wide_cells (hG.rows _ (List.mem_cons_of_mem _ (List.mem_cons_self ..)))
      exact step_value (.bool t) (w' := wx) (by simp only [fillIn, Act.put, List.setIfInBounds_toArray, List.set_cons_zero, List.set_cons_succ, f1]; go_simp) rfl (Below.refl _ _)
    · exact fun xs wx hG _ => step_row 25 (.tmp 3) rfl (w.heap.size + 1) (eval_old (by decide)) 25 (widL t m) _ (hG.rows _ (List.mem_cons_of_mem _ (List.mem_cons_self ..))) under_wide rfl info_wide rfl
    · exact fun xs wx hG hF => step_call1 41 (.tmp 14) #[25] (.agg (widL t m)) rfl ((eval_new (i := 7) (by decide) rfl (by simp)).trans hF.1) (by kernel_rfl) (rsplit_any t m wx) (fun e w' h => ⟨_, h.1, rfl, h.2⟩)
    · exact fun xs wx hG hF => step_call2 42 (.tmp 13) (.tmp 15) #[4, 48] (.bool t) (.agg (halL m)) rfl ((eval_new (i := 6) (by decide) rfl (by simp)).trans hF.1) ((eval_new (i := 8) (by decide) rfl (by simp)).trans hF.2.1) (by kernel_rfl) (rjoin_any t m wx HM.out) (fun e w' h => ⟨_, h.1, rfl, h.2⟩)
    · exact fun xs wx hG _ => step_alloc (.cells wid0 25) (by go_simp) ⟨_, (by have := Blk.lt (hG.rows _ (List.mem_cons_of_mem _ (List.mem_cons_self ..))); omega), rfl, Blk.new _ _ _⟩
    · exact fun xs wx hG _ => step_alloc (.cells wid0 25) (by go_simp) ⟨_, (by have := Blk.lt (hG.rows _ (List.mem_cons_of_mem _ (List.mem_cons_self ..))); omega), rfl, Blk.new _ _ _⟩
  intro xs wx hG hA hF
  obtain ⟨f0, f1, f2, f3, f4, f5, f6, f7, f8, f9, f10, f11, _⟩ := hF
  have f0 : xs 0 = (.pointer (some ⟨w.heap.size, 0, none⟩)) := f0
  have f1 : xs 1 = (.bool s) := f1
  have f2 : xs 2 = (.agg (widL s n)) := f2
  have f3 : xs 3 = (.agg (halL n)) := f3
  have f4 : xs 4 = (.agg (widL (sg s n) n)) := f4
  have f5 : xs 5 = (.pointer (some ⟨w.heap.size + 1, 0, none⟩)) := f5
  have f6 : xs 6 = (.bool t) := f6
  have f7 : xs 7 = (.agg (widL t m)) := f7
  have f8 : xs 8 = (.agg (halL m)) := f8
  have f9 : xs 9 = (.agg (widL (sg t m) m)) := f9
  obtain ⟨g10, l10, x10, r10⟩ := f10
  obtain ⟨g11, l11, x11, r11⟩ := f11
  simp only [fillIn, Act.put, List.setIfInBounds_toArray, List.set_cons_zero, List.set_cons_succ, f0, f1, f2, f3, f4, f5, f6, f7, f8, f9, x10, x11, List.drop_succ_cons, List.drop_zero, List.length_cons, List.length_nil]
  have hne := hA 10 11 (by decide) (by decide) rfl rfl (by decide)
  rw [x10, x11] at hne
  have h45 : g10 ≠ g11 := fun e => hne (by rw [e])
  obtain ⟨kk, kres, kW⟩ := hG
  have R4 : Hid (Blk wx g10 25 wid0) := r10
  have R5 : Hid (Blk wx g11 25 wid0) := r11
  refine wpList_store_row rfl 25 (.tmp 5) (.tmp 11) rfl g10 (widL (sg s n) n) rfl rfl 25 _ R4.out info_wide rfl (widF_ones _ (wd n)) ?_
  refine wpList_store_row rfl 25 (.tmp 6) (.tmp 16) rfl g11 (widL (sg t m) m) rfl rfl 25 _ (R5.out.rowOther (fun e => h45 e.symm) _) info_wide rfl (widF_ones _ (wd m)) ?_
  have kX := Lib.hid ((R4.out.row (widL (sg s n) n)).rowOther (k := g11) h45 (widL (sg t m) m))
  have kY := Lib.hid ((R5.out.rowOther (k := g10) (fun e => h45 e.symm) (widL (sg s n) n)).row (widL (sg t m) m))
  have kW := below_row (below_row kW (g := g10) (by omega) (widL (sg s n) n)) (g := g11) (by omega) (widL (sg t m) m)
  generalize World.setRow _ _ _ = W1 at kX kY kW ⊢
  clear R4 R5 kk kres hne r10 r11 x10 x11 f0 f1 f2 f3 f4 f5 f6 f7 f8 f9
  generalize g10 = gx at *
  generalize g11 = gy at *
  obtain ⟨a0, a1, a2, a3, a4⟩ := wide_cells kX.out
  obtain ⟨b0, b1, b2, b3, b4⟩ := wide_cells kY.out
  cases hs : sg s n <;> cases ht : sg t m
  · have E := Lib.hid (show cmpN n m = cmpW s n t m by unfold cmpW; rw [hs, ht]; rfl)
    rw [hs] at a0 kX
    rw [ht] at b0 kY
    clear hs ht
    go_wp2_with fail
    clear a0 a1 a2 a3 a4 b0 b1 b2 b3 b4
    have hG : Keep [(gx, 25, widL false n), (gy, 25, widL false m)] gx 25 (widL false n) (widL false n) w W1.drew := by
      refine ⟨?_, .inl kX.out.drew, kW.drew⟩
      intro k hk
      simp only [List.mem_cons, List.mem_nil_iff, or_false] at hk
      rcases hk with rfl | rfl
      · exact kX.out.drew
      · exact kY.out.drew
    clear kX kY kW
    refine region_kit (ds := [some 31, some 32, some 33, some 34, some 35]) [] [[], [0], [], [2], [1, 3]] (fun i => false) [.is _ 0 (.agg (widL false n)), .is _ 1 (.agg (halL n)), .is _ 2 (.agg (widL false m)), .is _ 3 (.agg (halL m)), .is _ 4 (.int .i64 (cmpN n m))] (Keep [(gx, 25, (widL false n)), (gy, 25, (widL false m))] (gx) 25 (widL false n) (widL false n) w) follows_mixed (by kernel_rfl) (by kernel_rfl) (by kernel_rfl) (fun _ _ h he => h.ext he (by intro r hr; simp at hr) (by intro r hr; simp at hr) (by intro r hr; simp at hr)) hG ?_ ?_
    · refine steps_cons ?_ (steps_cons ?_ (steps_cons ?_ (steps_cons ?_ (steps_cons ?_ (steps_nil)))))
      · exact fun xs wx hG _ => step_row 25 (.tmp 5) rfl (gx) (eval_old (by decide)) 25 (widL false n) _ (hG.rows _ (List.mem_cons_self ..)) under_wide rfl info_wide rfl
      · exact fun xs wx hG hF => step_call1 41 (.tmp 31) #[25] (.agg (widL false n)) rfl ((eval_new (i := 0) (by decide) rfl (by simp)).trans hF.1) (by kernel_rfl) (rsplit_any false n wx) (fun e w' h => ⟨_, h.1, rfl, h.2⟩)
      · exact fun xs wx hG _ => step_row 25 (.tmp 6) rfl (gy) (eval_old (by decide)) 25 (widL false m) _ (hG.rows _ (List.mem_cons_of_mem _ (List.mem_cons_self ..))) under_wide rfl info_wide rfl
      · exact fun xs wx hG hF => step_call1 41 (.tmp 33) #[25] (.agg (widL false m)) rfl ((eval_new (i := 2) (by decide) rfl (by simp)).trans hF.1) (by kernel_rfl) (rsplit_any false m wx) (fun e w' h => ⟨_, h.1, rfl, h.2⟩)
      · exact fun xs wx hG hF => step_call2 44 (.tmp 32) (.tmp 34) #[48, 48] (.agg (halL n)) (.agg (halL m)) rfl ((eval_new (i := 1) (by decide) rfl (by simp)).trans hF.1) ((eval_new (i := 3) (by decide) rfl (by simp)).trans hF.2.1) (by kernel_rfl) (rcompare_any n m wx HN.out HM.out) (fun e w' h => ⟨_, h.1, rfl, h.2⟩)
    intro xs wx hG hA hF
    obtain ⟨f0, f1, f2, f3, f4, _⟩ := hF
    have f0 : xs 0 = (.agg (widL false n)) := f0
    have f1 : xs 1 = (.agg (halL n)) := f1
    have f2 : xs 2 = (.agg (widL false m)) := f2
    have f3 : xs 3 = (.agg (halL m)) := f3
    have f4 : xs 4 = (.int .i64 (cmpN n m)) := f4
    simp only [fillIn, Act.put, List.setIfInBounds_toArray, List.set_cons_zero, List.set_cons_succ, f0, f1, f2, f3, f4, List.drop_succ_cons, List.drop_zero, List.length_cons, List.length_nil]
    obtain ⟨kk, _, kW⟩ := hG
    clear kk f0 f1 f2 f3 f4
    go_wp2
    go_ret
    exact ⟨by rw [← E.out]; rfl, kW⟩
  · have E := Lib.hid (show 1 = cmpW s n t m by unfold cmpW; rw [hs, ht]; rfl)
    rw [hs] at a0 kX
    rw [ht] at b0 kY
    clear hs ht
    clear a1 a2 a3 a4 b1 b2 b3 b4
    go_wp2
    go_ret
    exact ⟨by rw [← E.out]; rfl, kW⟩
  · have E := Lib.hid (show -1 = cmpW s n t m by unfold cmpW; rw [hs, ht]; rfl)
    rw [hs] at a0 kX
    rw [ht] at b0 kY
    clear hs ht
    clear a1 a2 a3 a4 b1 b2 b3 b4
    go_wp2
    go_ret
    exact ⟨by rw [← E.out]; rfl, kW⟩
  · have E := Lib.hid (show cmpN m n = cmpW s n t m by unfold cmpW; rw [hs, ht]; rfl)
    rw [hs] at a0 kX
    rw [ht] at b0 kY
    clear hs ht
    go_wp2_with fail
    clear a0 a1 a2 a3 a4 b0 b1 b2 b3 b4
    have hG : Keep [(gx, 25, widL true n), (gy, 25, widL true m)] gx 25 (widL true n) (widL true n) w W1.drew := by
      refine ⟨?_, .inl kX.out.drew, kW.drew⟩
      intro k hk
      simp only [List.mem_cons, List.mem_nil_iff, or_false] at hk
      rcases hk with rfl | rfl
      · exact kX.out.drew
      · exact kY.out.drew
    clear kX kY kW
    refine region_kit (ds := [some 26, some 27, some 28, some 29, some 30]) [] [[], [0], [], [2], [1, 3]] (fun i => false) [.is _ 0 (.agg (widL true m)), .is _ 1 (.agg (halL m)), .is _ 2 (.agg (widL true n)), .is _ 3 (.agg (halL n)), .is _ 4 (.int .i64 (cmpN m n))] (Keep [(gx, 25, (widL true n)), (gy, 25, (widL true m))] (gx) 25 (widL true n) (widL true n) w) follows_mixed (by kernel_rfl) (by kernel_rfl) (by kernel_rfl) (fun _ _ h he => h.ext he (by intro r hr; simp at hr) (by intro r hr; simp at hr) (by intro r hr; simp at hr)) hG ?_ ?_
    · refine steps_cons ?_ (steps_cons ?_ (steps_cons ?_ (steps_cons ?_ (steps_cons ?_ (steps_nil)))))
      · exact fun xs wx hG _ => step_row 25 (.tmp 6) rfl (gy) (eval_old (by decide)) 25 (widL true m) _ (hG.rows _ (List.mem_cons_of_mem _ (List.mem_cons_self ..))) under_wide rfl info_wide rfl
      · exact fun xs wx hG hF => step_call1 41 (.tmp 26) #[25] (.agg (widL true m)) rfl ((eval_new (i := 0) (by decide) rfl (by simp)).trans hF.1) (by kernel_rfl) (rsplit_any true m wx) (fun e w' h => ⟨_, h.1, rfl, h.2⟩)
      · exact fun xs wx hG _ => step_row 25 (.tmp 5) rfl (gx) (eval_old (by decide)) 25 (widL true n) _ (hG.rows _ (List.mem_cons_self ..)) under_wide rfl info_wide rfl
      · exact fun xs wx hG hF => step_call1 41 (.tmp 28) #[25] (.agg (widL true n)) rfl ((eval_new (i := 2) (by decide) rfl (by simp)).trans hF.1) (by kernel_rfl) (rsplit_any true n wx) (fun e w' h => ⟨_, h.1, rfl, h.2⟩)
      · exact fun xs wx hG hF => step_call2 44 (.tmp 27) (.tmp 29) #[48, 48] (.agg (halL m)) (.agg (halL n)) rfl ((eval_new (i := 1) (by decide) rfl (by simp)).trans hF.1) ((eval_new (i := 3) (by decide) rfl (by simp)).trans hF.2.1) (by kernel_rfl) (rcompare_any m n wx HM.out HN.out) (fun e w' h => ⟨_, h.1, rfl, h.2⟩)
    intro xs wx hG hA hF
    obtain ⟨f0, f1, f2, f3, f4, _⟩ := hF
    have f0 : xs 0 = (.agg (widL true m)) := f0
    have f1 : xs 1 = (.agg (halL m)) := f1
    have f2 : xs 2 = (.agg (widL true n)) := f2
    have f3 : xs 3 = (.agg (halL n)) := f3
    have f4 : xs 4 = (.int .i64 (cmpN m n)) := f4
    simp only [fillIn, Act.put, List.setIfInBounds_toArray, List.set_cons_zero, List.set_cons_succ, f0, f1, f2, f3, f4, List.drop_succ_cons, List.drop_zero, List.length_cons, List.length_nil]
    obtain ⟨kk, _, kW⟩ := hG
    clear kk f0 f1 f2 f3 f4
    go_wp2
    go_ret
    exact ⟨by rw [← E.out]; rfl, kW⟩
end Go.Proofs.Ytnpgikjahfhaoaa
