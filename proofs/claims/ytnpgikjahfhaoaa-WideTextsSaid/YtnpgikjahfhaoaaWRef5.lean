/-
  The reference's Mul.
-/
import Derived.Test.YtnpgikjahfhaoaaWOps5
import Derived.Test.YtnpgikjahfhaoaaWTimes
import Derived.Test.YtnpgikjahfhaoaaWJoin
import Derived.Test.YtnpgikjahfhaoaaKit
namespace Go.Proofs.Ytnpgikjahfhaoaa
open Go.RowKit Go.Proofs.WM Go.Proofs.Reg

theorem rmul_any (s t : Bool) (n m : Nat) (w : World) (hn : n < M256) (hm : m < M256) :
    Calls Try.prog 29 #[.agg (widL s n), .agg (widL t m)] w (Gives (MulV s n t m) w) := by
  by_cases hov : M256 ≤ n * m
  · have HV := Lib.hid (mulV_over (s := s) (t := t) hov)
    have E := Lib.hid widL0
    obtain ⟨k, hpl⟩ : ∃ k, ∀ w, Calls Try.prog 51 #[.agg (halL n), .agg (halL m)] w (Gives (.tuple #[.agg (halL k), .bool true]) w) := ⟨mulN n m, fun w => by
      have := rtimes_any n m w hn hm
      rwa [show mulB n m = true from decide_eq_true hov] at this⟩
    have HP := Lib.hid hpl
    clear hn hm hov hpl
    go_enter Try.func29, Try.ntmps29
    go_wp2_with fail
    have hG : Keep [(w.heap.size, 25, widL s n), (w.heap.size + 1, 25, widL t m)] (w.heap.size + 1 + 1) 25 wid0 wid0 w ((((w.alloc (.cells (widL s n) 25)).alloc (.cells (widL t m) 25)).alloc (.cells wid0 25)).drew) := by
      refine ⟨?_, .inl (Blk.newAt (by simp) _ _).drew, (below3 _ _ _ _).drew⟩
      intro k hk
      simp only [List.mem_cons, List.mem_nil_iff, or_false] at hk
      rcases hk with rfl | rfl
      · exact (((Blk.new _ _ _).old _).old _).drew
      · exact ((Blk.newAt (by simp) _ _).old _).drew
    refine region_kit (ds := [some 9, some 10, some 11, some 12, some 13, some 8, some 14, some 15, some 6, none]) [((· == w.heap.size + 1 + 1), 25, wid0), ((fun k => decide (w.heap.size + 1 + 1 + 1 ≤ k)), 48, (halL k))] [[], [0], [], [2], [1, 3], [4], [5], [5], [], [6, 8]] (fun i => false) [.is _ 0 (.agg (widL s n)), .is _ 1 (.agg (halL n)), .is _ 2 (.agg (widL t m)), .is _ 3 (.agg (halL m)), .is _ 4 (.tuple #[.agg (halL k), .bool true]), .is _ 5 (.tuple #[.agg (halL k), .bool true]), .is _ 6 (.agg (halL k)), .is _ 7 (.bool true), .ptr2 _ 8 (w.heap.size + 1 + 1 + 1) 48 hal0 (halL k) (by intro r hr k hk hx; simp only [List.mem_cons, List.mem_nil_iff, or_false] at hr; rcases hr with rfl | rfl <;> simp at hx ⊢ <;> omega), .own _ 8 (w.heap.size + 1 + 1 + 1) 48 (halL k) (by intro r hr k hk hx; simp only [List.mem_cons, List.mem_nil_iff, or_false] at hr; rcases hr with rfl | rfl <;> simp at hx ⊢ <;> omega)] (Keep [(w.heap.size, 25, (widL s n)), (w.heap.size + 1, 25, (widL t m))] (w.heap.size + 1 + 1) 25 wid0 wid0 w) follows_mixed (by kernel_rfl) (by kernel_rfl) (by kernel_rfl) (fun _ _ h he => h.ext he (by intro r hr k hk; simp only [List.mem_cons, List.mem_nil_iff, or_false] at hr hk; rcases hr with rfl | rfl <;> rcases hk with rfl | rfl <;> simp <;> omega) (by intro r hr hx; simp only [List.mem_cons, List.mem_nil_iff, or_false] at hr; rcases hr with rfl | rfl <;> simp at hx ⊢ <;> omega) (by intro r hr k hk; simp only [List.mem_cons, List.mem_nil_iff, or_false] at hr; rcases hr with rfl | rfl <;> simp <;> omega)) hG ?_ ?_
    · refine steps_cons ?_ (steps_cons ?_ (steps_cons ?_ (steps_cons ?_ (steps_cons ?_ (steps_cons ?_ (steps_cons ?_ (steps_cons ?_ (steps_cons ?_ (steps_cons ?_ (steps_nil))))))))))
      · exact fun xs wx hG _ => step_row 25 (.tmp 2) rfl (w.heap.size) (eval_old (by decide)) 25 (widL s n) _ (hG.rows _ (List.mem_cons_self ..)) under_wide rfl info_wide rfl
      · exact fun xs wx hG hF => step_call1 41 (.tmp 9) #[25] (.agg (widL s n)) rfl ((eval_new (i := 0) (by decide) rfl (by simp)).trans hF.1) (by kernel_rfl) (rsplit_any s n wx) (fun e w' h => ⟨_, h.1, rfl, h.2⟩)
      · exact fun xs wx hG _ => step_row 25 (.tmp 3) rfl (w.heap.size + 1) (eval_old (by decide)) 25 (widL t m) _ (hG.rows _ (List.mem_cons_of_mem _ (List.mem_cons_self ..))) under_wide rfl info_wide rfl
      · exact fun xs wx hG hF => step_call1 41 (.tmp 11) #[25] (.agg (widL t m)) rfl ((eval_new (i := 2) (by decide) rfl (by simp)).trans hF.1) (by kernel_rfl) (rsplit_any t m wx) (fun e w' h => ⟨_, h.1, rfl, h.2⟩)
      · exact fun xs wx hG hF => step_call2 51 (.tmp 10) (.tmp 12) #[48, 48] (.agg (halL n)) (.agg (halL m)) rfl ((eval_new (i := 1) (by decide) rfl (by simp)).trans hF.1) ((eval_new (i := 3) (by decide) rfl (by simp)).trans hF.2.1) (by kernel_rfl) (HP.out wx) (fun e w' h => ⟨_, h.1, rfl, h.2⟩)
      · intro xs wx hG hF
        have f4 : xs 4 = (.tuple #[.agg (halL k), .bool true]) := hF.1
        exact step_value (.tuple #[.agg (halL k), .bool true]) (w' := wx) (by simp only [fillIn, Act.put, List.setIfInBounds_toArray, List.set_cons_zero, List.set_cons_succ, f4]; go_simp) rfl (Below.refl _ _)
      · intro xs wx hG hF
        have f5 : xs 5 = (.tuple #[.agg (halL k), .bool true]) := hF.1
        exact step_value (.agg (halL k)) (w' := wx) (by simp only [fillIn, Act.put, List.setIfInBounds_toArray, List.set_cons_zero, List.set_cons_succ, f5]; go_simp) rfl (Below.refl _ _)
      · intro xs wx hG hF
        have f5 : xs 5 = (.tuple #[.agg (halL k), .bool true]) := hF.1
        exact step_value (.bool true) (w' := wx) (by simp only [fillIn, Act.put, List.setIfInBounds_toArray, List.set_cons_zero, List.set_cons_succ, f5]; go_simp) rfl (Below.refl _ _)
      · exact fun xs wx hG _ => step_alloc (.cells hal0 48) (by go_simp) ⟨_, (by have := (hG.res.elim Blk.lt Blk.lt); omega), rfl, .inl (Blk.new _ _ _)⟩
      · intro xs wx hG hF
        obtain ⟨g, hg, hx, hr | hr⟩ := hF.2.1
        · exact step_store 48 (.tmp 6) (.tmp 14) rfl g (halL k) ((eval_new (i := 8) (by decide) rfl (by simp)).trans hx) ((eval_new (i := 6) (by decide) rfl (by simp)).trans hF.1) _ _ hr info_arr8 rfl (rowF_ones 8 (hw k)) ⟨_, (List.mem_cons_of_mem _ (List.mem_cons_self ..)), by simp <;> omega, rfl, rfl⟩ ⟨g, hg, hx, Blk.row hr _⟩
        · exact step_store 48 (.tmp 6) (.tmp 14) rfl g (halL k) ((eval_new (i := 8) (by decide) rfl (by simp)).trans hx) ((eval_new (i := 6) (by decide) rfl (by simp)).trans hF.1) _ _ hr info_arr8 rfl (rowF_ones 8 (hw k)) ⟨_, (List.mem_cons_of_mem _ (List.mem_cons_self ..)), by simp <;> omega, rfl, rfl⟩ ⟨g, hg, hx, Blk.row hr _⟩
    intro xs wx hG hA hF
    obtain ⟨f0, f1, f2, f3, f4, f5, f6, f7, f8, f9, _⟩ := hF
    have f0 : xs 0 = (.agg (widL s n)) := f0
    have f1 : xs 1 = (.agg (halL n)) := f1
    have f2 : xs 2 = (.agg (widL t m)) := f2
    have f3 : xs 3 = (.agg (halL m)) := f3
    have f4 : xs 4 = (.tuple #[.agg (halL k), .bool true]) := f4
    have f5 : xs 5 = (.tuple #[.agg (halL k), .bool true]) := f5
    have f6 : xs 6 = (.agg (halL k)) := f6
    have f7 : xs 7 = (.bool true) := f7
    obtain ⟨g8, l8, x8, r8⟩ := f8
    obtain ⟨g9, l9, x9, r9⟩ := f9
    simp only [fillIn, Act.put, List.setIfInBounds_toArray, List.set_cons_zero, List.set_cons_succ, f0, f1, f2, f3, f4, f5, f6, f7, x8, List.drop_succ_cons, List.drop_zero, List.length_cons, List.length_nil]
    have e89 : g8 = g9 := by
      have := x8.symm.trans x9
      simp at this
      exact this
    subst e89
    obtain ⟨kk, kres, kW⟩ := hG
    have kR : Hid (Blk wx (w.heap.size + 1 + 1) 25 wid0) := kres.elim id id
    have kA : Hid (Blk wx (w.heap.size) 25 (widL s n)) := kk _ (List.mem_cons_self ..)
    have kB : Hid (Blk wx (w.heap.size + 1) 25 (widL t m)) := kk _ (List.mem_cons_of_mem _ (List.mem_cons_self ..))
    have kX : Hid (Blk wx g8 48 (halL k)) := r9
    clear kk kres r8 r9 x8 x9 f0 f1 f2 f3 f4 f5 f6 f7
    have lX := kX.out.lt
    go_wp2_with (refine wpList_store_row rfl 25 (.tmp 4) (.tmp 17) rfl (w.heap.size + 1 + 1) wid0 rfl rfl 25 _ kR.out info_wide rfl (widF_ones false (fun _ => 0)) ?_)
    exact gives_row_tmp rfl (w.heap.size + 1 + 1) 25 wid0 _ (.int .i64 21) rfl rfl (kR.out.row _) under_wide rfl info_wide rfl ⟨by rw [HV.out, E.out], below_row kW (by omega) _⟩
  · have HV := Lib.hid (mulV_in (s := s) (t := t) (show n * m < M256 by omega))
    obtain ⟨k, hk⟩ : ∃ k, k = n * m := ⟨_, rfl⟩
    have HK := Lib.hid (show k < M256 by omega)
    have hpl : ∀ w, Calls Try.prog 51 #[.agg (halL n), .agg (halL m)] w (Gives (.tuple #[.agg (halL k), .bool false]) w) := fun w => by
      have := rtimes_any n m w hn hm
      rwa [show mulB n m = false from decide_eq_false hov, show mulN n m = k by rw [hk]; exact Nat.mod_eq_of_lt (by omega)] at this
    have HP := Lib.hid hpl
    rw [← hk] at HV
    clear hn hm hov hpl hk
    go_enter Try.func29, Try.ntmps29
    go_wp2_with fail
    have hG : Keep [(w.heap.size, 25, widL s n), (w.heap.size + 1, 25, widL t m)] (w.heap.size + 1 + 1) 25 wid0 wid0 w ((((w.alloc (.cells (widL s n) 25)).alloc (.cells (widL t m) 25)).alloc (.cells wid0 25)).drew) := by
      refine ⟨?_, .inl (Blk.newAt (by simp) _ _).drew, (below3 _ _ _ _).drew⟩
      intro k hk
      simp only [List.mem_cons, List.mem_nil_iff, or_false] at hk
      rcases hk with rfl | rfl
      · exact (((Blk.new _ _ _).old _).old _).drew
      · exact ((Blk.newAt (by simp) _ _).old _).drew
    refine region_kit (ds := [some 9, some 10, some 11, some 12, some 13, some 8, some 14, some 15, some 6, none]) [((· == w.heap.size + 1 + 1), 25, wid0), ((fun k => decide (w.heap.size + 1 + 1 + 1 ≤ k)), 48, (halL k))] [[], [0], [], [2], [1, 3], [4], [5], [5], [], [6, 8]] (fun i => false) [.is _ 0 (.agg (widL s n)), .is _ 1 (.agg (halL n)), .is _ 2 (.agg (widL t m)), .is _ 3 (.agg (halL m)), .is _ 4 (.tuple #[.agg (halL k), .bool false]), .is _ 5 (.tuple #[.agg (halL k), .bool false]), .is _ 6 (.agg (halL k)), .is _ 7 (.bool false), .ptr2 _ 8 (w.heap.size + 1 + 1 + 1) 48 hal0 (halL k) (by intro r hr k hk hx; simp only [List.mem_cons, List.mem_nil_iff, or_false] at hr; rcases hr with rfl | rfl <;> simp at hx ⊢ <;> omega), .own _ 8 (w.heap.size + 1 + 1 + 1) 48 (halL k) (by intro r hr k hk hx; simp only [List.mem_cons, List.mem_nil_iff, or_false] at hr; rcases hr with rfl | rfl <;> simp at hx ⊢ <;> omega)] (Keep [(w.heap.size, 25, (widL s n)), (w.heap.size + 1, 25, (widL t m))] (w.heap.size + 1 + 1) 25 wid0 wid0 w) follows_mixed (by kernel_rfl) (by kernel_rfl) (by kernel_rfl) (fun _ _ h he => h.ext he (by intro r hr k hk; simp only [List.mem_cons, List.mem_nil_iff, or_false] at hr hk; rcases hr with rfl | rfl <;> rcases hk with rfl | rfl <;> simp <;> omega) (by intro r hr hx; simp only [List.mem_cons, List.mem_nil_iff, or_false] at hr; rcases hr with rfl | rfl <;> simp at hx ⊢ <;> omega) (by intro r hr k hk; simp only [List.mem_cons, List.mem_nil_iff, or_false] at hr; rcases hr with rfl | rfl <;> simp <;> omega)) hG ?_ ?_
    · refine steps_cons ?_ (steps_cons ?_ (steps_cons ?_ (steps_cons ?_ (steps_cons ?_ (steps_cons ?_ (steps_cons ?_ (steps_cons ?_ (steps_cons ?_ (steps_cons ?_ (steps_nil))))))))))
      · exact fun xs wx hG _ => step_row 25 (.tmp 2) rfl (w.heap.size) (eval_old (by decide)) 25 (widL s n) _ (hG.rows _ (List.mem_cons_self ..)) under_wide rfl info_wide rfl
      · exact fun xs wx hG hF => step_call1 41 (.tmp 9) #[25] (.agg (widL s n)) rfl ((eval_new (i := 0) (by decide) rfl (by simp)).trans hF.1) (by kernel_rfl) (rsplit_any s n wx) (fun e w' h => ⟨_, h.1, rfl, h.2⟩)
      · exact fun xs wx hG _ => step_row 25 (.tmp 3) rfl (w.heap.size + 1) (eval_old (by decide)) 25 (widL t m) _ (hG.rows _ (List.mem_cons_of_mem _ (List.mem_cons_self ..))) under_wide rfl info_wide rfl
      · exact fun xs wx hG hF => step_call1 41 (.tmp 11) #[25] (.agg (widL t m)) rfl ((eval_new (i := 2) (by decide) rfl (by simp)).trans hF.1) (by kernel_rfl) (rsplit_any t m wx) (fun e w' h => ⟨_, h.1, rfl, h.2⟩)
      · exact fun xs wx hG hF => step_call2 51 (.tmp 10) (.tmp 12) #[48, 48] (.agg (halL n)) (.agg (halL m)) rfl ((eval_new (i := 1) (by decide) rfl (by simp)).trans hF.1) ((eval_new (i := 3) (by decide) rfl (by simp)).trans hF.2.1) (by kernel_rfl) (HP.out wx) (fun e w' h => ⟨_, h.1, rfl, h.2⟩)
      · intro xs wx hG hF
        have f4 : xs 4 = (.tuple #[.agg (halL k), .bool false]) := hF.1
        exact step_value (.tuple #[.agg (halL k), .bool false]) (w' := wx) (by simp only [fillIn, Act.put, List.setIfInBounds_toArray, List.set_cons_zero, List.set_cons_succ, f4]; go_simp) rfl (Below.refl _ _)
      · intro xs wx hG hF
        have f5 : xs 5 = (.tuple #[.agg (halL k), .bool false]) := hF.1
        exact step_value (.agg (halL k)) (w' := wx) (by simp only [fillIn, Act.put, List.setIfInBounds_toArray, List.set_cons_zero, List.set_cons_succ, f5]; go_simp) rfl (Below.refl _ _)
      · intro xs wx hG hF
        have f5 : xs 5 = (.tuple #[.agg (halL k), .bool false]) := hF.1
        exact step_value (.bool false) (w' := wx) (by simp only [fillIn, Act.put, List.setIfInBounds_toArray, List.set_cons_zero, List.set_cons_succ, f5]; go_simp) rfl (Below.refl _ _)
      · exact fun xs wx hG _ => step_alloc (.cells hal0 48) (by go_simp) ⟨_, (by have := (hG.res.elim Blk.lt Blk.lt); omega), rfl, .inl (Blk.new _ _ _)⟩
      · intro xs wx hG hF
        obtain ⟨g, hg, hx, hr | hr⟩ := hF.2.1
        · exact step_store 48 (.tmp 6) (.tmp 14) rfl g (halL k) ((eval_new (i := 8) (by decide) rfl (by simp)).trans hx) ((eval_new (i := 6) (by decide) rfl (by simp)).trans hF.1) _ _ hr info_arr8 rfl (rowF_ones 8 (hw k)) ⟨_, (List.mem_cons_of_mem _ (List.mem_cons_self ..)), by simp <;> omega, rfl, rfl⟩ ⟨g, hg, hx, Blk.row hr _⟩
        · exact step_store 48 (.tmp 6) (.tmp 14) rfl g (halL k) ((eval_new (i := 8) (by decide) rfl (by simp)).trans hx) ((eval_new (i := 6) (by decide) rfl (by simp)).trans hF.1) _ _ hr info_arr8 rfl (rowF_ones 8 (hw k)) ⟨_, (List.mem_cons_of_mem _ (List.mem_cons_self ..)), by simp <;> omega, rfl, rfl⟩ ⟨g, hg, hx, Blk.row hr _⟩
    intro xs wx hG hA hF
    obtain ⟨f0, f1, f2, f3, f4, f5, f6, f7, f8, f9, _⟩ := hF
    have f0 : xs 0 = (.agg (widL s n)) := f0
    have f1 : xs 1 = (.agg (halL n)) := f1
    have f2 : xs 2 = (.agg (widL t m)) := f2
    have f3 : xs 3 = (.agg (halL m)) := f3
    have f4 : xs 4 = (.tuple #[.agg (halL k), .bool false]) := f4
    have f5 : xs 5 = (.tuple #[.agg (halL k), .bool false]) := f5
    have f6 : xs 6 = (.agg (halL k)) := f6
    have f7 : xs 7 = (.bool false) := f7
    obtain ⟨g8, l8, x8, r8⟩ := f8
    obtain ⟨g9, l9, x9, r9⟩ := f9
    simp only [fillIn, Act.put, List.setIfInBounds_toArray, List.set_cons_zero, List.set_cons_succ, f0, f1, f2, f3, f4, f5, f6, f7, x8, List.drop_succ_cons, List.drop_zero, List.length_cons, List.length_nil]
    have e89 : g8 = g9 := by
      have := x8.symm.trans x9
      simp at this
      exact this
    subst e89
    obtain ⟨kk, kres, kW⟩ := hG
    have kR : Hid (Blk wx (w.heap.size + 1 + 1) 25 wid0) := kres.elim id id
    have kA : Hid (Blk wx (w.heap.size) 25 (widL s n)) := kk _ (List.mem_cons_self ..)
    have kB : Hid (Blk wx (w.heap.size + 1) 25 (widL t m)) := kk _ (List.mem_cons_of_mem _ (List.mem_cons_self ..))
    have kX : Hid (Blk wx g8 48 (halL k)) := r9
    clear kk kres r8 r9 x8 x9 f0 f1 f2 f3 f4 f5 f6 f7
    have lX := kX.out.lt
    obtain ⟨a0, a1, a2, a3, a4⟩ := wide_cells kA.out
    obtain ⟨b0, b1, b2, b3, b4⟩ := wide_cells kB.out
    go_wp2_with (refine wpList_load_row rfl 48 (.tmp 6) rfl g8 rfl 48 _ (0, 0) _ kX.out under_arr8 rfl info_arr8 ?_)
    refine (rjoin_any (s != t) k _ HK.out).mono ?_
    rintro e w3 ⟨rfl, hb⟩
    have kR := Lib.hid (kR.out.below hb)
    have kW := kW.trans (hb.mono kW.size)
    clear hb a0 a1 a2 a3 a4 b0 b1 b2 b3 b4
    go_wp2_with (refine wpList_store_row rfl 25 (.tmp 4) (.tmp 24) rfl (w.heap.size + 1 + 1) (widL (sg (s != t) k) k) rfl rfl 25 _ kR.out info_wide rfl (widF_ones _ (wd k)) ?_)
    exact gives_row_tmp rfl (w.heap.size + 1 + 1) 25 (widL (sg (s != t) k) k) _ (.int .i64 0) rfl rfl (kR.out.row _) under_wide rfl info_wide rfl ⟨by rw [HV.out], below_row kW (by omega) _⟩
end Go.Proofs.Ytnpgikjahfhaoaa
