/-
  The program's Sub.
-/
import Derived.Test.YtnpgikjahfhaoaaWOps3
import Derived.Test.YtnpgikjahfhaoaaKit
namespace Go.Proofs.Ytnpgikjahfhaoaa
open Go.RowKit Go.Proofs.WM Go.Proofs.Reg

theorem psub_wide (s t : Bool) (n m : Nat) (w : World) (hn : n < M256) (hm : m < M256) :
    Calls Try.prog 26 #[.agg (widL s n), .agg (widL t m)] w (Gives (AddV s n (sg (!t) m) m) w) := by
  have HN := Lib.hid hn
  have HM := Lib.hid hm
  clear hn hm
  go_enter Try.func26, Try.ntmps26
  go_wp2_with fail
  have hG : Keep [(w.heap.size, 25, widL s n), (w.heap.size + 1, 25, widL t m)] (w.heap.size + 1 + 1) 25 wid0 (widL (addS s n (sg (!t) m) m) (addN s n (sg (!t) m) m)) w ((((w.alloc (.cells (widL s n) 25)).alloc (.cells (widL t m) 25)).alloc (.cells wid0 25)).drew) := by
    refine ⟨?_, .inl (Blk.newAt (by simp) _ _).drew, (below3 _ _ _ _).drew⟩
    intro k hk
    simp only [List.mem_cons, List.mem_nil_iff, or_false] at hk
    rcases hk with rfl | rfl
    · exact (((Blk.new _ _ _).old _).old _).drew
    · exact ((Blk.newAt (by simp) _ _).old _).drew
  refine region_kit (ds := [some 6, some 7, some 8, some 9, some 10, some 11, none]) [((· == w.heap.size + 1 + 1), 25, (widL (addS s n (sg (!t) m) m) (addN s n (sg (!t) m) m)))] [[], [], [1], [0, 2], [3], [3], [4]] (fun i => false) [.is _ 0 (.agg (widL s n)), .is _ 1 (.agg (widL t m)), .is _ 2 (.agg (widL (sg (!t) m) m)), .is _ 3 (.tuple #[.agg (widL (addS s n (sg (!t) m) m) (addN s n (sg (!t) m) m)), .int .i64 (addE s n (sg (!t) m) m)]), .is _ 4 (.agg (widL (addS s n (sg (!t) m) m) (addN s n (sg (!t) m) m))), .is _ 5 (.int .i64 (addE s n (sg (!t) m) m)), .row _ (w.heap.size + 1 + 1) 25 (widL (addS s n (sg (!t) m) m) (addN s n (sg (!t) m) m)) (by intro r hr hx; simp only [List.mem_cons, List.mem_nil_iff, or_false] at hr; rcases hr with rfl <;> simp at hx ⊢ <;> omega)] (Keep [(w.heap.size, 25, (widL s n)), (w.heap.size + 1, 25, (widL t m))] (w.heap.size + 1 + 1) 25 wid0 (widL (addS s n (sg (!t) m) m) (addN s n (sg (!t) m) m)) w) follows_mixed (by kernel_rfl) (by kernel_rfl) (by kernel_rfl) (fun _ _ h he => h.ext he (by intro r hr k hk; simp only [List.mem_cons, List.mem_nil_iff, or_false] at hr hk; rcases hr with rfl <;> rcases hk with rfl | rfl <;> simp <;> omega) (by intro r hr hx; simp only [List.mem_cons, List.mem_nil_iff, or_false] at hr; rcases hr with rfl <;> simp at hx ⊢ <;> omega) (by intro r hr k hk; simp only [List.mem_cons, List.mem_nil_iff, or_false] at hr; rcases hr with rfl <;> simp <;> omega)) hG ?_ ?_
  · refine steps_cons ?_ (steps_cons ?_ (steps_cons ?_ (steps_cons ?_ (steps_cons ?_ (steps_cons ?_ (steps_cons ?_ (steps_nil)))))))
    · exact fun xs wx hG _ => step_row 25 (.tmp 2) rfl (w.heap.size) (eval_old (by decide)) 25 (widL s n) _ (hG.rows _ (List.mem_cons_self ..)) under_wide rfl info_wide rfl
    · exact fun xs wx hG _ => step_row 25 (.tmp 3) rfl (w.heap.size + 1) (eval_old (by decide)) 25 (widL t m) _ (hG.rows _ (List.mem_cons_of_mem _ (List.mem_cons_self ..))) under_wide rfl info_wide rfl
    · exact fun xs wx hG hF => step_call1 19 (.tmp 7) #[25] (.agg (widL t m)) rfl ((eval_new (i := 1) (by decide) rfl (by simp)).trans hF.1) (by kernel_rfl) (pneg_any t m wx HM.out) (fun e w' h => ⟨_, h.1, rfl, h.2⟩)
    · exact fun xs wx hG hF => step_call2 24 (.tmp 6) (.tmp 8) #[25, 25] (.agg (widL s n)) (.agg (widL (sg (!t) m) m)) rfl ((eval_new (i := 0) (by decide) rfl (by simp)).trans hF.1) ((eval_new (i := 2) (by decide) rfl (by simp)).trans hF.2.1) (by kernel_rfl) (padd_wide s (sg (!t) m) n m wx HN.out HM.out) (fun e w' h => ⟨_, h.1, rfl, h.2⟩)
    · intro xs wx hG hF
      have f3 : xs 3 = (.tuple #[.agg (widL (addS s n (sg (!t) m) m) (addN s n (sg (!t) m) m)), .int .i64 (addE s n (sg (!t) m) m)]) := hF.1
      exact step_value (.agg (widL (addS s n (sg (!t) m) m) (addN s n (sg (!t) m) m))) (w' := wx) (by simp only [fillIn, Act.put, List.setIfInBounds_toArray, List.set_cons_zero, List.set_cons_succ, f3]; go_simp) rfl (Below.refl _ _)
    · intro xs wx hG hF
      have f3 : xs 3 = (.tuple #[.agg (widL (addS s n (sg (!t) m) m) (addN s n (sg (!t) m) m)), .int .i64 (addE s n (sg (!t) m) m)]) := hF.1
      exact step_value (.int .i64 (addE s n (sg (!t) m) m)) (w' := wx) (by simp only [fillIn, Act.put, List.setIfInBounds_toArray, List.set_cons_zero, List.set_cons_succ, f3]; go_simp) rfl (Below.refl _ _)
    · intro xs wx hG hF
      rcases hG.res with hr | hr
      · exact step_store 25 (.tmp 4) (.tmp 10) rfl (w.heap.size + 1 + 1) (widL (addS s n (sg (!t) m) m) (addN s n (sg (!t) m) m)) (eval_old (by decide)) ((eval_new (i := 4) (by decide) rfl (by simp)).trans hF.1) _ _ hr info_wide rfl (widF_ones _ (wd (addN s n (sg (!t) m) m))) ⟨_, (List.mem_cons_self ..), by simp, rfl, rfl⟩ (Blk.row hr _)
      · exact step_store 25 (.tmp 4) (.tmp 10) rfl (w.heap.size + 1 + 1) (widL (addS s n (sg (!t) m) m) (addN s n (sg (!t) m) m)) (eval_old (by decide)) ((eval_new (i := 4) (by decide) rfl (by simp)).trans hF.1) _ _ hr info_wide rfl (widF_ones _ (wd (addN s n (sg (!t) m) m))) ⟨_, (List.mem_cons_self ..), by simp, rfl, rfl⟩ (Blk.row hr _)
  intro xs wx hG hA hF
  obtain ⟨f0, f1, f2, f3, f4, f5, f6, _⟩ := hF
  have f0 : xs 0 = (.agg (widL s n)) := f0
  have f1 : xs 1 = (.agg (widL t m)) := f1
  have f2 : xs 2 = (.agg (widL (sg (!t) m) m)) := f2
  have f3 : xs 3 = (.tuple #[.agg (widL (addS s n (sg (!t) m) m) (addN s n (sg (!t) m) m)), .int .i64 (addE s n (sg (!t) m) m)]) := f3
  have f4 : xs 4 = (.agg (widL (addS s n (sg (!t) m) m) (addN s n (sg (!t) m) m))) := f4
  have f5 : xs 5 = (.int .i64 (addE s n (sg (!t) m) m)) := f5
  simp only [fillIn, Act.put, List.setIfInBounds_toArray, List.set_cons_zero, List.set_cons_succ, f0, f1, f2, f3, f4, f5, List.drop_succ_cons, List.drop_zero, List.length_cons, List.length_nil]
  obtain ⟨kk, _, kW⟩ := hG
  clear kk
  go_wp2
  exact gives_row_tmp rfl (w.heap.size + 1 + 1) 25 _ _ _ rfl rfl f6 under_wide rfl info_wide rfl ⟨rfl, kW⟩
end Go.Proofs.Ytnpgikjahfhaoaa
