/-
  The program's Cmp.
-/
import Derived.Test.YtnpgikjahfhaoaaWOps1
import Derived.Test.YtnpgikjahfhaoaaKit
namespace Go.Proofs.Ytnpgikjahfhaoaa
open Go.RowKit Go.Proofs.WM Go.Proofs.Reg

/-- The comparison of signed magnitudes. -/
def cmpW (s : Bool) (n : Nat) (t : Bool) (m : Nat) : Int := if sg s n = true then (if sg t m = true then cmpN m n else -1) else (if sg t m = true then 1 else cmpN n m)
theorem pcmp_wide (s t : Bool) (n m : Nat) (w : World) (hn : n < M256) (hm : m < M256) :
    Calls Try.prog 22 #[.agg (widL s n), .agg (widL t m)] w (Gives (.int .i64 (cmpW s n t m)) w) := by
  have HN := Lib.hid hn
  have HM := Lib.hid hm
  clear hn hm
  go_enter Try.func22, Try.ntmps22
  go_wp2_with fail
  have hG : Keep [(w.heap.size + 1, 25, widL t m), (w.heap.size, 25, widL s n)] w.heap.size 25 (widL s n) (widL s n) w (((w.alloc (.cells (widL s n) 25)).alloc (.cells (widL t m) 25)).drew) := by
    refine ⟨?_, .inl ((Blk.new _ _ _).old _).drew, (below2 _ _ _).drew⟩
    intro k hk
    simp only [List.mem_cons, List.mem_nil_iff, or_false] at hk
    rcases hk with rfl | rfl
    · exact (Blk.newAt (by simp) _ _).drew
    · exact ((Blk.new _ _ _).old _).drew
  refine region_kit (ds := [some 5, some 6, some 7, some 8, some 9, some 10, some 11, some 12, some 13, some 14]) [] [[], [0], [], [2], [1, 3], [], [5], [], [7], [6, 8]] (fun i => false) [.is _ 0 (.pointer (some ⟨w.heap.size, 0, none⟩)), .is _ 1 (.bool s), .is _ 2 (.pointer (some ⟨w.heap.size, 1, none⟩)), .is _ 3 (.agg (magL n)), .is _ 4 (.agg (widL (sg s n) n)), .is _ 5 (.pointer (some ⟨w.heap.size + 1, 0, none⟩)), .is _ 6 (.bool t), .is _ 7 (.pointer (some ⟨w.heap.size + 1, 1, none⟩)), .is _ 8 (.agg (magL m)), .is _ 9 (.agg (widL (sg t m) m))] (Keep [(w.heap.size + 1, 25, (widL t m)), (w.heap.size, 25, (widL s n))] (w.heap.size) 25 (widL s n) (widL s n) w) follows_mixed (by kernel_rfl) (by kernel_rfl) (by kernel_rfl) (fun _ _ h he => h.ext he (by intro r hr; simp at hr) (by intro r hr; simp at hr) (by intro r hr; simp at hr)) hG ?_ ?_
  · refine steps_cons ?_ (steps_cons ?_ (steps_cons ?_ (steps_cons ?_ (steps_cons ?_ (steps_cons ?_ (steps_cons ?_ (steps_cons ?_ (steps_cons ?_ (steps_cons ?_ (steps_nil))))))))))
    · exact fun xs wx hG _ => step_value (.pointer (some ⟨w.heap.size, 0, none⟩)) (w' := wx) (by simp only [fillIn, Act.put, List.setIfInBounds_toArray, List.set_cons_zero, List.set_cons_succ]; go_simp) rfl (Below.refl _ _)
    · intro xs wx hG hF
      have f1 : xs 0 = .pointer (some ⟨w.heap.size, 0, none⟩) := hF.1
      obtain ⟨c0, c1, c2, c3, c4⟩ := wide_cells (hG.rows _ (List.mem_cons_of_mem _ (List.mem_cons_self ..)))
      exact step_value (.bool s) (w' := wx) (by simp only [fillIn, Act.put, List.setIfInBounds_toArray, List.set_cons_zero, List.set_cons_succ, f1]; go_simp) rfl (Below.refl _ _)
    · exact fun xs wx hG _ => step_value (.pointer (some ⟨w.heap.size, 1, none⟩)) (w' := wx) (by simp only [fillIn, Act.put, List.setIfInBounds_toArray, List.set_cons_zero, List.set_cons_succ]; go_simp) rfl (Below.refl _ _)
    · intro xs wx hG hF
      have f1 : xs 2 = .pointer (some ⟨w.heap.size, 1, none⟩) := hF.1
      obtain ⟨c0, c1, c2, c3, c4⟩ := wide_cells (hG.rows _ (List.mem_cons_of_mem _ (List.mem_cons_self ..)))
      exact step_value (.agg (magL n)) (w' := wx) (by simp only [fillIn, Act.put, List.setIfInBounds_toArray, List.set_cons_zero, List.set_cons_succ, f1]; go_simp) rfl (Below.refl _ _)
    · exact fun xs wx hG hF => step_call2 39 (.tmp 6) (.tmp 8) #[4, 45] (.bool s) (.agg (magL n)) rfl ((eval_new (i := 1) (by decide) rfl (by simp)).trans hF.1) ((eval_new (i := 3) (by decide) rfl (by simp)).trans hF.2.1) (by kernel_rfl) (signed_any s n wx HN.out) (fun e w' h => ⟨_, h.1, rfl, h.2⟩)
    · exact fun xs wx hG _ => step_value (.pointer (some ⟨w.heap.size + 1, 0, none⟩)) (w' := wx) (by simp only [fillIn, Act.put, List.setIfInBounds_toArray, List.set_cons_zero, List.set_cons_succ]; go_simp) rfl (Below.refl _ _)
    · intro xs wx hG hF
      have f1 : xs 5 = .pointer (some ⟨w.heap.size + 1, 0, none⟩) := hF.1
      obtain ⟨c0, c1, c2, c3, c4⟩ := wide_cells (hG.rows _ (List.mem_cons_self ..))
      exact step_value (.bool t) (w' := wx) (by simp only [fillIn, Act.put, List.setIfInBounds_toArray, List.set_cons_zero, List.set_cons_succ, f1]; go_simp) rfl (Below.refl _ _)
    · exact fun xs wx hG _ => step_value (.pointer (some ⟨w.heap.size + 1, 1, none⟩)) (w' := wx) (by simp only [fillIn, Act.put, List.setIfInBounds_toArray, List.set_cons_zero, List.set_cons_succ]; go_simp) rfl (Below.refl _ _)
    · intro xs wx hG hF
      have f1 : xs 7 = .pointer (some ⟨w.heap.size + 1, 1, none⟩) := hF.1
      obtain ⟨c0, c1, c2, c3, c4⟩ := wide_cells (hG.rows _ (List.mem_cons_self ..))
      exact step_value (.agg (magL m)) (w' := wx) (by simp only [fillIn, Act.put, List.setIfInBounds_toArray, List.set_cons_zero, List.set_cons_succ, f1]; go_simp) rfl (Below.refl _ _)
    · exact fun xs wx hG hF => step_call2 39 (.tmp 11) (.tmp 13) #[4, 45] (.bool t) (.agg (magL m)) rfl ((eval_new (i := 6) (by decide) rfl (by simp)).trans hF.1) ((eval_new (i := 8) (by decide) rfl (by simp)).trans hF.2.1) (by kernel_rfl) (signed_any t m wx HM.out) (fun e w' h => ⟨_, h.1, rfl, h.2⟩)
  intro xs wx hG hA hF
  obtain ⟨f0, f1, f2, f3, f4, f5, f6, f7, f8, f9, _⟩ := hF
  have f0 : xs 0 = (.pointer (some ⟨w.heap.size, 0, none⟩)) := f0
  have f1 : xs 1 = (.bool s) := f1
  have f2 : xs 2 = (.pointer (some ⟨w.heap.size, 1, none⟩)) := f2
  have f3 : xs 3 = (.agg (magL n)) := f3
  have f4 : xs 4 = (.agg (widL (sg s n) n)) := f4
  have f5 : xs 5 = (.pointer (some ⟨w.heap.size + 1, 0, none⟩)) := f5
  have f6 : xs 6 = (.bool t) := f6
  have f7 : xs 7 = (.pointer (some ⟨w.heap.size + 1, 1, none⟩)) := f7
  have f8 : xs 8 = (.agg (magL m)) := f8
  have f9 : xs 9 = (.agg (widL (sg t m) m)) := f9
  simp only [fillIn, Act.put, List.setIfInBounds_toArray, List.set_cons_zero, List.set_cons_succ, f0, f1, f2, f3, f4, f5, f6, f7, f8, f9, List.drop_succ_cons, List.drop_zero, List.length_cons, List.length_nil]
  obtain ⟨kk, _, kW⟩ := hG
  have kA : Blk wx w.heap.size 25 (widL s n) := kk _ (List.mem_cons_of_mem _ (List.mem_cons_self ..))
  have kB : Blk wx (w.heap.size + 1) 25 (widL t m) := kk _ (List.mem_cons_self ..)
  refine wpList_store_row rfl 25 (.tmp 2) (.tmp 9) rfl w.heap.size (widL (sg s n) n) rfl rfl 25 _ kA info_wide rfl (widF_ones _ (wd n)) ?_
  refine wpList_store_row rfl 25 (.tmp 3) (.tmp 14) rfl (w.heap.size + 1) (widL (sg t m) m) rfl rfl 25 _ (kB.rowOther (by omega) _) info_wide rfl (widF_ones _ (wd m)) ?_
  have KA := Lib.hid ((kA.row (widL (sg s n) n)).rowOther (k := w.heap.size + 1) (by omega) (widL (sg t m) m))
  have KB := Lib.hid ((kB.rowOther (k := w.heap.size) (by omega) (widL (sg s n) n)).row (widL (sg t m) m))
  have kW := below_row (below_row kW (g := w.heap.size) (by omega) (widL (sg s n) n)) (g := w.heap.size + 1) (by omega) (widL (sg t m) m)
  clear kk kA kB f0 f1 f2 f3 f4 f5 f6 f7 f8 f9
  generalize World.setRow _ _ _ = W4 at KA KB kW ⊢
  obtain ⟨a0, a1, a2, a3, a4⟩ := wide_cells KA.out
  obtain ⟨b0, b1, b2, b3, b4⟩ := wide_cells KB.out
  have hv : ∀ (c : Int), c = cmpW s n t m → Value.int IntKind.i64 c = .int .i64 (cmpW s n t m) := fun c h => by rw [h]
  cases hs : sg s n <;> cases ht : sg t m
  · have E := Lib.hid (show cmpN n m = cmpW s n t m by unfold cmpW; rw [hs, ht]; rfl)
    rw [hs] at a0
    rw [ht] at b0
    clear hs ht hv
    go_wp2_with fail
    refine (pcompare_any n m _ HN.out HM.out).mono ?_
    rintro e w2 ⟨rfl, hb⟩
    clear a0 a1 a2 a3 a4 b0 b1 b2 b3 b4
    go_wp2
    go_ret
    exact ⟨by rw [← E.out]; rfl, kW.trans (hb.mono kW.size)⟩
  · have E := Lib.hid (show 1 = cmpW s n t m by unfold cmpW; rw [hs, ht]; rfl)
    rw [hs] at a0
    rw [ht] at b0
    clear hs ht hv
    go_wp2
    go_ret
    exact ⟨by rw [← E.out]; rfl, kW⟩
  · have E := Lib.hid (show -1 = cmpW s n t m by unfold cmpW; rw [hs, ht]; rfl)
    rw [hs] at a0
    rw [ht] at b0
    clear hs ht hv
    go_wp2
    go_ret
    exact ⟨by rw [← E.out]; rfl, kW⟩
  · have E := Lib.hid (show cmpN m n = cmpW s n t m by unfold cmpW; rw [hs, ht]; rfl)
    rw [hs] at a0
    rw [ht] at b0
    clear hs ht hv
    go_wp2_with fail
    refine (pcompare_any m n _ HM.out HN.out).mono ?_
    rintro e w2 ⟨rfl, hb⟩
    clear a0 a1 a2 a3 a4 b0 b1 b2 b3 b4
    go_wp2
    go_ret
    exact ⟨by rw [← E.out]; rfl, kW.trans (hb.mono kW.size)⟩
end Go.Proofs.Ytnpgikjahfhaoaa
