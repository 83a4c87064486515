/-
  The reference's Add.
-/
import Derived.Test.YtnpgikjahfhaoaaWOps3
import Derived.Test.YtnpgikjahfhaoaaWJoin
import Derived.Test.YtnpgikjahfhaoaaKit
namespace Go.Proofs.Ytnpgikjahfhaoaa
open Go.RowKit Go.Proofs.WM Go.Proofs.Reg

theorem rplus_in (n m : Nat) (w : World) (hn : n < M256) (hm : m < M256) (h : n + m < M256) : Calls Try.prog 48 #[.agg (halL n), .agg (halL m)] w (Gives (.tuple #[.agg (halL (n + m)), .bool false]) w) := by
  have := rplus_any n m w hn hm
  rwa [show addM n m = n + m from Nat.mod_eq_of_lt h, show overB n m = false from decide_eq_false (by omega)] at this
theorem radd_any (s t : Bool) (n m : Nat) (w : World) (hn : n < M256) (hm : m < M256) :
    Calls Try.prog 25 #[.agg (widL s n), .agg (widL t m)] w (Gives (AddV s n t m) w) := by
  have HN := Lib.hid hn
  have HM := Lib.hid hm
  go_enter Try.func25, Try.ntmps25
  go_wp2_with fail
  have hG : Keep [(w.heap.size, 25, widL s n), (w.heap.size + 1, 25, widL t m)] (w.heap.size + 1 + 1) 25 wid0 wid0 w ((((w.alloc (.cells (widL s n) 25)).alloc (.cells (widL t m) 25)).alloc (.cells wid0 25)).drew) := by
    refine ⟨?_, .inl (Blk.newAt (by simp) _ _).drew, (below3 _ _ _ _).drew⟩
    intro k hk
    simp only [List.mem_cons, List.mem_nil_iff, or_false] at hk
    rcases hk with rfl | rfl
    · exact (((Blk.new _ _ _).old _).old _).drew
    · exact ((Blk.newAt (by simp) _ _).old _).drew
  refine region_kit (ds := [some 10, some 11, some 12, some 13, some 6, some 7]) [((· == w.heap.size + 1 + 1), 25, wid0)] [[], [0], [], [2], [], []] (fun i => i == 4 || i == 5) [.is _ 0 (.agg (widL s n)), .is _ 1 (.agg (halL n)), .is _ 2 (.agg (widL t m)), .is _ 3 (.agg (halL m)), .ptr _ 4 (w.heap.size + 1 + 1 + 1) 48 hal0 (by intro r hr k hk; simp only [List.mem_cons, List.mem_nil_iff, or_false] at hr; rcases hr with rfl <;> simp <;> omega), .ptr _ 5 (w.heap.size + 1 + 1 + 1) 48 hal0 (by intro r hr k hk; simp only [List.mem_cons, List.mem_nil_iff, or_false] at hr; rcases hr with rfl <;> simp <;> omega)] (Keep [(w.heap.size, 25, (widL s n)), (w.heap.size + 1, 25, (widL t m))] (w.heap.size + 1 + 1) 25 wid0 wid0 w) follows_mixed (by kernel_rfl) (by kernel_rfl) (by kernel_rfl) (fun _ _ h he => h.ext he (by intro r hr k hk; simp only [List.mem_cons, List.mem_nil_iff, or_false] at hr hk; rcases hr with rfl <;> rcases hk with rfl | rfl <;> simp <;> omega) (by intro r hr hx; simp only [List.mem_cons, List.mem_nil_iff, or_false] at hr; rcases hr with rfl <;> simp at hx ⊢ <;> omega) (by intro r hr k hk; simp only [List.mem_cons, List.mem_nil_iff, or_false] at hr; rcases hr with rfl <;> simp <;> omega)) hG ?_ ?_
  · refine steps_cons ?_ (steps_cons ?_ (steps_cons ?_ (steps_cons ?_ (steps_cons ?_ (steps_cons ?_ (steps_nil))))))
    · exact fun xs wx hG _ => step_row 25 (.tmp 2) rfl (w.heap.size) (eval_old (by decide)) 25 (widL s n) _ (hG.rows _ (List.mem_cons_self ..)) under_wide rfl info_wide rfl
    · exact fun xs wx hG hF => step_call1 41 (.tmp 10) #[25] (.agg (widL s n)) rfl ((eval_new (i := 0) (by decide) rfl (by simp)).trans hF.1) (by kernel_rfl) (rsplit_any s n wx) (fun e w' h => ⟨_, h.1, rfl, h.2⟩)
    · exact fun xs wx hG _ => step_row 25 (.tmp 3) rfl (w.heap.size + 1) (eval_old (by decide)) 25 (widL t m) _ (hG.rows _ (List.mem_cons_of_mem _ (List.mem_cons_self ..))) under_wide rfl info_wide rfl
    · exact fun xs wx hG hF => step_call1 41 (.tmp 12) #[25] (.agg (widL t m)) rfl ((eval_new (i := 2) (by decide) rfl (by simp)).trans hF.1) (by kernel_rfl) (rsplit_any t m wx) (fun e w' h => ⟨_, h.1, rfl, h.2⟩)
    · exact fun xs wx hG _ => step_alloc (.cells hal0 48) (by go_simp) ⟨_, (by have := (hG.res.elim Blk.lt Blk.lt); omega), rfl, Blk.new _ _ _⟩
    · exact fun xs wx hG _ => step_alloc (.cells hal0 48) (by go_simp) ⟨_, (by have := (hG.res.elim Blk.lt Blk.lt); omega), rfl, Blk.new _ _ _⟩
  intro xs wx hG hA hF
  obtain ⟨f0, f1, f2, f3, f4, f5, _⟩ := hF
  have f0 : xs 0 = (.agg (widL s n)) := f0
  have f1 : xs 1 = (.agg (halL n)) := f1
  have f2 : xs 2 = (.agg (widL t m)) := f2
  have f3 : xs 3 = (.agg (halL m)) := f3
  obtain ⟨g4, l4, x4, r4⟩ := f4
  obtain ⟨g5, l5, x5, r5⟩ := f5
  simp only [fillIn, Act.put, List.setIfInBounds_toArray, List.set_cons_zero, List.set_cons_succ, f0, f1, f2, f3, x4, x5, List.drop_succ_cons, List.drop_zero, List.length_cons, List.length_nil]
  have hne := hA 4 5 (by decide) (by decide) rfl rfl (by decide)
  rw [x4, x5] at hne
  have h45 : g4 ≠ g5 := fun e => hne (by rw [e])
  obtain ⟨kk, kres, kW⟩ := hG
  have kR : Hid (Blk wx (w.heap.size + 1 + 1) 25 wid0) := kres.elim id id
  have kA : Hid (Blk wx (w.heap.size) 25 (widL s n)) := kk _ (List.mem_cons_self ..)
  have kB : Hid (Blk wx (w.heap.size + 1) 25 (widL t m)) := kk _ (List.mem_cons_of_mem _ (List.mem_cons_self ..))
  have R4 : Hid (Blk wx g4 48 hal0) := r4
  have R5 : Hid (Blk wx g5 48 hal0) := r5
  refine wpList_store_row rfl 48 (.tmp 6) (.tmp 11) rfl g4 (halL n) rfl rfl 48 _ R4.out info_arr8 rfl (rowF_ones 8 (hw n)) ?_
  refine wpList_store_row rfl 48 (.tmp 7) (.tmp 13) rfl g5 (halL m) rfl rfl 48 _ (R5.out.rowOther (fun e => h45 e.symm) _) info_arr8 rfl (rowF_ones 8 (hw m)) ?_
  have kX := Lib.hid ((R4.out.row (halL n)).rowOther (k := g5) h45 (halL m))
  have kY := Lib.hid ((R5.out.rowOther (k := g4) (fun e => h45 e.symm) (halL n)).row (halL m))
  have kR := Lib.hid ((kR.out.rowOther (k := g4) (by omega) (halL n)).rowOther (k := g5) (by omega) (halL m))
  have kA := Lib.hid ((kA.out.rowOther (k := g4) (by omega) (halL n)).rowOther (k := g5) (by omega) (halL m))
  have kB := Lib.hid ((kB.out.rowOther (k := g4) (by omega) (halL n)).rowOther (k := g5) (by omega) (halL m))
  have kW := below_row (below_row kW (g := g4) (by omega) (halL n)) (g := g5) (by omega) (halL m)
  generalize World.setRow _ _ _ = W1 at kX kY kR kA kB kW ⊢
  clear R4 R5 kk kres hne r4 r5 x4 x5 f0 f1 f2 f3
  generalize g4 = gx at *
  generalize g5 = gy at *
  have lX := kX.out.lt
  have lY := kY.out.lt
  have lR := kR.out.lt
  by_cases hst : s = t
  · subst hst
    obtain ⟨a0, a1, a2, a3, a4⟩ := wide_cells kA.out
    obtain ⟨b0, b1, b2, b3, b4⟩ := wide_cells kB.out
    by_cases hov : M256 ≤ n + m
    · have HV := Lib.hid (addV_over (s := s) (t := s) rfl hov)
      have E := Lib.hid widL0
      obtain ⟨k, hpl⟩ : ∃ k, ∀ w, Calls Try.prog 48 #[.agg (halL n), .agg (halL m)] w (Gives (.tuple #[.agg (halL k), .bool true]) w) := ⟨addM n m, fun w => by
        have := rplus_any n m w hn hm
        rwa [show overB n m = true from decide_eq_true hov] at this⟩
      have HP := Lib.hid hpl
      clear hn hm hov hpl
      go_wp2_with (first | (refine wpList_load_row rfl 48 (.tmp 6) rfl gx rfl 48 _ (0, 0) _ kX.out under_arr8 rfl info_arr8 ?_) | (refine wpList_load_row rfl 48 (.tmp 7) rfl gy rfl 48 _ (0, 0) _ kY.out under_arr8 rfl info_arr8 ?_))
      refine (HP.out _).mono ?_
      rintro e w2 ⟨rfl, hb⟩
      clear a0 a1 a2 a3 a4 b0 b1 b2 b3 b4
      have kR := Lib.hid (kR.out.below hb)
      have kW := kW.trans (hb.mono kW.size)
      have lR := kR.out.lt
      clear hb
      have kz : Hid (Blk (w2.alloc (.cells hal0 48)) w2.heap.size 48 hal0) := Blk.new _ _ _
      have kR2 := Lib.hid ((kR.out.old (.cells hal0 48)).rowOther (k := w2.heap.size) (by omega) (halL k))
      have kW2 := below_row (kW.alloc kW.size (.cells hal0 48)) (g := w2.heap.size) kW.size (halL k)
      go_wp2_with (first | (refine wpList_store_row rfl 48 (.tmp 8) (.tmp 23) rfl w2.heap.size (halL k) rfl rfl 48 _ kz.out info_arr8 rfl (rowF_ones 8 (hw k)) ?_) | (refine wpList_store_row rfl 25 (.tmp 4) (.tmp 26) rfl (w.heap.size + 1 + 1) wid0 rfl rfl 25 _ kR2.out info_wide rfl (widF_ones false (fun _ => 0)) ?_))
      exact gives_row_tmp rfl (w.heap.size + 1 + 1) 25 wid0 _ (.int .i64 21) rfl rfl (kR2.out.row _) under_wide rfl info_wide rfl ⟨by rw [HV.out, E.out], below_row kW2 (by omega) _⟩
    · have HV := Lib.hid (addV_same (s := s) (t := s) rfl (show n + m < M256 by omega))
      have HK := Lib.hid (show n + m < M256 by omega)
      clear hn hm hov
      go_wp2_with (first | (refine wpList_load_row rfl 48 (.tmp 6) rfl gx rfl 48 _ (0, 0) _ kX.out under_arr8 rfl info_arr8 ?_) | (refine wpList_load_row rfl 48 (.tmp 7) rfl gy rfl 48 _ (0, 0) _ kY.out under_arr8 rfl info_arr8 ?_))
      refine (rplus_in n m _ HN.out HM.out HK.out).mono ?_
      rintro e w2 ⟨rfl, hb⟩
      clear a0 a1 a2 a3 a4 b0 b1 b2 b3 b4
      have kA := Lib.hid (kA.out.below hb)
      have kB := Lib.hid (kB.out.below hb)
      have kX := Lib.hid (kX.out.below hb)
      have kY := Lib.hid (kY.out.below hb)
      have kR := Lib.hid (kR.out.below hb)
      have kW := kW.trans (hb.mono kW.size)
      clear hb
      have lR := kR.out.lt
      have kz : Hid (Blk (w2.alloc (.cells hal0 48)) w2.heap.size 48 hal0) := Blk.new _ _ _
      have kz2 := Lib.hid (kz.out.row (halL (n + m)))
      have kA2 := (kA.out.old (.cells hal0 48)).rowOther (k := w2.heap.size) (by omega) (halL (n + m))
      have c0 : ((w2.alloc (.cells hal0 48)).setRow w2.heap.size (halL (n + m))).cell? ⟨w.heap.size, 0, none⟩ = some (.bool s) := kA2.cell 0
      have kR2 := Lib.hid ((kR.out.old (.cells hal0 48)).rowOther (k := w2.heap.size) (by omega) (halL (n + m)))
      have kW2 := below_row (kW.alloc kW.size (.cells hal0 48)) (g := w2.heap.size) kW.size (halL (n + m))
      clear kA2
      go_wp2_with (first | (refine wpList_store_row rfl 48 (.tmp 8) (.tmp 23) rfl w2.heap.size (halL (n + m)) rfl rfl 48 _ kz.out info_arr8 rfl (rowF_ones 8 (hw (n + m))) ?_) | (refine wpList_load_row rfl 48 (.tmp 8) rfl w2.heap.size rfl 48 _ (0, 0) _ kz2.out under_arr8 rfl info_arr8 ?_))
      refine (rjoin_any s (n + m) _ HK.out).mono ?_
      rintro e w3 ⟨rfl, hb⟩
      have kR := Lib.hid (kR2.out.below hb)
      have kW := kW2.trans (hb.mono kW2.size)
      clear hb c0
      go_wp2_with (refine wpList_store_row rfl 25 (.tmp 4) (.tmp 30) rfl (w.heap.size + 1 + 1) (widL (sg s (n + m)) (n + m)) rfl rfl 25 _ kR.out info_wide rfl (widF_ones _ (wd (n + m))) ?_)
      exact gives_row_tmp rfl (w.heap.size + 1 + 1) 25 (widL (sg s (n + m)) (n + m)) _ (.int .i64 0) rfl rfl (kR.out.row _) under_wide rfl info_wide rfl ⟨by rw [HV.out], below_row kW (by omega) _⟩
  · have hne2 : (s == t) = false := by simpa using hst
    obtain ⟨a0, a1, a2, a3, a4⟩ := wide_cells kA.out
    obtain ⟨b0, b1, b2, b3, b4⟩ := wide_cells kB.out
    by_cases hlt : n < m
    · have HL := Lib.hid hlt
      have HK := Lib.hid (show m - n < M256 by omega)
      have HV := Lib.hid (addV_less hst hlt)
      have hsub : ∀ w, Calls Try.prog 49 #[.agg (halL m), .agg (halL n)] w (Gives (.agg (halL (m - n))) w) := fun w => by
        have := rminus_any m n w hn
        rwa [subN_of_le (by omega) hm] at this
      have HS := Lib.hid hsub
      clear hn hm hlt hsub
      go_wp2_with (first | (refine wpList_load_row rfl 48 (.tmp 6) rfl gx rfl 48 _ (0, 0) _ kX.out under_arr8 rfl info_arr8 ?_) | (refine wpList_load_row rfl 48 (.tmp 7) rfl gy rfl 48 _ (0, 0) _ kY.out under_arr8 rfl info_arr8 ?_))
      refine (rcompare_lt n m _ HN.out HM.out HL.out).mono ?_
      rintro e w2 ⟨c, hc, rfl, hb⟩
      clear a0 a1 a2 a3 a4 b0 b1 b2 b3 b4
      have kA := Lib.hid (kA.out.below hb)
      have kB := Lib.hid (kB.out.below hb)
      have kX := Lib.hid (kX.out.below hb)
      have kY := Lib.hid (kY.out.below hb)
      have kR := Lib.hid (kR.out.below hb)
      have kW := kW.trans (hb.mono kW.size)
      clear hb
      clear lX lY lR
      go_wp2_with fail
      have hG : Keep [(w.heap.size, 25, widL s n), (w.heap.size + 1, 25, widL t m), (gx, 48, halL n), (gy, 48, halL m), (w.heap.size + 1 + 1, 25, wid0)] (w.heap.size) 25 (widL s n) (widL s n) w w2.drew := by
        refine ⟨?_, .inl kA.out.drew, kW.drew⟩
        intro k hk
        simp only [List.mem_cons, List.mem_nil_iff, or_false] at hk
        rcases hk with rfl | rfl | rfl | rfl | rfl
        · exact kA.out.drew
        · exact kB.out.drew
        · exact kX.out.drew
        · exact kY.out.drew
        · exact kR.out.drew
      clear kA kB kX kY kR kW
      refine region_kit (ds := [some 41, some 42, some 43, some 44, some 45, some 46]) [] [[], [0], [], [], [2, 3], [1, 4]] (fun i => false) [.is _ 0 (.pointer (some ⟨w.heap.size + 1, 0, none⟩)), .is _ 1 (.bool t), .is _ 2 (.agg (halL m)), .is _ 3 (.agg (halL n)), .is _ 4 (.agg (halL (m - n))), .is _ 5 (.agg (widL (sg t (m - n)) (m - n)))] (Keep [(w.heap.size, 25, (widL s n)), (w.heap.size + 1, 25, (widL t m)), (gx, 48, (halL n)), (gy, 48, (halL m)), (w.heap.size + 1 + 1, 25, wid0)] (w.heap.size) 25 (widL s n) (widL s n) w) follows_mixed (by kernel_rfl) (by kernel_rfl) (by kernel_rfl) (fun _ _ h he => h.ext he (by intro r hr; simp at hr) (by intro r hr; simp at hr) (by intro r hr; simp at hr)) hG ?_ ?_
      · refine steps_cons ?_ (steps_cons ?_ (steps_cons ?_ (steps_cons ?_ (steps_cons ?_ (steps_cons ?_ (steps_nil))))))
        · exact fun xs wx hG _ => step_value (.pointer (some ⟨w.heap.size + 1, 0, none⟩)) (w' := wx) (by simp only [fillIn, Act.put, List.setIfInBounds_toArray, List.set_cons_zero, List.set_cons_succ]; go_simp) rfl (Below.refl _ _)
        · intro xs wx hG hF
          have f1 : xs 0 = .pointer (some ⟨w.heap.size + 1, 0, none⟩) := hF.1
          obtain ⟨c0, c1, c2, c3, c4⟩ := wide_cells (hG.rows _ (List.mem_cons_of_mem _ (List.mem_cons_self ..)))
          exact step_value (.bool t) (w' := wx) (by simp only [fillIn, Act.put, List.setIfInBounds_toArray, List.set_cons_zero, List.set_cons_succ, f1]; go_simp) rfl (Below.refl _ _)
        · exact fun xs wx hG _ => step_row 48 (.tmp 7) rfl (gy) (eval_old (by decide)) 48 (halL m) _ (hG.rows _ (List.mem_cons_of_mem _ (List.mem_cons_of_mem _ (List.mem_cons_of_mem _ (List.mem_cons_self ..))))) under_arr8 rfl info_arr8 rfl
        · exact fun xs wx hG _ => step_row 48 (.tmp 6) rfl (gx) (eval_old (by decide)) 48 (halL n) _ (hG.rows _ (List.mem_cons_of_mem _ (List.mem_cons_of_mem _ (List.mem_cons_self ..)))) under_arr8 rfl info_arr8 rfl
        · exact fun xs wx hG hF => step_call2 49 (.tmp 43) (.tmp 44) #[48, 48] (.agg (halL m)) (.agg (halL n)) rfl ((eval_new (i := 2) (by decide) rfl (by simp)).trans hF.1) ((eval_new (i := 3) (by decide) rfl (by simp)).trans hF.2.1) (by kernel_rfl) (HS.out wx) (fun e w' h => ⟨_, h.1, rfl, h.2⟩)
        · exact fun xs wx hG hF => step_call2 42 (.tmp 42) (.tmp 45) #[4, 48] (.bool t) (.agg (halL (m - n))) rfl ((eval_new (i := 1) (by decide) rfl (by simp)).trans hF.1) ((eval_new (i := 4) (by decide) rfl (by simp)).trans hF.2.1) (by kernel_rfl) (rjoin_any t (m - n) wx HK.out) (fun e w' h => ⟨_, h.1, rfl, h.2⟩)
      intro xs wx hG hA hF
      obtain ⟨f0, f1, f2, f3, f4, f5, _⟩ := hF
      have f0 : xs 0 = (.pointer (some ⟨w.heap.size + 1, 0, none⟩)) := f0
      have f1 : xs 1 = (.bool t) := f1
      have f2 : xs 2 = (.agg (halL m)) := f2
      have f3 : xs 3 = (.agg (halL n)) := f3
      have f4 : xs 4 = (.agg (halL (m - n))) := f4
      have f5 : xs 5 = (.agg (widL (sg t (m - n)) (m - n))) := f5
      simp only [fillIn, Act.put, List.setIfInBounds_toArray, List.set_cons_zero, List.set_cons_succ, f0, f1, f2, f3, f4, f5, List.drop_succ_cons, List.drop_zero, List.length_cons, List.length_nil]
      obtain ⟨kk, _, kW⟩ := hG
      have kR : Blk wx (w.heap.size + 1 + 1) 25 wid0 := kk _ (List.mem_cons_of_mem _ (List.mem_cons_of_mem _ (List.mem_cons_of_mem _ (List.mem_cons_of_mem _ (List.mem_cons_self ..)))))
      refine wpList_store_row rfl 25 (.tmp 4) (.tmp 46) rfl (w.heap.size + 1 + 1) (widL (sg t (m - n)) (m - n)) rfl rfl 25 _ kR info_wide rfl (widF_ones _ (wd (m - n))) ?_
      have KR := Lib.hid (kR.row (widL (sg t (m - n)) (m - n)))
      have kW := below_row kW (g := w.heap.size + 1 + 1) (by omega) (widL (sg t (m - n)) (m - n))
      clear kk kR f0 f1 f2 f3 f4 f5
      generalize World.setRow _ _ _ = W4 at KR kW ⊢
      go_wp2
      exact gives_row_tmp rfl (w.heap.size + 1 + 1) 25 (widL (sg t (m - n)) (m - n)) _ (.int .i64 0) rfl rfl KR.out under_wide rfl info_wide rfl ⟨by rw [HV.out], kW⟩
    · have HL := Lib.hid (show m ≤ n by omega)
      have HK := Lib.hid (show n - m < M256 by omega)
      have HV := Lib.hid (addV_more hst hlt)
      have hsub : ∀ w, Calls Try.prog 49 #[.agg (halL n), .agg (halL m)] w (Gives (.agg (halL (n - m))) w) := fun w => by
        have := rminus_any n m w hm
        rwa [subN_of_le (by omega) hn] at this
      have HS := Lib.hid hsub
      clear hn hm hlt hsub
      go_wp2_with (first | (refine wpList_load_row rfl 48 (.tmp 6) rfl gx rfl 48 _ (0, 0) _ kX.out under_arr8 rfl info_arr8 ?_) | (refine wpList_load_row rfl 48 (.tmp 7) rfl gy rfl 48 _ (0, 0) _ kY.out under_arr8 rfl info_arr8 ?_))
      refine (rcompare_ge n m _ HN.out HM.out HL.out).mono ?_
      rintro e w2 ⟨c, hc, rfl, hb⟩
      clear a0 a1 a2 a3 a4 b0 b1 b2 b3 b4
      have kA := Lib.hid (kA.out.below hb)
      have kB := Lib.hid (kB.out.below hb)
      have kX := Lib.hid (kX.out.below hb)
      have kY := Lib.hid (kY.out.below hb)
      have kR := Lib.hid (kR.out.below hb)
      have kW := kW.trans (hb.mono kW.size)
      clear hb
      clear lX lY lR
      go_wp2_with fail
      have hG : Keep [(w.heap.size, 25, widL s n), (w.heap.size + 1, 25, widL t m), (gx, 48, halL n), (gy, 48, halL m), (w.heap.size + 1 + 1, 25, wid0)] (w.heap.size) 25 (widL s n) (widL s n) w w2.drew := by
        refine ⟨?_, .inl kA.out.drew, kW.drew⟩
        intro k hk
        simp only [List.mem_cons, List.mem_nil_iff, or_false] at hk
        rcases hk with rfl | rfl | rfl | rfl | rfl
        · exact kA.out.drew
        · exact kB.out.drew
        · exact kX.out.drew
        · exact kY.out.drew
        · exact kR.out.drew
      clear kA kB kX kY kR kW
      refine region_kit (ds := [some 35, some 36, some 37, some 38, some 39, some 40]) [] [[], [0], [], [], [2, 3], [1, 4]] (fun i => false) [.is _ 0 (.pointer (some ⟨w.heap.size, 0, none⟩)), .is _ 1 (.bool s), .is _ 2 (.agg (halL n)), .is _ 3 (.agg (halL m)), .is _ 4 (.agg (halL (n - m))), .is _ 5 (.agg (widL (sg s (n - m)) (n - m)))] (Keep [(w.heap.size, 25, (widL s n)), (w.heap.size + 1, 25, (widL t m)), (gx, 48, (halL n)), (gy, 48, (halL m)), (w.heap.size + 1 + 1, 25, wid0)] (w.heap.size) 25 (widL s n) (widL s n) w) follows_mixed (by kernel_rfl) (by kernel_rfl) (by kernel_rfl) (fun _ _ h he => h.ext he (by intro r hr; simp at hr) (by intro r hr; simp at hr) (by intro r hr; simp at hr)) hG ?_ ?_
      · refine steps_cons ?_ (steps_cons ?_ (steps_cons ?_ (steps_cons ?_ (steps_cons ?_ (steps_cons ?_ (steps_nil))))))
        · exact fun xs wx hG _ => step_value (.pointer (some ⟨w.heap.size, 0, none⟩)) (w' := wx) (by simp only [fillIn, Act.put, List.setIfInBounds_toArray, List.set_cons_zero, List.set_cons_succ]; go_simp) rfl (Below.refl _ _)
        · intro xs wx hG hF
          have f1 : xs 0 = .pointer (some ⟨w.heap.size, 0, none⟩) := hF.1
          obtain ⟨c0, c1, c2, c3, c4⟩ := wide_cells (hG.rows _ (List.mem_cons_self ..))
          exact step_value (.bool s) (w' := wx) (by simp only [fillIn, Act.put, List.setIfInBounds_toArray, List.set_cons_zero, List.set_cons_succ, f1]; go_simp) rfl (Below.refl _ _)
        · exact fun xs wx hG _ => step_row 48 (.tmp 6) rfl (gx) (eval_old (by decide)) 48 (halL n) _ (hG.rows _ (List.mem_cons_of_mem _ (List.mem_cons_of_mem _ (List.mem_cons_self ..)))) under_arr8 rfl info_arr8 rfl
        · exact fun xs wx hG _ => step_row 48 (.tmp 7) rfl (gy) (eval_old (by decide)) 48 (halL m) _ (hG.rows _ (List.mem_cons_of_mem _ (List.mem_cons_of_mem _ (List.mem_cons_of_mem _ (List.mem_cons_self ..))))) under_arr8 rfl info_arr8 rfl
        · exact fun xs wx hG hF => step_call2 49 (.tmp 37) (.tmp 38) #[48, 48] (.agg (halL n)) (.agg (halL m)) rfl ((eval_new (i := 2) (by decide) rfl (by simp)).trans hF.1) ((eval_new (i := 3) (by decide) rfl (by simp)).trans hF.2.1) (by kernel_rfl) (HS.out wx) (fun e w' h => ⟨_, h.1, rfl, h.2⟩)
        · exact fun xs wx hG hF => step_call2 42 (.tmp 36) (.tmp 39) #[4, 48] (.bool s) (.agg (halL (n - m))) rfl ((eval_new (i := 1) (by decide) rfl (by simp)).trans hF.1) ((eval_new (i := 4) (by decide) rfl (by simp)).trans hF.2.1) (by kernel_rfl) (rjoin_any s (n - m) wx HK.out) (fun e w' h => ⟨_, h.1, rfl, h.2⟩)
      intro xs wx hG hA hF
      obtain ⟨f0, f1, f2, f3, f4, f5, _⟩ := hF
      have f0 : xs 0 = (.pointer (some ⟨w.heap.size, 0, none⟩)) := f0
      have f1 : xs 1 = (.bool s) := f1
      have f2 : xs 2 = (.agg (halL n)) := f2
      have f3 : xs 3 = (.agg (halL m)) := f3
      have f4 : xs 4 = (.agg (halL (n - m))) := f4
      have f5 : xs 5 = (.agg (widL (sg s (n - m)) (n - m))) := f5
      simp only [fillIn, Act.put, List.setIfInBounds_toArray, List.set_cons_zero, List.set_cons_succ, f0, f1, f2, f3, f4, f5, List.drop_succ_cons, List.drop_zero, List.length_cons, List.length_nil]
      obtain ⟨kk, _, kW⟩ := hG
      have kR : Blk wx (w.heap.size + 1 + 1) 25 wid0 := kk _ (List.mem_cons_of_mem _ (List.mem_cons_of_mem _ (List.mem_cons_of_mem _ (List.mem_cons_of_mem _ (List.mem_cons_self ..)))))
      refine wpList_store_row rfl 25 (.tmp 4) (.tmp 40) rfl (w.heap.size + 1 + 1) (widL (sg s (n - m)) (n - m)) rfl rfl 25 _ kR info_wide rfl (widF_ones _ (wd (n - m))) ?_
      have KR := Lib.hid (kR.row (widL (sg s (n - m)) (n - m)))
      have kW := below_row kW (g := w.heap.size + 1 + 1) (by omega) (widL (sg s (n - m)) (n - m))
      clear kk kR f0 f1 f2 f3 f4 f5
      generalize World.setRow _ _ _ = W4 at KR kW ⊢
      go_wp2
      exact gives_row_tmp rfl (w.heap.size + 1 + 1) 25 (widL (sg s (n - m)) (n - m)) _ (.int .i64 0) rfl rfl KR.out under_wide rfl info_wide rfl ⟨by rw [HV.out], kW⟩
end Go.Proofs.Ytnpgikjahfhaoaa
