/-
  The reference's Gcd.
-/
import Derived.Test.YtnpgikjahfhaoaaWRef1
import Derived.Test.YtnpgikjahfhaoaaWEven
import Derived.Test.YtnpgikjahfhaoaaWSmall
import Derived.Test.YtnpgikjahfhaoaaWGcdM
import Derived.Test.YtnpgikjahfhaoaaWAdd
import Derived.Test.YtnpgikjahfhaoaaKit
import Derived.Test.YtnpgikjahfhaoaaWGuard
import Derived.Deep.LoopGhost
import Derived.Deep.CutRange
import Derived.Deep.DeepCutAuto
namespace Go.Proofs.Ytnpgikjahfhaoaa
open Go.RowKit Go.Proofs.WM Go.Proofs.Reg

set_option maxHeartbeats 8000000 in
theorem rgcd_any (s t : Bool) (n m : Nat) (w : World) (hn : n < M256) (hm : m < M256) :
    Calls Try.prog 33 #[.agg (widL s n), .agg (widL t m)] w (Gives (.agg (widL false (Nat.gcd n m))) w) := by
  have HN := Lib.hid hn
  have HM := Lib.hid hm
  clear hn hm
  go_enter Try.func33, Try.ntmps33
  go_wp2_with fail
  have hG : Keep [(w.heap.size, 25, widL s n), (w.heap.size + 1, 25, widL t m), (w.heap.size + 1 + 1, 25, wid0)] (w.heap.size + 1 + 1) 25 wid0 wid0 w ((((w.alloc (.cells (widL s n) 25)).alloc (.cells (widL t m) 25)).alloc (.cells wid0 25)).drew) := by
    refine ⟨?_, .inl (Blk.newAt (by simp) _ _).drew, (below3 _ _ _ _).drew⟩
    intro k hk
    simp only [List.mem_cons, List.mem_nil_iff, or_false] at hk
    rcases hk with rfl | rfl | rfl
    · exact (((Blk.new _ _ _).old _).old _).drew
    · exact ((Blk.newAt (by simp) _ _).old _).drew
    · exact (Blk.newAt (by simp) _ _).drew
  refine region_kit (ds := [some 9, some 10, some 11, some 12, some 5, some 6]) [] [[], [0], [], [2], [], []] (fun i => i == 4 || i == 5) [.is _ 0 (.agg (widL s n)), .is _ 1 (.agg (halL n)), .is _ 2 (.agg (widL t m)), .is _ 3 (.agg (halL m)), .ptr _ 4 (w.heap.size + 1 + 1 + 1) 48 hal0 (by intro r hr; simp at hr), .ptr _ 5 (w.heap.size + 1 + 1 + 1) 48 hal0 (by intro r hr; simp at hr)] (Keep [(w.heap.size, 25, (widL s n)), (w.heap.size + 1, 25, (widL t m)), (w.heap.size + 1 + 1, 25, wid0)] (w.heap.size + 1 + 1) 25 wid0 wid0 w) follows_mixed (by kernel_rfl) (by kernel_rfl) (by kernel_rfl) (fun _ _ h he => h.ext he (by intro r hr; simp at hr) (by intro r hr; simp at hr) (by intro r hr; simp at hr)) hG ?_ ?_
  · refine steps_cons ?_ (steps_cons ?_ (steps_cons ?_ (steps_cons ?_ (steps_cons ?_ (steps_cons ?_ (steps_nil))))))
    · exact fun xs wx hG _ => step_row 25 (.tmp 2) rfl (w.heap.size) (eval_old (by decide)) 25 (widL s n) _ (hG.rows _ (List.mem_cons_self ..)) under_wide rfl info_wide rfl
    · exact fun xs wx hG hF => step_call1 41 (.tmp 9) #[25] (.agg (widL s n)) rfl ((eval_new (i := 0) (by decide) rfl (by simp)).trans hF.1) (by kernel_rfl) (rsplit_any s n wx) (fun e w' h => ⟨_, h.1, rfl, h.2⟩)
    · exact fun xs wx hG _ => step_row 25 (.tmp 3) rfl (w.heap.size + 1) (eval_old (by decide)) 25 (widL t m) _ (hG.rows _ (List.mem_cons_of_mem _ (List.mem_cons_self ..))) under_wide rfl info_wide rfl
    · exact fun xs wx hG hF => step_call1 41 (.tmp 11) #[25] (.agg (widL t m)) rfl ((eval_new (i := 2) (by decide) rfl (by simp)).trans hF.1) (by kernel_rfl) (rsplit_any t m wx) (fun e w' h => ⟨_, h.1, rfl, h.2⟩)
    · exact fun xs wx hG _ => step_alloc (.cells hal0 48) (by go_simp) ⟨_, (by have := Blk.lt (hG.rows _ (List.mem_cons_of_mem _ (List.mem_cons_of_mem _ (List.mem_cons_self ..)))); omega), rfl, Blk.new _ _ _⟩
    · exact fun xs wx hG _ => step_alloc (.cells hal0 48) (by go_simp) ⟨_, (by have := Blk.lt (hG.rows _ (List.mem_cons_of_mem _ (List.mem_cons_of_mem _ (List.mem_cons_self ..)))); omega), rfl, Blk.new _ _ _⟩
  intro xs wx hG hA hF
  obtain ⟨f0, f1, f2, f3, f4, f5, _⟩ := hF
  have f0 : xs 0 = (.agg (widL s n)) := f0
  have f1 : xs 1 = (.agg (halL n)) := f1
  have f2 : xs 2 = (.agg (widL t m)) := f2
  have f3 : xs 3 = (.agg (halL m)) := f3
  obtain ⟨g4, l4, x4, r4⟩ := f4
  obtain ⟨g5, l5, x5, r5⟩ := f5
  simp only [fillIn, Act.put, List.setIfInBounds_toArray, List.set_cons_zero, List.set_cons_succ, f0, f1, f2, f3, x4, x5, List.drop_succ_cons, List.drop_zero, List.length_cons, List.length_nil]
  have hne := hA 4 5 (by decide) (by decide) rfl rfl (by decide)
  rw [x4, x5] at hne
  have hxy : g4 ≠ g5 := fun e => hne (by rw [e])
  have hyx : g5 ≠ g4 := fun e => hxy e.symm
  obtain ⟨kk, _, kW⟩ := hG
  have kR : Hid (Blk wx (w.heap.size + 1 + 1) 25 wid0) := kk _ (List.mem_cons_of_mem _ (List.mem_cons_of_mem _ (List.mem_cons_self ..)))
  have kX : Hid (Blk wx g4 48 hal0) := r4
  have kY : Hid (Blk wx g5 48 hal0) := r5
  have hRx : (w.heap.size + 1 + 1) ≠ g4 := by omega
  have hRy : (w.heap.size + 1 + 1) ≠ g5 := by omega
  have hwx : w.heap.size ≤ g4 := by omega
  have hwy : w.heap.size ≤ g5 := by omega
  clear kk hne r4 r5 x4 x5 l4 l5 f0 f1 f2 f3
  generalize g4 = gx at *
  generalize g5 = gy at *
  have kXs : Hid (Blk (wx.setRow gx (halL n)) gx 48 (halL n)) := kX.out.row _
  have kYs : Hid (Blk (wx.setRow gx (halL n)) gy 48 _) := kY.out.rowOther (k := gx) hyx _
  have kRs : Hid (Blk (wx.setRow gx (halL n)) (w.heap.size + 1 + 1) 25 wid0) := kR.out.rowOther (k := gx) hRx _
  have kWs := below_row kW (g := gx) hwx (halL n)
  refine wpList_store_row rfl 48 (.tmp 5) (.tmp 10) rfl gx (halL n) rfl rfl 48 _ kX.out info_arr8 rfl (rowF_ones 8 (hw n)) ?_
  clear kX kY kR kW
  have kX := kXs
  have kY := kYs
  have kR := kRs
  have kW := kWs
  clear kXs kYs kRs kWs
  generalize World.setRow _ _ _ = v1 at kX kY kR kW ⊢
  have kYs : Hid (Blk (v1.setRow gy (halL m)) gy 48 (halL m)) := kY.out.row _
  have kXs : Hid (Blk (v1.setRow gy (halL m)) gx 48 _) := kX.out.rowOther (k := gy) hxy _
  have kRs : Hid (Blk (v1.setRow gy (halL m)) (w.heap.size + 1 + 1) 25 wid0) := kR.out.rowOther (k := gy) hRy _
  have kWs := below_row kW (g := gy) hwy (halL m)
  refine wpList_store_row rfl 48 (.tmp 6) (.tmp 12) rfl gy (halL m) rfl rfl 48 _ kY.out info_arr8 rfl (rowF_ones 8 (hw m)) ?_
  clear kX kY kR kW
  have kX := kXs
  have kY := kYs
  have kR := kRs
  have kW := kWs
  clear kXs kYs kRs kWs
  generalize World.setRow _ _ _ = v2 at kX kY kR kW ⊢
  go_wp2_with (first | (refine wpList_load_row rfl 48 (.tmp 5) rfl gx rfl 48 _ (0, 0) _ kX.out under_arr8 rfl info_arr8 ?_) | (refine wpList_load_row rfl 48 (.tmp 6) rfl gy rfl 48 _ (0, 0) _ kY.out under_arr8 rfl info_arr8 ?_) | (refine wpList_load_rowG rfl 48 (.tmp 6) rfl gy rfl 48 _ (0, 0) _ kY.out under_arr8 rfl info_arr8 ?_))
  refine (zero_any n _ HN.out).mono ?_
  rintro e v3 ⟨rfl, hb⟩
  have kX := Lib.hid (kX.out.below hb)
  have kY := Lib.hid (kY.out.below hb)
  have kR := Lib.hid (kR.out.below hb)
  have kW := kW.trans (hb.mono kW.size)
  clear hb
  by_cases hn0 : n = 0
  · subst hn0
    rw [show ((0 : Nat) == 0) = true from rfl]
    have HV := Lib.hid (show widL (sg false m) m = widL false (Nat.gcd 0 m) by rw [sg_false, Nat.gcd_zero_left])
    go_wp2_with (first | (refine wpList_load_row rfl 48 (.tmp 5) rfl gx rfl 48 _ (0, 0) _ kX.out under_arr8 rfl info_arr8 ?_) | (refine wpList_load_row rfl 48 (.tmp 6) rfl gy rfl 48 _ (0, 0) _ kY.out under_arr8 rfl info_arr8 ?_) | (refine wpList_load_rowG rfl 48 (.tmp 6) rfl gy rfl 48 _ (0, 0) _ kY.out under_arr8 rfl info_arr8 ?_))
    refine (rjoin_any false m _ HM.out).mono ?_
    rintro e v4 ⟨rfl, hb⟩
    have kX := Lib.hid (kX.out.below hb)
    have kY := Lib.hid (kY.out.below hb)
    have kR := Lib.hid (kR.out.below hb)
    have kW := kW.trans (hb.mono kW.size)
    clear hb
    go_wp2_with (refine wpList_store_row rfl 25 (.tmp 4) (.tmp 16) rfl (w.heap.size + 1 + 1) (widL (sg false m) m) rfl rfl 25 _ kR.out info_wide rfl (widF_ones _ (wd m)) ?_)
    exact gives_row rfl (w.heap.size + 1 + 1) 25 (widL (sg false m) m) _ rfl (kR.out.row _) under_wide rfl info_wide rfl ⟨by rw [HV.out], below_row kW (by omega) _⟩
  have HN0 := Lib.hid (Nat.pos_of_ne_zero hn0)
  rw [show (n == 0) = false by simpa using hn0]
  clear hn0
  go_wp2_with (first | (refine wpList_load_row rfl 48 (.tmp 5) rfl gx rfl 48 _ (0, 0) _ kX.out under_arr8 rfl info_arr8 ?_) | (refine wpList_load_row rfl 48 (.tmp 6) rfl gy rfl 48 _ (0, 0) _ kY.out under_arr8 rfl info_arr8 ?_) | (refine wpList_load_rowG rfl 48 (.tmp 6) rfl gy rfl 48 _ (0, 0) _ kY.out under_arr8 rfl info_arr8 ?_))
  refine (zero_any m _ HM.out).mono ?_
  rintro e v5 ⟨rfl, hb⟩
  have kX := Lib.hid (kX.out.below hb)
  have kY := Lib.hid (kY.out.below hb)
  have kR := Lib.hid (kR.out.below hb)
  have kW := kW.trans (hb.mono kW.size)
  clear hb
  by_cases hm0 : m = 0
  · subst hm0
    rw [show ((0 : Nat) == 0) = true from rfl]
    have HV := Lib.hid (show widL (sg false n) n = widL false (Nat.gcd n 0) by rw [sg_false, Nat.gcd_zero_right])
    go_wp2_with (first | (refine wpList_load_row rfl 48 (.tmp 5) rfl gx rfl 48 _ (0, 0) _ kX.out under_arr8 rfl info_arr8 ?_) | (refine wpList_load_row rfl 48 (.tmp 6) rfl gy rfl 48 _ (0, 0) _ kY.out under_arr8 rfl info_arr8 ?_) | (refine wpList_load_rowG rfl 48 (.tmp 6) rfl gy rfl 48 _ (0, 0) _ kY.out under_arr8 rfl info_arr8 ?_))
    refine (rjoin_any false n _ HN.out).mono ?_
    rintro e v6 ⟨rfl, hb⟩
    have kX := Lib.hid (kX.out.below hb)
    have kY := Lib.hid (kY.out.below hb)
    have kR := Lib.hid (kR.out.below hb)
    have kW := kW.trans (hb.mono kW.size)
    clear hb
    go_wp2_with (refine wpList_store_row rfl 25 (.tmp 4) (.tmp 20) rfl (w.heap.size + 1 + 1) (widL (sg false n) n) rfl rfl 25 _ kR.out info_wide rfl (widF_ones _ (wd n)) ?_)
    exact gives_row rfl (w.heap.size + 1 + 1) 25 (widL (sg false n) n) _ rfl (kR.out.row _) under_wide rfl info_wide rfl ⟨by rw [HV.out], below_row kW (by omega) _⟩
  have HM0 := Lib.hid (Nat.pos_of_ne_zero hm0)
  rw [show (m == 0) = false by simpa using hm0]
  clear hm0
  go_wp2_with fail
  go_loopg [7] n (fun k s7 wr => ∃ Y c : Nat, s7 = .int .i64 (c : Int) ∧ k * 2 ^ c = n ∧ Y * 2 ^ c = m ∧ Hid (Blk wr gx 48 (halL k)) ∧ Hid (Blk wr gy 48 (halL Y)) ∧ Hid (Blk wr (w.heap.size + 1 + 1) 25 wid0) ∧ Below w.heap.size w wr)
  case atStart => exact ⟨m, 0, rfl, by simp, by simp, kX.out, kY.out, kR.out, kW⟩
  case round =>
    clear kX kY kR kW
    obtain ⟨Y, c, rfl, hkn, hym, kX, kY, kR, kW⟩ := hrel
    have hk0 : 0 < gk := Nat.pos_of_ne_zero (fun h => by have := HN0.out; rw [← hkn, h] at this; omega)
    have hy0 : 0 < Y := Nat.pos_of_ne_zero (fun h => by have := HM0.out; rw [← hym, h] at this; omega)
    have hk : gk < M256 := Nat.lt_of_le_of_lt (le_of_pow hkn) HN.out
    have hy : Y < M256 := Nat.lt_of_le_of_lt (le_of_pow hym) HM.out
    have hc : c < 256 := c_bound hk0 hkn HN.out
    have HK := Lib.hid hk
    have HY := Lib.hid hy
    have HK0 := Lib.hid hk0
    have HY0 := Lib.hid hy0
    have HKN := Lib.hid hkn
    have HYM := Lib.hid hym
    clear hk hy hk0 hy0 hkn hym
    generalize gk = X at *
    go_wp2_with (first | (refine wpList_load_row rfl 48 (.tmp 5) rfl gx rfl 48 _ (0, 0) _ kX.out under_arr8 rfl info_arr8 ?_) | (refine wpList_load_row rfl 48 (.tmp 6) rfl gy rfl 48 _ (0, 0) _ kY.out under_arr8 rfl info_arr8 ?_) | (refine wpList_load_rowG rfl 48 (.tmp 6) rfl gy rfl 48 _ (0, 0) _ kY.out under_arr8 rfl info_arr8 ?_))
    refine (even_any X _).mono ?_
    rintro e v7 ⟨rfl, hb⟩
    have kX := Lib.hid (kX.out.below hb)
    have kY := Lib.hid (kY.out.below hb)
    have kR := Lib.hid (kR.out.below hb)
    have kW := kW.trans (hb.mono kW.size)
    clear hb
    by_cases hx : X % 2 = 0
    · rw [show evB X = true by unfold evB; simpa using hx]
      have HX2 := Lib.hid hx
      clear hx
      go_wp2_with (first | (refine wpList_load_row rfl 48 (.tmp 5) rfl gx rfl 48 _ (0, 0) _ kX.out under_arr8 rfl info_arr8 ?_) | (refine wpList_load_row rfl 48 (.tmp 6) rfl gy rfl 48 _ (0, 0) _ kY.out under_arr8 rfl info_arr8 ?_) | (refine wpList_load_rowG rfl 48 (.tmp 6) rfl gy rfl 48 _ (0, 0) _ kY.out under_arr8 rfl info_arr8 ?_))
      refine (even_any Y _).mono ?_
      rintro e v8 ⟨rfl, hb⟩
      have kX := Lib.hid (kX.out.below hb)
      have kY := Lib.hid (kY.out.below hb)
      have kR := Lib.hid (kR.out.below hb)
      have kW := kW.trans (hb.mono kW.size)
      clear hb
      by_cases hy : Y % 2 = 0
      · rw [show evB Y = true by unfold evB; simpa using hy]
        have HY2 := Lib.hid hy
        clear hy
        go_wp2_with (first | (refine wpList_load_row rfl 48 (.tmp 5) rfl gx rfl 48 _ (0, 0) _ kX.out under_arr8 rfl info_arr8 ?_) | (refine wpList_load_row rfl 48 (.tmp 6) rfl gy rfl 48 _ (0, 0) _ kY.out under_arr8 rfl info_arr8 ?_) | (refine wpList_load_rowG rfl 48 (.tmp 6) rfl gy rfl 48 _ (0, 0) _ kY.out under_arr8 rfl info_arr8 ?_))
        refine (rsmall_any X 2 _ HK.out (by decide) (by decide)).mono ?_
        rintro e v9 ⟨rfl, hb⟩
        have kX := Lib.hid (kX.out.below hb)
        have kY := Lib.hid (kY.out.below hb)
        have kR := Lib.hid (kR.out.below hb)
        have kW := kW.trans (hb.mono kW.size)
        clear hb
        generalize rsN X 2 0 = rs
        have kXs : Hid (Blk (v9.setRow gx (halL (X / 2))) gx 48 (halL (X / 2))) := kX.out.row _
        have kYs : Hid (Blk (v9.setRow gx (halL (X / 2))) gy 48 _) := kY.out.rowOther (k := gx) hyx _
        have kRs : Hid (Blk (v9.setRow gx (halL (X / 2))) (w.heap.size + 1 + 1) 25 wid0) := kR.out.rowOther (k := gx) hRx _
        have kWs := below_row kW (g := gx) hwx (halL (X / 2))
        go_wp2_with (first | (refine wpList_store_row rfl 48 (.tmp 5) (.tmp 30) rfl gx (halL (X / 2)) rfl rfl 48 _ kX.out info_arr8 rfl (rowF_ones 8 (hw (X / 2))) ?_) | (refine wpList_load_row rfl 48 (.tmp 5) rfl gx rfl 48 _ (0, 0) _ kX.out under_arr8 rfl info_arr8 ?_) | (refine wpList_load_row rfl 48 (.tmp 6) rfl gy rfl 48 _ (0, 0) _ kY.out under_arr8 rfl info_arr8 ?_) | (refine wpList_load_rowG rfl 48 (.tmp 6) rfl gy rfl 48 _ (0, 0) _ kY.out under_arr8 rfl info_arr8 ?_) | (refine wpList_load_row rfl 48 (.tmp 5) rfl gx rfl 48 _ (0, 0) _ kXs.out under_arr8 rfl info_arr8 ?_) | (refine wpList_load_row rfl 48 (.tmp 6) rfl gy rfl 48 _ (0, 0) _ kYs.out under_arr8 rfl info_arr8 ?_) | (refine wpList_load_rowG rfl 48 (.tmp 6) rfl gy rfl 48 _ (0, 0) _ kYs.out under_arr8 rfl info_arr8 ?_))
        clear kX kY kR kW
        have kX := kXs
        have kY := kYs
        have kR := kRs
        have kW := kWs
        clear kXs kYs kRs kWs
        generalize World.setRow _ _ _ = v10 at kX kY kR kW ⊢
        refine (rsmall_any Y 2 _ HY.out (by decide) (by decide)).mono ?_
        rintro e v11 ⟨rfl, hb⟩
        have kX := Lib.hid (kX.out.below hb)
        have kY := Lib.hid (kY.out.below hb)
        have kR := Lib.hid (kR.out.below hb)
        have kW := kW.trans (hb.mono kW.size)
        clear hb
        generalize rsN Y 2 0 = rs2
        have kYs : Hid (Blk (v11.setRow gy (halL (Y / 2))) gy 48 (halL (Y / 2))) := kY.out.row _
        have kXs : Hid (Blk (v11.setRow gy (halL (Y / 2))) gx 48 _) := kX.out.rowOther (k := gy) hxy _
        have kRs : Hid (Blk (v11.setRow gy (halL (Y / 2))) (w.heap.size + 1 + 1) 25 wid0) := kR.out.rowOther (k := gy) hRy _
        have kWs := below_row kW (g := gy) hwy (halL (Y / 2))
        go_wp2_with (first | (refine wpList_store_row rfl 48 (.tmp 6) (.tmp 35) rfl gy (halL (Y / 2)) rfl rfl 48 _ kY.out info_arr8 rfl (rowF_ones 8 (hw (Y / 2))) ?_) | (refine wpList_load_row rfl 48 (.tmp 5) rfl gx rfl 48 _ (0, 0) _ kX.out under_arr8 rfl info_arr8 ?_) | (refine wpList_load_row rfl 48 (.tmp 6) rfl gy rfl 48 _ (0, 0) _ kY.out under_arr8 rfl info_arr8 ?_) | (refine wpList_load_rowG rfl 48 (.tmp 6) rfl gy rfl 48 _ (0, 0) _ kY.out under_arr8 rfl info_arr8 ?_) | (refine wpList_load_row rfl 48 (.tmp 5) rfl gx rfl 48 _ (0, 0) _ kXs.out under_arr8 rfl info_arr8 ?_) | (refine wpList_load_row rfl 48 (.tmp 6) rfl gy rfl 48 _ (0, 0) _ kYs.out under_arr8 rfl info_arr8 ?_) | (refine wpList_load_rowG rfl 48 (.tmp 6) rfl gy rfl 48 _ (0, 0) _ kYs.out under_arr8 rfl info_arr8 ?_))
        clear kX kY kR kW
        have kX := kXs
        have kY := kYs
        have kR := kRs
        have kW := kWs
        clear kXs kYs kRs kWs
        generalize World.setRow _ _ _ = v12 at kX kY kR kW ⊢
        have h0 := HK0.out
        have h1 := HX2.out
        have h2 := HY2.out
        have h3 := HKN.out
        have h4 := HYM.out
        go_roundg (X / 2)
        case measure => omega
        case rel => exact ⟨Y / 2, c + 1, by go_num, half_pow h1 h3, half_pow h2 h4, kX.out, kY.out, kR.out, kW⟩
      rw [show evB Y = false by unfold evB; simpa using hy]
      have HO := Lib.hid (show ¬ (X % 2 = 0 ∧ Y % 2 = 0) from fun h => hy h.2)
      clear hy
      have HG := Lib.hid (gcd_odd X Y HO.out)
      have HGG := Lib.hid (show Nat.gcd X Y * 2 ^ c = Nat.gcd n m by rw [← HKN.out, ← HYM.out, Nat.gcd_mul_right])
      clear HKN HYM
      go_wp2_with fail
      go_loopg [] (X + Y) (fun k wr => ∃ U V : Nat, k = U + V ∧ U < M256 ∧ V < M256 ∧ 0 < V ∧ Nat.gcd U V = Nat.gcd X Y ∧ Hid (Blk wr gx 48 (halL U)) ∧ Hid (Blk wr gy 48 (halL V)) ∧ Hid (Blk wr (w.heap.size + 1 + 1) 25 wid0) ∧ Below w.heap.size w wr)
      case atStart => exact ⟨X, Y, rfl, HK.out, HY.out, HY0.out, rfl, kX.out, kY.out, kR.out, kW⟩
      case round =>
        clear kX kY kR kW
        obtain ⟨U, V, rfl, hU, hV, hV0, hUV, kX, kY, kR, kW⟩ := hrel
        have HU := Lib.hid hU
        have HV := Lib.hid hV
        have HV0 := Lib.hid hV0
        have HUV := Lib.hid hUV
        clear hU hV hV0 hUV
        go_wp2_with (first | (refine wpList_load_row rfl 48 (.tmp 5) rfl gx rfl 48 _ (0, 0) _ kX.out under_arr8 rfl info_arr8 ?_) | (refine wpList_load_row rfl 48 (.tmp 6) rfl gy rfl 48 _ (0, 0) _ kY.out under_arr8 rfl info_arr8 ?_) | (refine wpList_load_rowG rfl 48 (.tmp 6) rfl gy rfl 48 _ (0, 0) _ kY.out under_arr8 rfl info_arr8 ?_))
        refine (zero_any U _ HU.out).mono ?_
        rintro e v13 ⟨rfl, hb⟩
        have kX := Lib.hid (kX.out.below hb)
        have kY := Lib.hid (kY.out.below hb)
        have kR := Lib.hid (kR.out.below hb)
        have kW := kW.trans (hb.mono kW.size)
        clear hb
        by_cases hU0 : U = 0
        · subst hU0
          rw [show ((0 : Nat) == 0) = true from rfl]
          have HVV := Lib.hid (show V * 2 ^ c = Nat.gcd n m by rw [← HGG.out, ← HUV.out, Nat.gcd_zero_left])
          go_wp2_with fail
          go_loopg [8] c (fun k s8 wr => ∃ i : Nat, s8 = .int .i64 (i : Int) ∧ i + k = c ∧ Hid (Blk wr gx 48 (halL 0)) ∧ Hid (Blk wr gy 48 (halL (V * 2 ^ i))) ∧ Hid (Blk wr (w.heap.size + 1 + 1) 25 wid0) ∧ Below w.heap.size w wr)
          case atStart => exact ⟨0, rfl, by omega, kX.out, by rw [Nat.pow_zero, Nat.mul_one]; exact kY.out, kR.out, kW⟩
          case round =>
            clear kX kY kR kW
            obtain ⟨i, rfl, hic, kX, kY, kR, kW⟩ := hrel
            have hle : V * 2 ^ i ≤ Nat.gcd n m := pow_le_of V c i _ HVV.out (by omega)
            have hgl := gcd_lt n m HN.out HN0.out
            have hP : V * 2 ^ i < M256 := Nat.lt_of_le_of_lt hle hgl
            have HP := Lib.hid hP
            have HL := Lib.hid hgl
            clear hle hgl hP
            by_cases hlt : i < c
            · have h2 : V * 2 ^ (i + 1) ≤ Nat.gcd n m := pow_le_of V c (i + 1) _ HVV.out (by omega)
              have hAdd := Lib.hid (show addM (V * 2 ^ i) (V * 2 ^ i) = V * 2 ^ (i + 1) by
                have hl := HL.out
                have e2 : V * 2 ^ (i + 1) = V * 2 ^ i + V * 2 ^ i := by rw [Nat.pow_succ, ← Nat.mul_assoc]; omega
                unfold addM
                rw [← e2]
                exact Nat.mod_eq_of_lt (Nat.lt_of_le_of_lt h2 hl))
              clear h2
              obtain ⟨P, hP⟩ : ∃ P, P = V * 2 ^ i := ⟨_, rfl⟩
              rw [← hP] at kY HP hAdd
              clear hP
              go_wp2_with (first | (refine wpList_load_row rfl 48 (.tmp 5) rfl gx rfl 48 _ (0, 0) _ kX.out under_arr8 rfl info_arr8 ?_) | (refine wpList_load_row rfl 48 (.tmp 6) rfl gy rfl 48 _ (0, 0) _ kY.out under_arr8 rfl info_arr8 ?_) | (refine wpList_load_rowG rfl 48 (.tmp 6) rfl gy rfl 48 _ (0, 0) _ kY.out under_arr8 rfl info_arr8 ?_))
              refine (rplus_any P P _ HP.out HP.out).mono ?_
              rintro e v14 ⟨rfl, hb⟩
              have kX := Lib.hid (kX.out.below hb)
              have kY := Lib.hid (kY.out.below hb)
              have kR := Lib.hid (kR.out.below hb)
              have kW := kW.trans (hb.mono kW.size)
              clear hb
              rw [hAdd.out]
              generalize overB P P = ob
              have kYs : Hid (Blk (v14.setRow gy (halL (V * 2 ^ (i + 1)))) gy 48 (halL (V * 2 ^ (i + 1)))) := kY.out.row _
              have kXs : Hid (Blk (v14.setRow gy (halL (V * 2 ^ (i + 1)))) gx 48 _) := kX.out.rowOther (k := gy) hxy _
              have kRs : Hid (Blk (v14.setRow gy (halL (V * 2 ^ (i + 1)))) (w.heap.size + 1 + 1) 25 wid0) := kR.out.rowOther (k := gy) hRy _
              have kWs := below_row kW (g := gy) hwy (halL (V * 2 ^ (i + 1)))
              go_wp2_with (first | (refine wpList_store_row rfl 48 (.tmp 6) (.tmp 74) rfl gy (halL (V * 2 ^ (i + 1))) rfl rfl 48 _ kY.out info_arr8 rfl (rowF_ones 8 (hw (V * 2 ^ (i + 1)))) ?_) | (refine wpList_load_row rfl 48 (.tmp 5) rfl gx rfl 48 _ (0, 0) _ kX.out under_arr8 rfl info_arr8 ?_) | (refine wpList_load_row rfl 48 (.tmp 6) rfl gy rfl 48 _ (0, 0) _ kY.out under_arr8 rfl info_arr8 ?_) | (refine wpList_load_rowG rfl 48 (.tmp 6) rfl gy rfl 48 _ (0, 0) _ kY.out under_arr8 rfl info_arr8 ?_) | (refine wpList_load_row rfl 48 (.tmp 5) rfl gx rfl 48 _ (0, 0) _ kXs.out under_arr8 rfl info_arr8 ?_) | (refine wpList_load_row rfl 48 (.tmp 6) rfl gy rfl 48 _ (0, 0) _ kYs.out under_arr8 rfl info_arr8 ?_) | (refine wpList_load_rowG rfl 48 (.tmp 6) rfl gy rfl 48 _ (0, 0) _ kYs.out under_arr8 rfl info_arr8 ?_))
              clear kX kY kR kW
              have kX := kXs
              have kY := kYs
              have kR := kRs
              have kW := kWs
              clear kXs kYs kRs kWs
              generalize World.setRow _ _ _ = v15 at kX kY kR kW ⊢
              go_roundg (gk - 1)
              case measure => omega
              case rel => exact ⟨i + 1, by go_num, by omega, kX.out, kY.out, kR.out, kW⟩
            · have hic' : i = c := by omega
              subst hic'
              have HV := Lib.hid (show widL (sg false (V * 2 ^ i)) (V * 2 ^ i) = widL false (Nat.gcd n m) by rw [sg_false, HVV.out])
              obtain ⟨P, hP⟩ : ∃ P, P = V * 2 ^ i := ⟨_, rfl⟩
              rw [← hP] at kY HP HV
              clear hP
              go_wp2_with (first | (refine wpList_load_row rfl 48 (.tmp 5) rfl gx rfl 48 _ (0, 0) _ kX.out under_arr8 rfl info_arr8 ?_) | (refine wpList_load_row rfl 48 (.tmp 6) rfl gy rfl 48 _ (0, 0) _ kY.out under_arr8 rfl info_arr8 ?_) | (refine wpList_load_rowG rfl 48 (.tmp 6) rfl gy rfl 48 _ (0, 0) _ kY.out under_arr8 rfl info_arr8 ?_))
              refine (rjoin_any false P _ HP.out).mono ?_
              rintro e v16 ⟨rfl, hb⟩
              have kX := Lib.hid (kX.out.below hb)
              have kY := Lib.hid (kY.out.below hb)
              have kR := Lib.hid (kR.out.below hb)
              have kW := kW.trans (hb.mono kW.size)
              clear hb
              go_wp2_with (refine wpList_store_row rfl 25 (.tmp 4) (.tmp 77) rfl (w.heap.size + 1 + 1) (widL (sg false P) P) rfl rfl 25 _ kR.out info_wide rfl (widF_ones _ (wd P)) ?_)
              exact gives_row rfl (w.heap.size + 1 + 1) 25 (widL (sg false P) P) _ rfl (kR.out.row _) under_wide rfl info_wide rfl ⟨by rw [HV.out], below_row kW (by omega) _⟩
        have HU0 := Lib.hid (Nat.pos_of_ne_zero hU0)
        rw [show (U == 0) = false by simpa using hU0]
        clear hU0
        go_wp2_with fail
        go_loopg [] U (fun k wr => 0 < k ∧ k ≤ U ∧ Nat.gcd k V = Nat.gcd X Y ∧ Hid (Blk wr gx 48 (halL k)) ∧ Hid (Blk wr gy 48 (halL V)) ∧ Hid (Blk wr (w.heap.size + 1 + 1) 25 wid0) ∧ Below w.heap.size w wr)
        case atStart => exact ⟨HU0.out, Nat.le_refl _, HUV.out, kX.out, kY.out, kR.out, kW⟩
        case round =>
          clear kX kY kR kW
          obtain ⟨hk0, hkU, hkV, kX, kY, kR, kW⟩ := hrel
          have HK1 := Lib.hid (Nat.lt_of_le_of_lt hkU HU.out)
          have HK10 := Lib.hid hk0
          have HKU := Lib.hid hkU
          have HKV := Lib.hid hkV
          clear hk0 hkU hkV
          generalize gk = P at *
          go_wp2_with (first | (refine wpList_load_row rfl 48 (.tmp 5) rfl gx rfl 48 _ (0, 0) _ kX.out under_arr8 rfl info_arr8 ?_) | (refine wpList_load_row rfl 48 (.tmp 6) rfl gy rfl 48 _ (0, 0) _ kY.out under_arr8 rfl info_arr8 ?_) | (refine wpList_load_rowG rfl 48 (.tmp 6) rfl gy rfl 48 _ (0, 0) _ kY.out under_arr8 rfl info_arr8 ?_))
          refine (even_any P _).mono ?_
          rintro e v17 ⟨rfl, hb⟩
          have kX := Lib.hid (kX.out.below hb)
          have kY := Lib.hid (kY.out.below hb)
          have kR := Lib.hid (kR.out.below hb)
          have kW := kW.trans (hb.mono kW.size)
          clear hb
          by_cases hev : P % 2 = 0
          · rw [show evB P = true by unfold evB; simpa using hev]
            have HEV := Lib.hid hev
            clear hev
            go_wp2_with (first | (refine wpList_load_row rfl 48 (.tmp 5) rfl gx rfl 48 _ (0, 0) _ kX.out under_arr8 rfl info_arr8 ?_) | (refine wpList_load_row rfl 48 (.tmp 6) rfl gy rfl 48 _ (0, 0) _ kY.out under_arr8 rfl info_arr8 ?_) | (refine wpList_load_rowG rfl 48 (.tmp 6) rfl gy rfl 48 _ (0, 0) _ kY.out under_arr8 rfl info_arr8 ?_))
            refine (rsmall_any P 2 _ HK1.out (by decide) (by decide)).mono ?_
            rintro e v18 ⟨rfl, hb⟩
            have kX := Lib.hid (kX.out.below hb)
            have kY := Lib.hid (kY.out.below hb)
            have kR := Lib.hid (kR.out.below hb)
            have kW := kW.trans (hb.mono kW.size)
            clear hb
            generalize rsN P 2 0 = rs
            have kXs : Hid (Blk (v18.setRow gx (halL (P / 2))) gx 48 (halL (P / 2))) := kX.out.row _
            have kYs : Hid (Blk (v18.setRow gx (halL (P / 2))) gy 48 _) := kY.out.rowOther (k := gx) hyx _
            have kRs : Hid (Blk (v18.setRow gx (halL (P / 2))) (w.heap.size + 1 + 1) 25 wid0) := kR.out.rowOther (k := gx) hRx _
            have kWs := below_row kW (g := gx) hwx (halL (P / 2))
            go_wp2_with (first | (refine wpList_store_row rfl 48 (.tmp 5) (.tmp 47) rfl gx (halL (P / 2)) rfl rfl 48 _ kX.out info_arr8 rfl (rowF_ones 8 (hw (P / 2))) ?_) | (refine wpList_load_row rfl 48 (.tmp 5) rfl gx rfl 48 _ (0, 0) _ kX.out under_arr8 rfl info_arr8 ?_) | (refine wpList_load_row rfl 48 (.tmp 6) rfl gy rfl 48 _ (0, 0) _ kY.out under_arr8 rfl info_arr8 ?_) | (refine wpList_load_rowG rfl 48 (.tmp 6) rfl gy rfl 48 _ (0, 0) _ kY.out under_arr8 rfl info_arr8 ?_) | (refine wpList_load_row rfl 48 (.tmp 5) rfl gx rfl 48 _ (0, 0) _ kXs.out under_arr8 rfl info_arr8 ?_) | (refine wpList_load_row rfl 48 (.tmp 6) rfl gy rfl 48 _ (0, 0) _ kYs.out under_arr8 rfl info_arr8 ?_) | (refine wpList_load_rowG rfl 48 (.tmp 6) rfl gy rfl 48 _ (0, 0) _ kYs.out under_arr8 rfl info_arr8 ?_))
            clear kX kY kR kW
            have kX := kXs
            have kY := kYs
            have kR := kRs
            have kW := kWs
            clear kXs kYs kRs kWs
            generalize World.setRow _ _ _ = v19 at kX kY kR kW ⊢
            have h0 := HK10.out
            have h1 := HEV.out
            have h2 := HKU.out
            go_roundg (P / 2)
            case measure => omega
            case rel => exact ⟨by omega, by omega, by rw [gcd_half P V h1 (by rw [HKV.out]; exact HG.out)]; exact HKV.out, kX.out, kY.out, kR.out, kW⟩
          rw [show evB P = false by unfold evB; simpa using hev]
          have HODD := Lib.hid (show P % 2 = 1 by omega)
          clear hev
          go_wp2_with fail
          go_loopg [] V (fun k wr => 0 < k ∧ k ≤ V ∧ Nat.gcd P k = Nat.gcd X Y ∧ Hid (Blk wr gx 48 (halL P)) ∧ Hid (Blk wr gy 48 (halL k)) ∧ Hid (Blk wr (w.heap.size + 1 + 1) 25 wid0) ∧ Below w.heap.size w wr)
          case atStart => exact ⟨HV0.out, Nat.le_refl _, HKV.out, kX.out, kY.out, kR.out, kW⟩
          case round =>
            clear kX kY kR kW
            obtain ⟨hk0, hkU, hkV, kX, kY, kR, kW⟩ := hrel
            have HQ := Lib.hid (Nat.lt_of_le_of_lt hkU HV.out)
            have HQ0 := Lib.hid hk0
            have HQV := Lib.hid hkU
            have HPQ := Lib.hid hkV
            clear hk0 hkU hkV
            generalize gk = Q at *
            go_wp2_with (first | (refine wpList_load_row rfl 48 (.tmp 5) rfl gx rfl 48 _ (0, 0) _ kX.out under_arr8 rfl info_arr8 ?_) | (refine wpList_load_row rfl 48 (.tmp 6) rfl gy rfl 48 _ (0, 0) _ kY.out under_arr8 rfl info_arr8 ?_) | (refine wpList_load_rowG rfl 48 (.tmp 6) rfl gy rfl 48 _ (0, 0) _ kY.out under_arr8 rfl info_arr8 ?_))
            refine (even_any Q _).mono ?_
            rintro e v20 ⟨rfl, hb⟩
            have kX := Lib.hid (kX.out.below hb)
            have kY := Lib.hid (kY.out.below hb)
            have kR := Lib.hid (kR.out.below hb)
            have kW := kW.trans (hb.mono kW.size)
            clear hb
            by_cases hev : Q % 2 = 0
            · rw [show evB Q = true by unfold evB; simpa using hev]
              have HEV := Lib.hid hev
              clear hev
              go_wp2_with (first | (refine wpList_load_row rfl 48 (.tmp 5) rfl gx rfl 48 _ (0, 0) _ kX.out under_arr8 rfl info_arr8 ?_) | (refine wpList_load_row rfl 48 (.tmp 6) rfl gy rfl 48 _ (0, 0) _ kY.out under_arr8 rfl info_arr8 ?_) | (refine wpList_load_rowG rfl 48 (.tmp 6) rfl gy rfl 48 _ (0, 0) _ kY.out under_arr8 rfl info_arr8 ?_))
              refine (rsmall_any Q 2 _ HQ.out (by decide) (by decide)).mono ?_
              rintro e v21 ⟨rfl, hb⟩
              have kX := Lib.hid (kX.out.below hb)
              have kY := Lib.hid (kY.out.below hb)
              have kR := Lib.hid (kR.out.below hb)
              have kW := kW.trans (hb.mono kW.size)
              clear hb
              generalize rsN Q 2 0 = rs
              have kYs : Hid (Blk (v21.setRow gy (halL (Q / 2))) gy 48 (halL (Q / 2))) := kY.out.row _
              have kXs : Hid (Blk (v21.setRow gy (halL (Q / 2))) gx 48 _) := kX.out.rowOther (k := gy) hxy _
              have kRs : Hid (Blk (v21.setRow gy (halL (Q / 2))) (w.heap.size + 1 + 1) 25 wid0) := kR.out.rowOther (k := gy) hRy _
              have kWs := below_row kW (g := gy) hwy (halL (Q / 2))
              go_wp2_with (first | (refine wpList_store_row rfl 48 (.tmp 6) (.tmp 54) rfl gy (halL (Q / 2)) rfl rfl 48 _ kY.out info_arr8 rfl (rowF_ones 8 (hw (Q / 2))) ?_) | (refine wpList_load_row rfl 48 (.tmp 5) rfl gx rfl 48 _ (0, 0) _ kX.out under_arr8 rfl info_arr8 ?_) | (refine wpList_load_row rfl 48 (.tmp 6) rfl gy rfl 48 _ (0, 0) _ kY.out under_arr8 rfl info_arr8 ?_) | (refine wpList_load_rowG rfl 48 (.tmp 6) rfl gy rfl 48 _ (0, 0) _ kY.out under_arr8 rfl info_arr8 ?_) | (refine wpList_load_row rfl 48 (.tmp 5) rfl gx rfl 48 _ (0, 0) _ kXs.out under_arr8 rfl info_arr8 ?_) | (refine wpList_load_row rfl 48 (.tmp 6) rfl gy rfl 48 _ (0, 0) _ kYs.out under_arr8 rfl info_arr8 ?_) | (refine wpList_load_rowG rfl 48 (.tmp 6) rfl gy rfl 48 _ (0, 0) _ kYs.out under_arr8 rfl info_arr8 ?_))
              clear kX kY kR kW
              have kX := kXs
              have kY := kYs
              have kR := kRs
              have kW := kWs
              clear kXs kYs kRs kWs
              generalize World.setRow _ _ _ = v22 at kX kY kR kW ⊢
              have h0 := HQ0.out
              have h1 := HEV.out
              have h2 := HQV.out
              go_roundg (Q / 2)
              case measure => omega
              case rel => exact ⟨by omega, by omega, by rw [gcd_half_right P Q h1 (by rw [HPQ.out]; exact HG.out)]; exact HPQ.out, kX.out, kY.out, kR.out, kW⟩
            rw [show evB Q = false by unfold evB; simpa using hev]
            clear hev
            by_cases hle : Q ≤ P
            · have HLE := Lib.hid hle
              clear hle
              go_wp2_with (first | (refine wpList_load_row rfl 48 (.tmp 5) rfl gx rfl 48 _ (0, 0) _ kX.out under_arr8 rfl info_arr8 ?_) | (refine wpList_load_row rfl 48 (.tmp 6) rfl gy rfl 48 _ (0, 0) _ kY.out under_arr8 rfl info_arr8 ?_) | (refine wpList_load_rowG rfl 48 (.tmp 6) rfl gy rfl 48 _ (0, 0) _ kY.out under_arr8 rfl info_arr8 ?_))
              refine (rcompare_ge P Q _ HK1.out HQ.out HLE.out).mono ?_
              rintro e v23 ⟨cc, hcc, rfl, hb⟩
              have kX := Lib.hid (kX.out.below hb)
              have kY := Lib.hid (kY.out.below hb)
              have kR := Lib.hid (kR.out.below hb)
              have kW := kW.trans (hb.mono kW.size)
              clear hb
              have hc0 : decide (cc < 0) = false := decide_eq_false (by simpa using hcc)
              clear hcc
              go_wp2_with (first | (refine wpList_load_row rfl 48 (.tmp 5) rfl gx rfl 48 _ (0, 0) _ kX.out under_arr8 rfl info_arr8 ?_) | (refine wpList_load_row rfl 48 (.tmp 6) rfl gy rfl 48 _ (0, 0) _ kY.out under_arr8 rfl info_arr8 ?_) | (refine wpList_load_rowG rfl 48 (.tmp 6) rfl gy rfl 48 _ (0, 0) _ kY.out under_arr8 rfl info_arr8 ?_))
              refine (rminus_any P Q _ HQ.out).mono ?_
              rintro e v24 ⟨rfl, hb⟩
              have kX := Lib.hid (kX.out.below hb)
              have kY := Lib.hid (kY.out.below hb)
              have kR := Lib.hid (kR.out.below hb)
              have kW := kW.trans (hb.mono kW.size)
              clear hb
              rw [show subN P Q = P - Q from subN_of_le HLE.out HK1.out]
              have kXs : Hid (Blk (v24.setRow gx (halL (P - Q))) gx 48 (halL (P - Q))) := kX.out.row _
              have kYs : Hid (Blk (v24.setRow gx (halL (P - Q))) gy 48 _) := kY.out.rowOther (k := gx) hyx _
              have kRs : Hid (Blk (v24.setRow gx (halL (P - Q))) (w.heap.size + 1 + 1) 25 wid0) := kR.out.rowOther (k := gx) hRx _
              have kWs := below_row kW (g := gx) hwx (halL (P - Q))
              go_wp2_with (first | (refine wpList_store_row rfl 48 (.tmp 5) (.tmp 64) rfl gx (halL (P - Q)) rfl rfl 48 _ kX.out info_arr8 rfl (rowF_ones 8 (hw (P - Q))) ?_) | (refine wpList_load_row rfl 48 (.tmp 5) rfl gx rfl 48 _ (0, 0) _ kX.out under_arr8 rfl info_arr8 ?_) | (refine wpList_load_row rfl 48 (.tmp 6) rfl gy rfl 48 _ (0, 0) _ kY.out under_arr8 rfl info_arr8 ?_) | (refine wpList_load_rowG rfl 48 (.tmp 6) rfl gy rfl 48 _ (0, 0) _ kY.out under_arr8 rfl info_arr8 ?_) | (refine wpList_load_row rfl 48 (.tmp 5) rfl gx rfl 48 _ (0, 0) _ kXs.out under_arr8 rfl info_arr8 ?_) | (refine wpList_load_row rfl 48 (.tmp 6) rfl gy rfl 48 _ (0, 0) _ kYs.out under_arr8 rfl info_arr8 ?_) | (refine wpList_load_rowG rfl 48 (.tmp 6) rfl gy rfl 48 _ (0, 0) _ kYs.out under_arr8 rfl info_arr8 ?_))
              clear kX kY kR kW
              have kX := kXs
              have kY := kYs
              have kR := kRs
              have kW := kWs
              clear kXs kYs kRs kWs
              generalize World.setRow _ _ _ = v25 at kX kY kR kW ⊢
              have hle := HLE.out
              have p0 := HK10.out
              have p1 := HKU.out
              have q0 := HQ0.out
              have q1 := HQV.out
              have p2 := HK1.out
              have q2 := HQ.out
              go_roundg (P - Q + Q)
              case measure => omega
              case rel => exact ⟨P - Q, Q, rfl, by omega, by omega, by omega, by rw [gcd_minus _ _ HLE.out]; exact HPQ.out, kX.out, kY.out, kR.out, kW⟩
            have HLT := Lib.hid (show P < Q by omega)
            have HLE := Lib.hid (show P ≤ Q by omega)
            clear hle
            go_wp2_with (first | (refine wpList_load_row rfl 48 (.tmp 5) rfl gx rfl 48 _ (0, 0) _ kX.out under_arr8 rfl info_arr8 ?_) | (refine wpList_load_row rfl 48 (.tmp 6) rfl gy rfl 48 _ (0, 0) _ kY.out under_arr8 rfl info_arr8 ?_) | (refine wpList_load_rowG rfl 48 (.tmp 6) rfl gy rfl 48 _ (0, 0) _ kY.out under_arr8 rfl info_arr8 ?_))
            refine (rcompare_lt P Q _ HK1.out HQ.out HLT.out).mono ?_
            rintro e v26 ⟨cc, hcc, rfl, hb⟩
            have kX := Lib.hid (kX.out.below hb)
            have kY := Lib.hid (kY.out.below hb)
            have kR := Lib.hid (kR.out.below hb)
            have kW := kW.trans (hb.mono kW.size)
            clear hb
            have hc0 : decide (cc < 0) = true := decide_eq_true hcc
            clear hcc
            have kXs : Hid (Blk (v26.setRow gx (halL Q)) gx 48 (halL Q)) := kX.out.row _
            have kYs : Hid (Blk (v26.setRow gx (halL Q)) gy 48 _) := kY.out.rowOther (k := gx) hyx _
            have kRs : Hid (Blk (v26.setRow gx (halL Q)) (w.heap.size + 1 + 1) 25 wid0) := kR.out.rowOther (k := gx) hRx _
            have kWs := below_row kW (g := gx) hwx (halL Q)
            have kX2 : Hid (Blk ((v26.setRow gx (halL Q)).setRow gy (halL P)) gx 48 (halL Q)) := kXs.out.rowOther (k := gy) hxy _
            have kY2 : Hid (Blk ((v26.setRow gx (halL Q)).setRow gy (halL P)) gy 48 (halL P)) := kYs.out.row _
            have kR2 : Hid (Blk ((v26.setRow gx (halL Q)).setRow gy (halL P)) (w.heap.size + 1 + 1) 25 wid0) := kRs.out.rowOther (k := gy) hRy _
            have kW2 := below_row kWs (g := gy) hwy (halL P)
            go_wp2_with (first | (refine wpList_load_row rfl 48 (.tmp 5) rfl gx rfl 48 _ (0, 0) _ kX.out under_arr8 rfl info_arr8 ?_) | (refine wpList_load_row rfl 48 (.tmp 6) rfl gy rfl 48 _ (0, 0) _ kY.out under_arr8 rfl info_arr8 ?_) | (refine wpList_load_rowG rfl 48 (.tmp 6) rfl gy rfl 48 _ (0, 0) _ kY.out under_arr8 rfl info_arr8 ?_) | (refine wpList_store_row rfl 48 (.tmp 5) (.tmp 60) rfl gx (halL Q) rfl rfl 48 _ kX.out info_arr8 rfl (rowF_ones 8 (hw Q)) ?_) | (refine wpList_store_row rfl 48 (.tmp 6) (.tmp 61) rfl gy (halL P) rfl rfl 48 _ kYs.out info_arr8 rfl (rowF_ones 8 (hw P)) ?_) | (refine wpList_load_row rfl 48 (.tmp 5) rfl gx rfl 48 _ (0, 0) _ kX2.out under_arr8 rfl info_arr8 ?_) | (refine wpList_load_row rfl 48 (.tmp 6) rfl gy rfl 48 _ (0, 0) _ kY2.out under_arr8 rfl info_arr8 ?_) | (refine wpList_load_rowG rfl 48 (.tmp 6) rfl gy rfl 48 _ (0, 0) _ kY2.out under_arr8 rfl info_arr8 ?_))
            clear kXs kYs kRs kWs
            have kXs := kX2
            have kYs := kY2
            have kRs := kR2
            have kWs := kW2
            clear kX2 kY2 kR2 kW2
            clear kX kY kR kW
            have kX := kXs
            have kY := kYs
            have kR := kRs
            have kW := kWs
            clear kXs kYs kRs kWs
            generalize World.setRow _ _ _ = v27 at kX kY kR kW ⊢
            refine (rminus_any Q P _ HK1.out).mono ?_
            rintro e v28 ⟨rfl, hb⟩
            have kX := Lib.hid (kX.out.below hb)
            have kY := Lib.hid (kY.out.below hb)
            have kR := Lib.hid (kR.out.below hb)
            have kW := kW.trans (hb.mono kW.size)
            clear hb
            rw [show subN Q P = Q - P from subN_of_le HLE.out HQ.out]
            have kXs : Hid (Blk (v28.setRow gx (halL (Q - P))) gx 48 (halL (Q - P))) := kX.out.row _
            have kYs : Hid (Blk (v28.setRow gx (halL (Q - P))) gy 48 _) := kY.out.rowOther (k := gx) hyx _
            have kRs : Hid (Blk (v28.setRow gx (halL (Q - P))) (w.heap.size + 1 + 1) 25 wid0) := kR.out.rowOther (k := gx) hRx _
            have kWs := below_row kW (g := gx) hwx (halL (Q - P))
            go_wp2_with (first | (refine wpList_store_row rfl 48 (.tmp 5) (.tmp 64) rfl gx (halL (Q - P)) rfl rfl 48 _ kX.out info_arr8 rfl (rowF_ones 8 (hw (Q - P))) ?_) | (refine wpList_load_row rfl 48 (.tmp 5) rfl gx rfl 48 _ (0, 0) _ kX.out under_arr8 rfl info_arr8 ?_) | (refine wpList_load_row rfl 48 (.tmp 6) rfl gy rfl 48 _ (0, 0) _ kY.out under_arr8 rfl info_arr8 ?_) | (refine wpList_load_rowG rfl 48 (.tmp 6) rfl gy rfl 48 _ (0, 0) _ kY.out under_arr8 rfl info_arr8 ?_) | (refine wpList_load_row rfl 48 (.tmp 5) rfl gx rfl 48 _ (0, 0) _ kXs.out under_arr8 rfl info_arr8 ?_) | (refine wpList_load_row rfl 48 (.tmp 6) rfl gy rfl 48 _ (0, 0) _ kYs.out under_arr8 rfl info_arr8 ?_) | (refine wpList_load_rowG rfl 48 (.tmp 6) rfl gy rfl 48 _ (0, 0) _ kYs.out under_arr8 rfl info_arr8 ?_))
            clear kX kY kR kW
            have kX := kXs
            have kY := kYs
            have kR := kRs
            have kW := kWs
            clear kXs kYs kRs kWs
            generalize World.setRow _ _ _ = v29 at kX kY kR kW ⊢
            have hle := HLE.out
            have p0 := HK10.out
            have p1 := HKU.out
            have q0 := HQ0.out
            have q1 := HQV.out
            have p2 := HK1.out
            have q2 := HQ.out
            go_roundg (Q - P + P)
            case measure => omega
            case rel => exact ⟨Q - P, P, rfl, by omega, by omega, by omega, by rw [gcd_minus _ _ HLE.out]; exact (Nat.gcd_comm _ _).trans HPQ.out, kX.out, kY.out, kR.out, kW⟩
    rw [show evB X = false by unfold evB; simpa using hx]
    have HO := Lib.hid (show ¬ (X % 2 = 0 ∧ Y % 2 = 0) from fun h => hx h.1)
    clear hx
    have HG := Lib.hid (gcd_odd X Y HO.out)
    have HGG := Lib.hid (show Nat.gcd X Y * 2 ^ c = Nat.gcd n m by rw [← HKN.out, ← HYM.out, Nat.gcd_mul_right])
    clear HKN HYM
    go_wp2_with fail
    go_loopg [] (X + Y) (fun k wr => ∃ U V : Nat, k = U + V ∧ U < M256 ∧ V < M256 ∧ 0 < V ∧ Nat.gcd U V = Nat.gcd X Y ∧ Hid (Blk wr gx 48 (halL U)) ∧ Hid (Blk wr gy 48 (halL V)) ∧ Hid (Blk wr (w.heap.size + 1 + 1) 25 wid0) ∧ Below w.heap.size w wr)
    case atStart => exact ⟨X, Y, rfl, HK.out, HY.out, HY0.out, rfl, kX.out, kY.out, kR.out, kW⟩
    case round =>
      clear kX kY kR kW
      obtain ⟨U, V, rfl, hU, hV, hV0, hUV, kX, kY, kR, kW⟩ := hrel
      have HU := Lib.hid hU
      have HV := Lib.hid hV
      have HV0 := Lib.hid hV0
      have HUV := Lib.hid hUV
      clear hU hV hV0 hUV
      go_wp2_with (first | (refine wpList_load_row rfl 48 (.tmp 5) rfl gx rfl 48 _ (0, 0) _ kX.out under_arr8 rfl info_arr8 ?_) | (refine wpList_load_row rfl 48 (.tmp 6) rfl gy rfl 48 _ (0, 0) _ kY.out under_arr8 rfl info_arr8 ?_) | (refine wpList_load_rowG rfl 48 (.tmp 6) rfl gy rfl 48 _ (0, 0) _ kY.out under_arr8 rfl info_arr8 ?_))
      refine (zero_any U _ HU.out).mono ?_
      rintro e v30 ⟨rfl, hb⟩
      have kX := Lib.hid (kX.out.below hb)
      have kY := Lib.hid (kY.out.below hb)
      have kR := Lib.hid (kR.out.below hb)
      have kW := kW.trans (hb.mono kW.size)
      clear hb
      by_cases hU0 : U = 0
      · subst hU0
        rw [show ((0 : Nat) == 0) = true from rfl]
        have HVV := Lib.hid (show V * 2 ^ c = Nat.gcd n m by rw [← HGG.out, ← HUV.out, Nat.gcd_zero_left])
        go_wp2_with fail
        go_loopg [8] c (fun k s8 wr => ∃ i : Nat, s8 = .int .i64 (i : Int) ∧ i + k = c ∧ Hid (Blk wr gx 48 (halL 0)) ∧ Hid (Blk wr gy 48 (halL (V * 2 ^ i))) ∧ Hid (Blk wr (w.heap.size + 1 + 1) 25 wid0) ∧ Below w.heap.size w wr)
        case atStart => exact ⟨0, rfl, by omega, kX.out, by rw [Nat.pow_zero, Nat.mul_one]; exact kY.out, kR.out, kW⟩
        case round =>
          clear kX kY kR kW
          obtain ⟨i, rfl, hic, kX, kY, kR, kW⟩ := hrel
          have hle : V * 2 ^ i ≤ Nat.gcd n m := pow_le_of V c i _ HVV.out (by omega)
          have hgl := gcd_lt n m HN.out HN0.out
          have hP : V * 2 ^ i < M256 := Nat.lt_of_le_of_lt hle hgl
          have HP := Lib.hid hP
          have HL := Lib.hid hgl
          clear hle hgl hP
          by_cases hlt : i < c
          · have h2 : V * 2 ^ (i + 1) ≤ Nat.gcd n m := pow_le_of V c (i + 1) _ HVV.out (by omega)
            have hAdd := Lib.hid (show addM (V * 2 ^ i) (V * 2 ^ i) = V * 2 ^ (i + 1) by
              have hl := HL.out
              have e2 : V * 2 ^ (i + 1) = V * 2 ^ i + V * 2 ^ i := by rw [Nat.pow_succ, ← Nat.mul_assoc]; omega
              unfold addM
              rw [← e2]
              exact Nat.mod_eq_of_lt (Nat.lt_of_le_of_lt h2 hl))
            clear h2
            obtain ⟨P, hP⟩ : ∃ P, P = V * 2 ^ i := ⟨_, rfl⟩
            rw [← hP] at kY HP hAdd
            clear hP
            go_wp2_with (first | (refine wpList_load_row rfl 48 (.tmp 5) rfl gx rfl 48 _ (0, 0) _ kX.out under_arr8 rfl info_arr8 ?_) | (refine wpList_load_row rfl 48 (.tmp 6) rfl gy rfl 48 _ (0, 0) _ kY.out under_arr8 rfl info_arr8 ?_) | (refine wpList_load_rowG rfl 48 (.tmp 6) rfl gy rfl 48 _ (0, 0) _ kY.out under_arr8 rfl info_arr8 ?_))
            refine (rplus_any P P _ HP.out HP.out).mono ?_
            rintro e v31 ⟨rfl, hb⟩
            have kX := Lib.hid (kX.out.below hb)
            have kY := Lib.hid (kY.out.below hb)
            have kR := Lib.hid (kR.out.below hb)
            have kW := kW.trans (hb.mono kW.size)
            clear hb
            rw [hAdd.out]
            generalize overB P P = ob
            have kYs : Hid (Blk (v31.setRow gy (halL (V * 2 ^ (i + 1)))) gy 48 (halL (V * 2 ^ (i + 1)))) := kY.out.row _
            have kXs : Hid (Blk (v31.setRow gy (halL (V * 2 ^ (i + 1)))) gx 48 _) := kX.out.rowOther (k := gy) hxy _
            have kRs : Hid (Blk (v31.setRow gy (halL (V * 2 ^ (i + 1)))) (w.heap.size + 1 + 1) 25 wid0) := kR.out.rowOther (k := gy) hRy _
            have kWs := below_row kW (g := gy) hwy (halL (V * 2 ^ (i + 1)))
            go_wp2_with (first | (refine wpList_store_row rfl 48 (.tmp 6) (.tmp 74) rfl gy (halL (V * 2 ^ (i + 1))) rfl rfl 48 _ kY.out info_arr8 rfl (rowF_ones 8 (hw (V * 2 ^ (i + 1)))) ?_) | (refine wpList_load_row rfl 48 (.tmp 5) rfl gx rfl 48 _ (0, 0) _ kX.out under_arr8 rfl info_arr8 ?_) | (refine wpList_load_row rfl 48 (.tmp 6) rfl gy rfl 48 _ (0, 0) _ kY.out under_arr8 rfl info_arr8 ?_) | (refine wpList_load_rowG rfl 48 (.tmp 6) rfl gy rfl 48 _ (0, 0) _ kY.out under_arr8 rfl info_arr8 ?_) | (refine wpList_load_row rfl 48 (.tmp 5) rfl gx rfl 48 _ (0, 0) _ kXs.out under_arr8 rfl info_arr8 ?_) | (refine wpList_load_row rfl 48 (.tmp 6) rfl gy rfl 48 _ (0, 0) _ kYs.out under_arr8 rfl info_arr8 ?_) | (refine wpList_load_rowG rfl 48 (.tmp 6) rfl gy rfl 48 _ (0, 0) _ kYs.out under_arr8 rfl info_arr8 ?_))
            clear kX kY kR kW
            have kX := kXs
            have kY := kYs
            have kR := kRs
            have kW := kWs
            clear kXs kYs kRs kWs
            generalize World.setRow _ _ _ = v32 at kX kY kR kW ⊢
            go_roundg (gk - 1)
            case measure => omega
            case rel => exact ⟨i + 1, by go_num, by omega, kX.out, kY.out, kR.out, kW⟩
          · have hic' : i = c := by omega
            subst hic'
            have HV := Lib.hid (show widL (sg false (V * 2 ^ i)) (V * 2 ^ i) = widL false (Nat.gcd n m) by rw [sg_false, HVV.out])
            obtain ⟨P, hP⟩ : ∃ P, P = V * 2 ^ i := ⟨_, rfl⟩
            rw [← hP] at kY HP HV
            clear hP
            go_wp2_with (first | (refine wpList_load_row rfl 48 (.tmp 5) rfl gx rfl 48 _ (0, 0) _ kX.out under_arr8 rfl info_arr8 ?_) | (refine wpList_load_row rfl 48 (.tmp 6) rfl gy rfl 48 _ (0, 0) _ kY.out under_arr8 rfl info_arr8 ?_) | (refine wpList_load_rowG rfl 48 (.tmp 6) rfl gy rfl 48 _ (0, 0) _ kY.out under_arr8 rfl info_arr8 ?_))
            refine (rjoin_any false P _ HP.out).mono ?_
            rintro e v33 ⟨rfl, hb⟩
            have kX := Lib.hid (kX.out.below hb)
            have kY := Lib.hid (kY.out.below hb)
            have kR := Lib.hid (kR.out.below hb)
            have kW := kW.trans (hb.mono kW.size)
            clear hb
            go_wp2_with (refine wpList_store_row rfl 25 (.tmp 4) (.tmp 77) rfl (w.heap.size + 1 + 1) (widL (sg false P) P) rfl rfl 25 _ kR.out info_wide rfl (widF_ones _ (wd P)) ?_)
            exact gives_row rfl (w.heap.size + 1 + 1) 25 (widL (sg false P) P) _ rfl (kR.out.row _) under_wide rfl info_wide rfl ⟨by rw [HV.out], below_row kW (by omega) _⟩
      have HU0 := Lib.hid (Nat.pos_of_ne_zero hU0)
      rw [show (U == 0) = false by simpa using hU0]
      clear hU0
      go_wp2_with fail
      go_loopg [] U (fun k wr => 0 < k ∧ k ≤ U ∧ Nat.gcd k V = Nat.gcd X Y ∧ Hid (Blk wr gx 48 (halL k)) ∧ Hid (Blk wr gy 48 (halL V)) ∧ Hid (Blk wr (w.heap.size + 1 + 1) 25 wid0) ∧ Below w.heap.size w wr)
      case atStart => exact ⟨HU0.out, Nat.le_refl _, HUV.out, kX.out, kY.out, kR.out, kW⟩
      case round =>
        clear kX kY kR kW
        obtain ⟨hk0, hkU, hkV, kX, kY, kR, kW⟩ := hrel
        have HK1 := Lib.hid (Nat.lt_of_le_of_lt hkU HU.out)
        have HK10 := Lib.hid hk0
        have HKU := Lib.hid hkU
        have HKV := Lib.hid hkV
        clear hk0 hkU hkV
        generalize gk = P at *
        go_wp2_with (first | (refine wpList_load_row rfl 48 (.tmp 5) rfl gx rfl 48 _ (0, 0) _ kX.out under_arr8 rfl info_arr8 ?_) | (refine wpList_load_row rfl 48 (.tmp 6) rfl gy rfl 48 _ (0, 0) _ kY.out under_arr8 rfl info_arr8 ?_) | (refine wpList_load_rowG rfl 48 (.tmp 6) rfl gy rfl 48 _ (0, 0) _ kY.out under_arr8 rfl info_arr8 ?_))
        refine (even_any P _).mono ?_
        rintro e v34 ⟨rfl, hb⟩
        have kX := Lib.hid (kX.out.below hb)
        have kY := Lib.hid (kY.out.below hb)
        have kR := Lib.hid (kR.out.below hb)
        have kW := kW.trans (hb.mono kW.size)
        clear hb
        by_cases hev : P % 2 = 0
        · rw [show evB P = true by unfold evB; simpa using hev]
          have HEV := Lib.hid hev
          clear hev
          go_wp2_with (first | (refine wpList_load_row rfl 48 (.tmp 5) rfl gx rfl 48 _ (0, 0) _ kX.out under_arr8 rfl info_arr8 ?_) | (refine wpList_load_row rfl 48 (.tmp 6) rfl gy rfl 48 _ (0, 0) _ kY.out under_arr8 rfl info_arr8 ?_) | (refine wpList_load_rowG rfl 48 (.tmp 6) rfl gy rfl 48 _ (0, 0) _ kY.out under_arr8 rfl info_arr8 ?_))
          refine (rsmall_any P 2 _ HK1.out (by decide) (by decide)).mono ?_
          rintro e v35 ⟨rfl, hb⟩
          have kX := Lib.hid (kX.out.below hb)
          have kY := Lib.hid (kY.out.below hb)
          have kR := Lib.hid (kR.out.below hb)
          have kW := kW.trans (hb.mono kW.size)
          clear hb
          generalize rsN P 2 0 = rs
          have kXs : Hid (Blk (v35.setRow gx (halL (P / 2))) gx 48 (halL (P / 2))) := kX.out.row _
          have kYs : Hid (Blk (v35.setRow gx (halL (P / 2))) gy 48 _) := kY.out.rowOther (k := gx) hyx _
          have kRs : Hid (Blk (v35.setRow gx (halL (P / 2))) (w.heap.size + 1 + 1) 25 wid0) := kR.out.rowOther (k := gx) hRx _
          have kWs := below_row kW (g := gx) hwx (halL (P / 2))
          go_wp2_with (first | (refine wpList_store_row rfl 48 (.tmp 5) (.tmp 47) rfl gx (halL (P / 2)) rfl rfl 48 _ kX.out info_arr8 rfl (rowF_ones 8 (hw (P / 2))) ?_) | (refine wpList_load_row rfl 48 (.tmp 5) rfl gx rfl 48 _ (0, 0) _ kX.out under_arr8 rfl info_arr8 ?_) | (refine wpList_load_row rfl 48 (.tmp 6) rfl gy rfl 48 _ (0, 0) _ kY.out under_arr8 rfl info_arr8 ?_) | (refine wpList_load_rowG rfl 48 (.tmp 6) rfl gy rfl 48 _ (0, 0) _ kY.out under_arr8 rfl info_arr8 ?_) | (refine wpList_load_row rfl 48 (.tmp 5) rfl gx rfl 48 _ (0, 0) _ kXs.out under_arr8 rfl info_arr8 ?_) | (refine wpList_load_row rfl 48 (.tmp 6) rfl gy rfl 48 _ (0, 0) _ kYs.out under_arr8 rfl info_arr8 ?_) | (refine wpList_load_rowG rfl 48 (.tmp 6) rfl gy rfl 48 _ (0, 0) _ kYs.out under_arr8 rfl info_arr8 ?_))
          clear kX kY kR kW
          have kX := kXs
          have kY := kYs
          have kR := kRs
          have kW := kWs
          clear kXs kYs kRs kWs
          generalize World.setRow _ _ _ = v36 at kX kY kR kW ⊢
          have h0 := HK10.out
          have h1 := HEV.out
          have h2 := HKU.out
          go_roundg (P / 2)
          case measure => omega
          case rel => exact ⟨by omega, by omega, by rw [gcd_half P V h1 (by rw [HKV.out]; exact HG.out)]; exact HKV.out, kX.out, kY.out, kR.out, kW⟩
        rw [show evB P = false by unfold evB; simpa using hev]
        have HODD := Lib.hid (show P % 2 = 1 by omega)
        clear hev
        go_wp2_with fail
        go_loopg [] V (fun k wr => 0 < k ∧ k ≤ V ∧ Nat.gcd P k = Nat.gcd X Y ∧ Hid (Blk wr gx 48 (halL P)) ∧ Hid (Blk wr gy 48 (halL k)) ∧ Hid (Blk wr (w.heap.size + 1 + 1) 25 wid0) ∧ Below w.heap.size w wr)
        case atStart => exact ⟨HV0.out, Nat.le_refl _, HKV.out, kX.out, kY.out, kR.out, kW⟩
        case round =>
          clear kX kY kR kW
          obtain ⟨hk0, hkU, hkV, kX, kY, kR, kW⟩ := hrel
          have HQ := Lib.hid (Nat.lt_of_le_of_lt hkU HV.out)
          have HQ0 := Lib.hid hk0
          have HQV := Lib.hid hkU
          have HPQ := Lib.hid hkV
          clear hk0 hkU hkV
          generalize gk = Q at *
          go_wp2_with (first | (refine wpList_load_row rfl 48 (.tmp 5) rfl gx rfl 48 _ (0, 0) _ kX.out under_arr8 rfl info_arr8 ?_) | (refine wpList_load_row rfl 48 (.tmp 6) rfl gy rfl 48 _ (0, 0) _ kY.out under_arr8 rfl info_arr8 ?_) | (refine wpList_load_rowG rfl 48 (.tmp 6) rfl gy rfl 48 _ (0, 0) _ kY.out under_arr8 rfl info_arr8 ?_))
          refine (even_any Q _).mono ?_
          rintro e v37 ⟨rfl, hb⟩
          have kX := Lib.hid (kX.out.below hb)
          have kY := Lib.hid (kY.out.below hb)
          have kR := Lib.hid (kR.out.below hb)
          have kW := kW.trans (hb.mono kW.size)
          clear hb
          by_cases hev : Q % 2 = 0
          · rw [show evB Q = true by unfold evB; simpa using hev]
            have HEV := Lib.hid hev
            clear hev
            go_wp2_with (first | (refine wpList_load_row rfl 48 (.tmp 5) rfl gx rfl 48 _ (0, 0) _ kX.out under_arr8 rfl info_arr8 ?_) | (refine wpList_load_row rfl 48 (.tmp 6) rfl gy rfl 48 _ (0, 0) _ kY.out under_arr8 rfl info_arr8 ?_) | (refine wpList_load_rowG rfl 48 (.tmp 6) rfl gy rfl 48 _ (0, 0) _ kY.out under_arr8 rfl info_arr8 ?_))
            refine (rsmall_any Q 2 _ HQ.out (by decide) (by decide)).mono ?_
            rintro e v38 ⟨rfl, hb⟩
            have kX := Lib.hid (kX.out.below hb)
            have kY := Lib.hid (kY.out.below hb)
            have kR := Lib.hid (kR.out.below hb)
            have kW := kW.trans (hb.mono kW.size)
            clear hb
            generalize rsN Q 2 0 = rs
            have kYs : Hid (Blk (v38.setRow gy (halL (Q / 2))) gy 48 (halL (Q / 2))) := kY.out.row _
            have kXs : Hid (Blk (v38.setRow gy (halL (Q / 2))) gx 48 _) := kX.out.rowOther (k := gy) hxy _
            have kRs : Hid (Blk (v38.setRow gy (halL (Q / 2))) (w.heap.size + 1 + 1) 25 wid0) := kR.out.rowOther (k := gy) hRy _
            have kWs := below_row kW (g := gy) hwy (halL (Q / 2))
            go_wp2_with (first | (refine wpList_store_row rfl 48 (.tmp 6) (.tmp 54) rfl gy (halL (Q / 2)) rfl rfl 48 _ kY.out info_arr8 rfl (rowF_ones 8 (hw (Q / 2))) ?_) | (refine wpList_load_row rfl 48 (.tmp 5) rfl gx rfl 48 _ (0, 0) _ kX.out under_arr8 rfl info_arr8 ?_) | (refine wpList_load_row rfl 48 (.tmp 6) rfl gy rfl 48 _ (0, 0) _ kY.out under_arr8 rfl info_arr8 ?_) | (refine wpList_load_rowG rfl 48 (.tmp 6) rfl gy rfl 48 _ (0, 0) _ kY.out under_arr8 rfl info_arr8 ?_) | (refine wpList_load_row rfl 48 (.tmp 5) rfl gx rfl 48 _ (0, 0) _ kXs.out under_arr8 rfl info_arr8 ?_) | (refine wpList_load_row rfl 48 (.tmp 6) rfl gy rfl 48 _ (0, 0) _ kYs.out under_arr8 rfl info_arr8 ?_) | (refine wpList_load_rowG rfl 48 (.tmp 6) rfl gy rfl 48 _ (0, 0) _ kYs.out under_arr8 rfl info_arr8 ?_))
            clear kX kY kR kW
            have kX := kXs
            have kY := kYs
            have kR := kRs
            have kW := kWs
            clear kXs kYs kRs kWs
            generalize World.setRow _ _ _ = v39 at kX kY kR kW ⊢
            have h0 := HQ0.out
            have h1 := HEV.out
            have h2 := HQV.out
            go_roundg (Q / 2)
            case measure => omega
            case rel => exact ⟨by omega, by omega, by rw [gcd_half_right P Q h1 (by rw [HPQ.out]; exact HG.out)]; exact HPQ.out, kX.out, kY.out, kR.out, kW⟩
          rw [show evB Q = false by unfold evB; simpa using hev]
          clear hev
          by_cases hle : Q ≤ P
          · have HLE := Lib.hid hle
            clear hle
            go_wp2_with (first | (refine wpList_load_row rfl 48 (.tmp 5) rfl gx rfl 48 _ (0, 0) _ kX.out under_arr8 rfl info_arr8 ?_) | (refine wpList_load_row rfl 48 (.tmp 6) rfl gy rfl 48 _ (0, 0) _ kY.out under_arr8 rfl info_arr8 ?_) | (refine wpList_load_rowG rfl 48 (.tmp 6) rfl gy rfl 48 _ (0, 0) _ kY.out under_arr8 rfl info_arr8 ?_))
            refine (rcompare_ge P Q _ HK1.out HQ.out HLE.out).mono ?_
            rintro e v40 ⟨cc, hcc, rfl, hb⟩
            have kX := Lib.hid (kX.out.below hb)
            have kY := Lib.hid (kY.out.below hb)
            have kR := Lib.hid (kR.out.below hb)
            have kW := kW.trans (hb.mono kW.size)
            clear hb
            have hc0 : decide (cc < 0) = false := decide_eq_false (by simpa using hcc)
            clear hcc
            go_wp2_with (first | (refine wpList_load_row rfl 48 (.tmp 5) rfl gx rfl 48 _ (0, 0) _ kX.out under_arr8 rfl info_arr8 ?_) | (refine wpList_load_row rfl 48 (.tmp 6) rfl gy rfl 48 _ (0, 0) _ kY.out under_arr8 rfl info_arr8 ?_) | (refine wpList_load_rowG rfl 48 (.tmp 6) rfl gy rfl 48 _ (0, 0) _ kY.out under_arr8 rfl info_arr8 ?_))
            refine (rminus_any P Q _ HQ.out).mono ?_
            rintro e v41 ⟨rfl, hb⟩
            have kX := Lib.hid (kX.out.below hb)
            have kY := Lib.hid (kY.out.below hb)
            have kR := Lib.hid (kR.out.below hb)
            have kW := kW.trans (hb.mono kW.size)
            clear hb
            rw [show subN P Q = P - Q from subN_of_le HLE.out HK1.out]
            have kXs : Hid (Blk (v41.setRow gx (halL (P - Q))) gx 48 (halL (P - Q))) := kX.out.row _
            have kYs : Hid (Blk (v41.setRow gx (halL (P - Q))) gy 48 _) := kY.out.rowOther (k := gx) hyx _
            have kRs : Hid (Blk (v41.setRow gx (halL (P - Q))) (w.heap.size + 1 + 1) 25 wid0) := kR.out.rowOther (k := gx) hRx _
            have kWs := below_row kW (g := gx) hwx (halL (P - Q))
            go_wp2_with (first | (refine wpList_store_row rfl 48 (.tmp 5) (.tmp 64) rfl gx (halL (P - Q)) rfl rfl 48 _ kX.out info_arr8 rfl (rowF_ones 8 (hw (P - Q))) ?_) | (refine wpList_load_row rfl 48 (.tmp 5) rfl gx rfl 48 _ (0, 0) _ kX.out under_arr8 rfl info_arr8 ?_) | (refine wpList_load_row rfl 48 (.tmp 6) rfl gy rfl 48 _ (0, 0) _ kY.out under_arr8 rfl info_arr8 ?_) | (refine wpList_load_rowG rfl 48 (.tmp 6) rfl gy rfl 48 _ (0, 0) _ kY.out under_arr8 rfl info_arr8 ?_) | (refine wpList_load_row rfl 48 (.tmp 5) rfl gx rfl 48 _ (0, 0) _ kXs.out under_arr8 rfl info_arr8 ?_) | (refine wpList_load_row rfl 48 (.tmp 6) rfl gy rfl 48 _ (0, 0) _ kYs.out under_arr8 rfl info_arr8 ?_) | (refine wpList_load_rowG rfl 48 (.tmp 6) rfl gy rfl 48 _ (0, 0) _ kYs.out under_arr8 rfl info_arr8 ?_))
            clear kX kY kR kW
            have kX := kXs
            have kY := kYs
            have kR := kRs
            have kW := kWs
            clear kXs kYs kRs kWs
            generalize World.setRow _ _ _ = v42 at kX kY kR kW ⊢
            have hle := HLE.out
            have p0 := HK10.out
            have p1 := HKU.out
            have q0 := HQ0.out
            have q1 := HQV.out
            have p2 := HK1.out
            have q2 := HQ.out
            go_roundg (P - Q + Q)
            case measure => omega
            case rel => exact ⟨P - Q, Q, rfl, by omega, by omega, by omega, by rw [gcd_minus _ _ HLE.out]; exact HPQ.out, kX.out, kY.out, kR.out, kW⟩
          have HLT := Lib.hid (show P < Q by omega)
          have HLE := Lib.hid (show P ≤ Q by omega)
          clear hle
          go_wp2_with (first | (refine wpList_load_row rfl 48 (.tmp 5) rfl gx rfl 48 _ (0, 0) _ kX.out under_arr8 rfl info_arr8 ?_) | (refine wpList_load_row rfl 48 (.tmp 6) rfl gy rfl 48 _ (0, 0) _ kY.out under_arr8 rfl info_arr8 ?_) | (refine wpList_load_rowG rfl 48 (.tmp 6) rfl gy rfl 48 _ (0, 0) _ kY.out under_arr8 rfl info_arr8 ?_))
          refine (rcompare_lt P Q _ HK1.out HQ.out HLT.out).mono ?_
          rintro e v43 ⟨cc, hcc, rfl, hb⟩
          have kX := Lib.hid (kX.out.below hb)
          have kY := Lib.hid (kY.out.below hb)
          have kR := Lib.hid (kR.out.below hb)
          have kW := kW.trans (hb.mono kW.size)
          clear hb
          have hc0 : decide (cc < 0) = true := decide_eq_true hcc
          clear hcc
          have kXs : Hid (Blk (v43.setRow gx (halL Q)) gx 48 (halL Q)) := kX.out.row _
          have kYs : Hid (Blk (v43.setRow gx (halL Q)) gy 48 _) := kY.out.rowOther (k := gx) hyx _
          have kRs : Hid (Blk (v43.setRow gx (halL Q)) (w.heap.size + 1 + 1) 25 wid0) := kR.out.rowOther (k := gx) hRx _
          have kWs := below_row kW (g := gx) hwx (halL Q)
          have kX2 : Hid (Blk ((v43.setRow gx (halL Q)).setRow gy (halL P)) gx 48 (halL Q)) := kXs.out.rowOther (k := gy) hxy _
          have kY2 : Hid (Blk ((v43.setRow gx (halL Q)).setRow gy (halL P)) gy 48 (halL P)) := kYs.out.row _
          have kR2 : Hid (Blk ((v43.setRow gx (halL Q)).setRow gy (halL P)) (w.heap.size + 1 + 1) 25 wid0) := kRs.out.rowOther (k := gy) hRy _
          have kW2 := below_row kWs (g := gy) hwy (halL P)
          go_wp2_with (first | (refine wpList_load_row rfl 48 (.tmp 5) rfl gx rfl 48 _ (0, 0) _ kX.out under_arr8 rfl info_arr8 ?_) | (refine wpList_load_row rfl 48 (.tmp 6) rfl gy rfl 48 _ (0, 0) _ kY.out under_arr8 rfl info_arr8 ?_) | (refine wpList_load_rowG rfl 48 (.tmp 6) rfl gy rfl 48 _ (0, 0) _ kY.out under_arr8 rfl info_arr8 ?_) | (refine wpList_store_row rfl 48 (.tmp 5) (.tmp 60) rfl gx (halL Q) rfl rfl 48 _ kX.out info_arr8 rfl (rowF_ones 8 (hw Q)) ?_) | (refine wpList_store_row rfl 48 (.tmp 6) (.tmp 61) rfl gy (halL P) rfl rfl 48 _ kYs.out info_arr8 rfl (rowF_ones 8 (hw P)) ?_) | (refine wpList_load_row rfl 48 (.tmp 5) rfl gx rfl 48 _ (0, 0) _ kX2.out under_arr8 rfl info_arr8 ?_) | (refine wpList_load_row rfl 48 (.tmp 6) rfl gy rfl 48 _ (0, 0) _ kY2.out under_arr8 rfl info_arr8 ?_) | (refine wpList_load_rowG rfl 48 (.tmp 6) rfl gy rfl 48 _ (0, 0) _ kY2.out under_arr8 rfl info_arr8 ?_))
          clear kXs kYs kRs kWs
          have kXs := kX2
          have kYs := kY2
          have kRs := kR2
          have kWs := kW2
          clear kX2 kY2 kR2 kW2
          clear kX kY kR kW
          have kX := kXs
          have kY := kYs
          have kR := kRs
          have kW := kWs
          clear kXs kYs kRs kWs
          generalize World.setRow _ _ _ = v44 at kX kY kR kW ⊢
          refine (rminus_any Q P _ HK1.out).mono ?_
          rintro e v45 ⟨rfl, hb⟩
          have kX := Lib.hid (kX.out.below hb)
          have kY := Lib.hid (kY.out.below hb)
          have kR := Lib.hid (kR.out.below hb)
          have kW := kW.trans (hb.mono kW.size)
          clear hb
          rw [show subN Q P = Q - P from subN_of_le HLE.out HQ.out]
          have kXs : Hid (Blk (v45.setRow gx (halL (Q - P))) gx 48 (halL (Q - P))) := kX.out.row _
          have kYs : Hid (Blk (v45.setRow gx (halL (Q - P))) gy 48 _) := kY.out.rowOther (k := gx) hyx _
          have kRs : Hid (Blk (v45.setRow gx (halL (Q - P))) (w.heap.size + 1 + 1) 25 wid0) := kR.out.rowOther (k := gx) hRx _
          have kWs := below_row kW (g := gx) hwx (halL (Q - P))
          go_wp2_with (first | (refine wpList_store_row rfl 48 (.tmp 5) (.tmp 64) rfl gx (halL (Q - P)) rfl rfl 48 _ kX.out info_arr8 rfl (rowF_ones 8 (hw (Q - P))) ?_) | (refine wpList_load_row rfl 48 (.tmp 5) rfl gx rfl 48 _ (0, 0) _ kX.out under_arr8 rfl info_arr8 ?_) | (refine wpList_load_row rfl 48 (.tmp 6) rfl gy rfl 48 _ (0, 0) _ kY.out under_arr8 rfl info_arr8 ?_) | (refine wpList_load_rowG rfl 48 (.tmp 6) rfl gy rfl 48 _ (0, 0) _ kY.out under_arr8 rfl info_arr8 ?_) | (refine wpList_load_row rfl 48 (.tmp 5) rfl gx rfl 48 _ (0, 0) _ kXs.out under_arr8 rfl info_arr8 ?_) | (refine wpList_load_row rfl 48 (.tmp 6) rfl gy rfl 48 _ (0, 0) _ kYs.out under_arr8 rfl info_arr8 ?_) | (refine wpList_load_rowG rfl 48 (.tmp 6) rfl gy rfl 48 _ (0, 0) _ kYs.out under_arr8 rfl info_arr8 ?_))
          clear kX kY kR kW
          have kX := kXs
          have kY := kYs
          have kR := kRs
          have kW := kWs
          clear kXs kYs kRs kWs
          generalize World.setRow _ _ _ = v46 at kX kY kR kW ⊢
          have hle := HLE.out
          have p0 := HK10.out
          have p1 := HKU.out
          have q0 := HQ0.out
          have q1 := HQV.out
          have p2 := HK1.out
          have q2 := HQ.out
          go_roundg (Q - P + P)
          case measure => omega
          case rel => exact ⟨Q - P, P, rfl, by omega, by omega, by omega, by rw [gcd_minus _ _ HLE.out]; exact (Nat.gcd_comm _ _).trans HPQ.out, kX.out, kY.out, kR.out, kW⟩
end Go.Proofs.Ytnpgikjahfhaoaa
