/-
  The reference's Div.
-/
import Derived.Test.YtnpgikjahfhaoaaWOps6
import Derived.Test.YtnpgikjahfhaoaaWRef7
import Derived.Test.YtnpgikjahfhaoaaWRef3
namespace Go.Proofs.Ytnpgikjahfhaoaa
open Go.RowKit Go.Proofs.WM Go.Proofs.Reg

theorem half_one : (#[.int .u64 1, .int .u64 0, .int .u64 0, .int .u64 0, .int .u64 0, .int .u64 0, .int .u64 0, .int .u64 0] : Array Value) = halL 1 := by
  have h0 : hw 1 0 = 1 := by decide
  have h1 : hw 1 1 = 0 := by decide
  have h2 : hw 1 2 = 0 := by decide
  have h3 : hw 1 3 = 0 := by decide
  have h4 : hw 1 4 = 0 := by decide
  have h5 : hw 1 5 = 0 := by decide
  have h6 : hw 1 6 = 0 := by decide
  have h7 : hw 1 7 = 0 := by decide
  simp [h0, h1, h2, h3, h4, h5, h6, h7]
theorem rplus_one (q : Nat) (w : World) (h : q + 1 < M256) : Calls Try.prog 48 #[.agg (halL q), .agg #[.int .u64 1, .int .u64 0, .int .u64 0, .int .u64 0, .int .u64 0, .int .u64 0, .int .u64 0, .int .u64 0]] w (Gives (.tuple #[.agg (halL (q + 1)), .bool false]) w) := by
  rw [half_one]
  exact rplus_in q 1 w (by omega) (by omega) h
set_option maxHeartbeats 4000000 in
theorem rdiv_any (s t : Bool) (n m : Nat) (w : World) (hn : n < M256) (hm : m < M256) :
    Calls Try.prog 31 #[.agg (widL s n), .agg (widL t m)] w (Gives (DivV s n t m) w) := by
  have HN := Lib.hid hn
  have HM := Lib.hid hm
  go_enter Try.func31, Try.ntmps31
  go_wp2_with fail
  have hG : Keep [(w.heap.size, 25, widL s n), (w.heap.size + 1, 25, widL t m), (w.heap.size + 1 + 1, 25, wid0), (w.heap.size + 1 + 1 + 1, 25, wid0)] (w.heap.size) 25 (widL s n) (widL s n) w (((((w.alloc (.cells (widL s n) 25)).alloc (.cells (widL t m) 25)).alloc (.cells wid0 25)).alloc (.cells wid0 25)).drew) := by
    refine ⟨?_, .inl ((((Blk.new _ _ _).old _).old _).old _).drew, (((((Below.refl _ _).alloc (Nat.le_refl _) _).alloc (by simp) _).alloc (by simp; omega) _).alloc (by simp; omega) _).drew⟩
    intro k hk
    simp only [List.mem_cons, List.mem_nil_iff, or_false] at hk
    rcases hk with rfl | rfl | rfl | rfl
    · exact ((((Blk.new _ _ _).old _).old _).old _).drew
    · exact (((Blk.newAt (by simp) _ _).old _).old _).drew
    · exact ((Blk.newAt (by simp) _ _).old _).drew
    · exact (Blk.newAt (by simp) _ _).drew
  refine region_kit (ds := [some 11, some 12, some 13, some 14, some 7, some 8]) [] [[], [0], [], [2], [], []] (fun i => i == 4 || i == 5) [.is _ 0 (.agg (widL s n)), .is _ 1 (.agg (halL n)), .is _ 2 (.agg (widL t m)), .is _ 3 (.agg (halL m)), .ptr _ 4 (w.heap.size + 1 + 1 + 1 + 1) 48 hal0 (by intro r hr; simp at hr), .ptr _ 5 (w.heap.size + 1 + 1 + 1 + 1) 48 hal0 (by intro r hr; simp at hr)] (Keep [(w.heap.size, 25, (widL s n)), (w.heap.size + 1, 25, (widL t m)), (w.heap.size + 1 + 1, 25, wid0), (w.heap.size + 1 + 1 + 1, 25, wid0)] (w.heap.size) 25 (widL s n) (widL s n) w) follows_mixed (by kernel_rfl) (by kernel_rfl) (by kernel_rfl) (fun _ _ h he => h.ext he (by intro r hr; simp at hr) (by intro r hr; simp at hr) (by intro r hr; simp at hr)) hG ?_ ?_
  · refine steps_cons ?_ (steps_cons ?_ (steps_cons ?_ (steps_cons ?_ (steps_cons ?_ (steps_cons ?_ (steps_nil))))))
    · exact fun xs wx hG _ => step_row 25 (.tmp 2) rfl (w.heap.size) (eval_old (by decide)) 25 (widL s n) _ (hG.rows _ (List.mem_cons_self ..)) under_wide rfl info_wide rfl
    · exact fun xs wx hG hF => step_call1 41 (.tmp 11) #[25] (.agg (widL s n)) rfl ((eval_new (i := 0) (by decide) rfl (by simp)).trans hF.1) (by kernel_rfl) (rsplit_any s n wx) (fun e w' h => ⟨_, h.1, rfl, h.2⟩)
    · exact fun xs wx hG _ => step_row 25 (.tmp 3) rfl (w.heap.size + 1) (eval_old (by decide)) 25 (widL t m) _ (hG.rows _ (List.mem_cons_of_mem _ (List.mem_cons_self ..))) under_wide rfl info_wide rfl
    · exact fun xs wx hG hF => step_call1 41 (.tmp 13) #[25] (.agg (widL t m)) rfl ((eval_new (i := 2) (by decide) rfl (by simp)).trans hF.1) (by kernel_rfl) (rsplit_any t m wx) (fun e w' h => ⟨_, h.1, rfl, h.2⟩)
    · exact fun xs wx hG _ => step_alloc (.cells hal0 48) (by go_simp) ⟨_, (by have := Blk.lt (hG.rows _ (List.mem_cons_of_mem _ (List.mem_cons_of_mem _ (List.mem_cons_of_mem _ (List.mem_cons_self ..))))); omega), rfl, Blk.new _ _ _⟩
    · exact fun xs wx hG _ => step_alloc (.cells hal0 48) (by go_simp) ⟨_, (by have := Blk.lt (hG.rows _ (List.mem_cons_of_mem _ (List.mem_cons_of_mem _ (List.mem_cons_of_mem _ (List.mem_cons_self ..))))); omega), rfl, Blk.new _ _ _⟩
  intro xs wx hG hA hF
  obtain ⟨f0, f1, f2, f3, f4, f5, _⟩ := hF
  have f0 : xs 0 = (.agg (widL s n)) := f0
  have f1 : xs 1 = (.agg (halL n)) := f1
  have f2 : xs 2 = (.agg (widL t m)) := f2
  have f3 : xs 3 = (.agg (halL m)) := f3
  obtain ⟨g4, l4, x4, r4⟩ := f4
  obtain ⟨g5, l5, x5, r5⟩ := f5
  simp only [fillIn, Act.put, List.setIfInBounds_toArray, List.set_cons_zero, List.set_cons_succ, f0, f1, f2, f3, x4, x5, List.drop_succ_cons, List.drop_zero, List.length_cons, List.length_nil]
  have hne := hA 4 5 (by decide) (by decide) rfl rfl (by decide)
  rw [x4, x5] at hne
  have h45 : g4 ≠ g5 := fun e => hne (by rw [e])
  obtain ⟨kk, kres, kW⟩ := hG
  have kA : Hid (Blk wx (w.heap.size) 25 (widL s n)) := kk _ (List.mem_cons_self ..)
  have kB : Hid (Blk wx (w.heap.size + 1) 25 (widL t m)) := kk _ (List.mem_cons_of_mem _ (List.mem_cons_self ..))
  have k4 : Hid (Blk wx (w.heap.size + 1 + 1) 25 wid0) := kk _ (List.mem_cons_of_mem _ (List.mem_cons_of_mem _ (List.mem_cons_self ..)))
  have k5 : Hid (Blk wx (w.heap.size + 1 + 1 + 1) 25 wid0) := kk _ (List.mem_cons_of_mem _ (List.mem_cons_of_mem _ (List.mem_cons_of_mem _ (List.mem_cons_self ..))))
  have R4 : Hid (Blk wx g4 48 hal0) := r4
  have R5 : Hid (Blk wx g5 48 hal0) := r5
  refine wpList_store_row rfl 48 (.tmp 7) (.tmp 12) rfl g4 (halL n) rfl rfl 48 _ R4.out info_arr8 rfl (rowF_ones 8 (hw n)) ?_
  refine wpList_store_row rfl 48 (.tmp 8) (.tmp 14) rfl g5 (halL m) rfl rfl 48 _ (R5.out.rowOther (fun e => h45 e.symm) _) info_arr8 rfl (rowF_ones 8 (hw m)) ?_
  have kX := Lib.hid ((R4.out.row (halL n)).rowOther (k := g5) h45 (halL m))
  have kY := Lib.hid ((R5.out.rowOther (k := g4) (fun e => h45 e.symm) (halL n)).row (halL m))
  have kA := Lib.hid ((kA.out.rowOther (k := g4) (by omega) (halL n)).rowOther (k := g5) (by omega) (halL m))
  have kB := Lib.hid ((kB.out.rowOther (k := g4) (by omega) (halL n)).rowOther (k := g5) (by omega) (halL m))
  have k4 := Lib.hid ((k4.out.rowOther (k := g4) (by omega) (halL n)).rowOther (k := g5) (by omega) (halL m))
  have k5 := Lib.hid ((k5.out.rowOther (k := g4) (by omega) (halL n)).rowOther (k := g5) (by omega) (halL m))
  have kW := below_row (below_row kW (g := g4) (by omega) (halL n)) (g := g5) (by omega) (halL m)
  generalize World.setRow _ _ _ = W1 at kA kB k4 k5 kX kY kW ⊢
  clear R4 R5 kk kres hne r4 r5 x4 x5 f0 f1 f2 f3
  generalize g4 = gx at *
  generalize g5 = gy at *
  have lX := kX.out.lt
  have lY := kY.out.lt
  have l5 := k5.out.lt
  have hz := zero_any m W1 hm
  rcases Nat.eq_zero_or_pos m with h0 | h0
  · have HV := Lib.hid (show DivV s n t m = .tuple #[.agg (widL false 0), .agg (widL false 0), .int .i64 22] by rw [h0]; exact divV_zero s n t)
    have E := Lib.hid widL0
    rw [show (m == 0) = true by simp [h0]] at hz
    clear hn hm h0
    go_wp2_with (refine wpList_load_row rfl 48 (.tmp 8) rfl gy rfl 48 _ (0, 0) _ kY.out under_arr8 rfl info_arr8 ?_)
    refine hz.mono ?_
    rintro e w1 ⟨rfl, hb⟩
    have k4 := Lib.hid (k4.out.below hb)
    have k5 := Lib.hid (k5.out.below hb)
    have kW := kW.trans (hb.mono kW.size)
    clear hb
    clear hz
    go_wp2_with (first | (refine wpList_store_row rfl 25 (.tmp 4) (.tmp 17) rfl (w.heap.size + 1 + 1) wid0 rfl rfl 25 _ k4.out info_wide rfl (widF_ones false (fun _ => 0)) ?_) | (refine wpList_store_row rfl 25 (.tmp 5) (.tmp 18) rfl (w.heap.size + 1 + 1 + 1) wid0 rfl rfl 25 _ (k5.out.rowOther (by omega) _) info_wide rfl (widF_ones false (fun _ => 0)) ?_))
    exact gives_rows_tmp rfl (w.heap.size + 1 + 1) (w.heap.size + 1 + 1 + 1) 25 25 wid0 wid0 _ _ (.int .i64 22) rfl rfl rfl ((k4.out.row _).rowOther (by omega) _) ((k5.out.rowOther (by omega) _).row _) under_wide rfl info_wide under_wide rfl info_wide rfl ⟨by rw [HV.out, E.out], below_row (below_row kW (by omega) _) (by omega) _⟩
  · rw [show (m == 0) = false by simp; omega] at hz
    have hq : n / m < M256 := Nat.lt_of_le_of_lt (Nat.div_le_self _ _) hn
    have hr : n % m < M256 := Nat.lt_of_le_of_lt (Nat.mod_le _ _) hn
    have H0 := Lib.hid h0
    go_wp2_with (refine wpList_load_row rfl 48 (.tmp 8) rfl gy rfl 48 _ (0, 0) _ kY.out under_arr8 rfl info_arr8 ?_)
    refine hz.mono ?_
    rintro e w1 ⟨rfl, hb⟩
    have kA := Lib.hid (kA.out.below hb)
    have kB := Lib.hid (kB.out.below hb)
    have k4 := Lib.hid (k4.out.below hb)
    have k5 := Lib.hid (k5.out.below hb)
    have kX := Lib.hid (kX.out.below hb)
    have kY := Lib.hid (kY.out.below hb)
    have kW := kW.trans (hb.mono kW.size)
    clear hb
    clear hz
    have hzr := fun w => zero_any (n % m) w hr
    by_cases hx : (s != t) = true ∧ n % m ≠ 0
    · obtain ⟨hx1, hx2⟩ := hx
      have HV := Lib.hid (divV_down h0 hx1 hx2)
      have hne : ¬ s = t := by intro e; rw [e] at hx1; simp at hx1
      have hne2 : (s == t) = false := by simpa using hne
      rw [show (n % m == 0) = false by simp; omega] at hzr
      have hq1 : n / m + 1 < M256 := by
        have h2 : 2 ≤ m := by
          rcases Nat.lt_or_ge m 2 with h | h
          · have : m = 1 := by omega
            subst this
            exact absurd (Nat.mod_one n) hx2
          · exact h
        have : n / m ≤ n / 2 := Nat.div_le_div_left h2 (by decide)
        have h3 : 3 < M256 := by decide
        omega
      have hr1 : m - n % m < M256 := by omega
      have hrm : n % m ≤ m := Nat.le_of_lt (Nat.mod_lt _ h0)
      have BQ := Lib.hid hq1
      have BR := Lib.hid hr1
      have hsub : ∀ w, Calls Try.prog 49 #[.agg (halL m), .agg (halL (n % m))] w (Gives (.agg (halL (m - n % m))) w) := fun w => by
        have := rminus_any m (n % m) w hr
        rwa [subN_of_le hrm hm] at this
      have HS := Lib.hid hsub
      have HZ := Lib.hid hzr
      clear hn hm h0 hq hr hq1 hr1 hrm hsub hx2 hzr
      go_wp2_with (first | (refine wpList_load_row rfl 48 (.tmp 7) rfl gx rfl 48 _ (0, 0) _ kX.out under_arr8 rfl info_arr8 ?_) | (refine wpList_load_row rfl 48 (.tmp 8) rfl gy rfl 48 _ (0, 0) _ kY.out under_arr8 rfl info_arr8 ?_))
      refine (rdivide_any n m _ HN.out HM.out H0.out).mono ?_
      rintro e w1 ⟨rfl, hb⟩
      have kA := Lib.hid (kA.out.below hb)
      have kB := Lib.hid (kB.out.below hb)
      have k4 := Lib.hid (k4.out.below hb)
      have k5 := Lib.hid (k5.out.below hb)
      have kX := Lib.hid (kX.out.below hb)
      have kY := Lib.hid (kY.out.below hb)
      have kW := kW.trans (hb.mono kW.size)
      clear hb
      have lR := k5.out.lt
      have lX := kX.out.lt
      have lY := kY.out.lt
      have kq0 : Hid (Blk ((w1.alloc (.cells hal0 48)).alloc (.cells hal0 48)) w1.heap.size 48 hal0) := (Blk.new _ _ _).old _
      have kr0 : Hid (Blk (((w1.alloc (.cells hal0 48)).alloc (.cells hal0 48)).setRow w1.heap.size (halL (n / m))) (w1.heap.size + 1) 48 hal0) := (Blk.newAt (by simp) _ _).rowOther (by omega) _
      have kA := Lib.hid ((((kA.out.old (.cells hal0 48)).old (.cells hal0 48)).rowOther (k := w1.heap.size) (by omega) (halL (n / m))).rowOther (k := w1.heap.size + 1) (by omega) (halL (n % m)))
      have kB := Lib.hid ((((kB.out.old (.cells hal0 48)).old (.cells hal0 48)).rowOther (k := w1.heap.size) (by omega) (halL (n / m))).rowOther (k := w1.heap.size + 1) (by omega) (halL (n % m)))
      have k4 := Lib.hid ((((k4.out.old (.cells hal0 48)).old (.cells hal0 48)).rowOther (k := w1.heap.size) (by omega) (halL (n / m))).rowOther (k := w1.heap.size + 1) (by omega) (halL (n % m)))
      have k5 := Lib.hid ((((k5.out.old (.cells hal0 48)).old (.cells hal0 48)).rowOther (k := w1.heap.size) (by omega) (halL (n / m))).rowOther (k := w1.heap.size + 1) (by omega) (halL (n % m)))
      have kX := Lib.hid ((((kX.out.old (.cells hal0 48)).old (.cells hal0 48)).rowOther (k := w1.heap.size) (by omega) (halL (n / m))).rowOther (k := w1.heap.size + 1) (by omega) (halL (n % m)))
      have kY := Lib.hid ((((kY.out.old (.cells hal0 48)).old (.cells hal0 48)).rowOther (k := w1.heap.size) (by omega) (halL (n / m))).rowOther (k := w1.heap.size + 1) (by omega) (halL (n % m)))
      have kQ := Lib.hid ((kq0.out.row (halL (n / m))).rowOther (k := w1.heap.size + 1) (by omega) (halL (n % m)))
      have kR := Lib.hid (kr0.out.row (halL (n % m)))
      have kW := below_row (below_row ((kW.alloc (by omega) (.cells hal0 48)).alloc (by simp; omega) (.cells hal0 48)) (g := w1.heap.size) (by omega) (halL (n / m))) (g := w1.heap.size + 1) (by omega) (halL (n % m))
      have c0 : ((((w1.alloc (.cells hal0 48)).alloc (.cells hal0 48)).setRow w1.heap.size (halL (n / m))).setRow (w1.heap.size + 1) (halL (n % m))).cell? ⟨w.heap.size, 0, none⟩ = some (.bool s) := kA.out.cell 0
      have c1 : ((((w1.alloc (.cells hal0 48)).alloc (.cells hal0 48)).setRow w1.heap.size (halL (n / m))).setRow (w1.heap.size + 1) (halL (n % m))).cell? ⟨w.heap.size + 1, 0, none⟩ = some (.bool t) := kB.out.cell 0
      have d0 : ((((w1.alloc (.cells hal0 48)).alloc (.cells hal0 48)).setRow w1.heap.size (halL (n / m))).setRow (w1.heap.size + 1) (halL (n % m))).cell? ⟨w1.heap.size + 1, 0, none⟩ = some (.int .u64 ((hw (n % m) 0 : Nat) : Int)) := kR.out.cell 0
      have d1 : ((((w1.alloc (.cells hal0 48)).alloc (.cells hal0 48)).setRow w1.heap.size (halL (n / m))).setRow (w1.heap.size + 1) (halL (n % m))).cell? ⟨w1.heap.size + 1, 1, none⟩ = some (.int .u64 ((hw (n % m) 1 : Nat) : Int)) := kR.out.cell 1
      have d2 : ((((w1.alloc (.cells hal0 48)).alloc (.cells hal0 48)).setRow w1.heap.size (halL (n / m))).setRow (w1.heap.size + 1) (halL (n % m))).cell? ⟨w1.heap.size + 1, 2, none⟩ = some (.int .u64 ((hw (n % m) 2 : Nat) : Int)) := kR.out.cell 2
      have d3 : ((((w1.alloc (.cells hal0 48)).alloc (.cells hal0 48)).setRow w1.heap.size (halL (n / m))).setRow (w1.heap.size + 1) (halL (n % m))).cell? ⟨w1.heap.size + 1, 3, none⟩ = some (.int .u64 ((hw (n % m) 3 : Nat) : Int)) := kR.out.cell 3
      have d4 : ((((w1.alloc (.cells hal0 48)).alloc (.cells hal0 48)).setRow w1.heap.size (halL (n / m))).setRow (w1.heap.size + 1) (halL (n % m))).cell? ⟨w1.heap.size + 1, 4, none⟩ = some (.int .u64 ((hw (n % m) 4 : Nat) : Int)) := kR.out.cell 4
      have d5 : ((((w1.alloc (.cells hal0 48)).alloc (.cells hal0 48)).setRow w1.heap.size (halL (n / m))).setRow (w1.heap.size + 1) (halL (n % m))).cell? ⟨w1.heap.size + 1, 5, none⟩ = some (.int .u64 ((hw (n % m) 5 : Nat) : Int)) := kR.out.cell 5
      have d6 : ((((w1.alloc (.cells hal0 48)).alloc (.cells hal0 48)).setRow w1.heap.size (halL (n / m))).setRow (w1.heap.size + 1) (halL (n % m))).cell? ⟨w1.heap.size + 1, 6, none⟩ = some (.int .u64 ((hw (n % m) 6 : Nat) : Int)) := kR.out.cell 6
      have d7 : ((((w1.alloc (.cells hal0 48)).alloc (.cells hal0 48)).setRow w1.heap.size (halL (n / m))).setRow (w1.heap.size + 1) (halL (n % m))).cell? ⟨w1.heap.size + 1, 7, none⟩ = some (.int .u64 ((hw (n % m) 7 : Nat) : Int)) := kR.out.cell 7
      go_wp2_with (first | (refine wpList_store_row rfl 48 (.tmp 9) (.tmp 23) rfl w1.heap.size (halL (n / m)) rfl rfl 48 _ kq0.out info_arr8 rfl (rowF_ones 8 (hw (n / m))) ?_) | (refine wpList_store_row rfl 48 (.tmp 10) (.tmp 24) rfl (w1.heap.size + 1) (halL (n % m)) rfl rfl 48 _ kr0.out info_arr8 rfl (rowF_ones 8 (hw (n % m))) ?_))
      clear c0 c1 d0 d1 d2 d3 d4 d5 d6 d7
      obtain ⟨L, hL⟩ : ∃ L, L = w1.heap.size := ⟨_, rfl⟩
      rw [← hL] at kA kB k4 k5 kX kY kQ kR kW lR lX lY ⊢
      clear hL kq0 kr0
      generalize World.setRow _ _ _ = W4 at kA kB k4 k5 kX kY kQ kR kW ⊢
      refine (HZ.out _).mono ?_
      rintro e w2 ⟨rfl, hb⟩
      have kA := Lib.hid (kA.out.below hb)
      have kB := Lib.hid (kB.out.below hb)
      have k4 := Lib.hid (k4.out.below hb)
      have k5 := Lib.hid (k5.out.below hb)
      have kX := Lib.hid (kX.out.below hb)
      have kY := Lib.hid (kY.out.below hb)
      have kQ := Lib.hid (kQ.out.below hb)
      have kR := Lib.hid (kR.out.below hb)
      have kW := kW.trans (hb.mono kW.size)
      clear hb
      go_wp2_with (refine wpList_load_row rfl 48 (.tmp 9) rfl L rfl 48 _ (0, 0) _ kQ.out under_arr8 rfl info_arr8 ?_)
      refine (rplus_one _ _ BQ.out).mono ?_
      rintro e w3 ⟨rfl, hb⟩
      have kA := Lib.hid (kA.out.below hb)
      have kB := Lib.hid (kB.out.below hb)
      have k4 := Lib.hid (k4.out.below hb)
      have k5 := Lib.hid (k5.out.below hb)
      have kX := Lib.hid (kX.out.below hb)
      have kY := Lib.hid (kY.out.below hb)
      have kQ := Lib.hid (kQ.out.below hb)
      have kR := Lib.hid (kR.out.below hb)
      have kW := kW.trans (hb.mono kW.size)
      clear hb
      go_wp2_with (first | (refine wpList_store_row rfl 48 (.tmp 9) (.tmp 39) rfl L (halL (n / m + 1)) rfl rfl 48 _ kQ.out info_arr8 rfl (rowF_ones 8 (hw (n / m + 1))) ?_) | (refine wpList_load_row rfl 48 (.tmp 8) rfl gy rfl 48 _ (0, 0) _ (kY.out.rowOther (by omega) _) under_arr8 rfl info_arr8 ?_) | (refine wpList_load_row rfl 48 (.tmp 10) rfl (L + 1) rfl 48 _ (0, 0) _ (kR.out.rowOther (by omega) _) under_arr8 rfl info_arr8 ?_))
      refine (HS.out _).mono ?_
      rintro e w5 ⟨rfl, hb⟩
      have kA := Lib.hid ((kA.out.rowOther (k := L) (by omega) (halL (n / m + 1))).below hb)
      have kB := Lib.hid ((kB.out.rowOther (k := L) (by omega) (halL (n / m + 1))).below hb)
      have k4 := Lib.hid ((k4.out.rowOther (k := L) (by omega) (halL (n / m + 1))).below hb)
      have k5 := Lib.hid ((k5.out.rowOther (k := L) (by omega) (halL (n / m + 1))).below hb)
      have kR := Lib.hid ((kR.out.rowOther (k := L) (by omega) (halL (n / m + 1))).below hb)
      have kQ := Lib.hid ((kQ.out.row (halL (n / m + 1))).below hb)
      have kW := (below_row kW (g := L) (by omega) (halL (n / m + 1))).trans (hb.mono (by simp; exact kW.size))
      clear hb
      go_wp2_with (refine wpList_store_row rfl 48 (.tmp 10) (.tmp 43) rfl (L + 1) (halL (m - n % m)) rfl rfl 48 _ kR.out info_arr8 rfl (rowF_ones 8 (hw (m - n % m))) ?_)
      have kA := Lib.hid (kA.out.rowOther (k := L + 1) (by omega) (halL (m - n % m)))
      have kB := Lib.hid (kB.out.rowOther (k := L + 1) (by omega) (halL (m - n % m)))
      have k4 := Lib.hid (k4.out.rowOther (k := L + 1) (by omega) (halL (m - n % m)))
      have k5 := Lib.hid (k5.out.rowOther (k := L + 1) (by omega) (halL (m - n % m)))
      have kQ := Lib.hid (kQ.out.rowOther (k := L + 1) (by omega) (halL (m - n % m)))
      have kR := Lib.hid (kR.out.row (halL (m - n % m)))
      have kW := below_row kW (g := L + 1) (by omega) (halL (m - n % m))
      clear kX kY lX lY
      generalize World.setRow _ _ _ = W6 at kA kB k4 k5 kQ kR kW ⊢
      simp only [Act.put]
      have hG : Keep [(w.heap.size, 25, widL s n), (w.heap.size + 1, 25, widL t m), (L, 48, halL (n / m + 1)), (L + 1, 48, halL (m - n % m)), (w.heap.size + 1 + 1 + 1, 25, wid0)] (w.heap.size + 1 + 1) 25 wid0 (widL (sg (s != t) (n / m + 1)) (n / m + 1)) w W6.drew := by
        refine ⟨?_, .inl k4.out.drew, kW.drew⟩
        intro k hk
        simp only [List.mem_cons, List.mem_nil_iff, or_false] at hk
        rcases hk with rfl | rfl | rfl | rfl | rfl
        · exact kA.out.drew
        · exact kB.out.drew
        · exact kQ.out.drew
        · exact kR.out.drew
        · exact k5.out.drew
      refine region_kit (ds := [some 44, some 45, some 46, some 47, some 48, some 49, some 50, some 51, some 52, some 53, some 54]) [((· == w.heap.size + 1 + 1), 25, (widL (sg (s != t) (n / m + 1)) (n / m + 1)))] [[], [0], [], [2], [1, 3], [], [4, 5], [], [7], [], [8, 9]] (fun i => false) [.is _ 0 (.pointer (some ⟨w.heap.size, 0, none⟩)), .is _ 1 (.bool s), .is _ 2 (.pointer (some ⟨w.heap.size + 1, 0, none⟩)), .is _ 3 (.bool t), .is _ 4 (.bool (s != t)), .is _ 5 (.agg (halL (n / m + 1))), .is _ 6 (.agg (widL (sg (s != t) (n / m + 1)) (n / m + 1))), .is _ 7 (.pointer (some ⟨w.heap.size + 1, 0, none⟩)), .is _ 8 (.bool t), .is _ 9 (.agg (halL (m - n % m))), .is _ 10 (.agg (widL (sg t (m - n % m)) (m - n % m)))] (Keep [(w.heap.size, 25, (widL s n)), (w.heap.size + 1, 25, (widL t m)), (L, 48, (halL (n / m + 1))), (L + 1, 48, (halL (m - n % m))), (w.heap.size + 1 + 1 + 1, 25, wid0)] (w.heap.size + 1 + 1) 25 wid0 (widL (sg (s != t) (n / m + 1)) (n / m + 1)) w) follows_mixed (by kernel_rfl) (by kernel_rfl) (by kernel_rfl) (fun _ _ h he => h.ext he (by intro r hr k hk; simp only [List.mem_cons, List.mem_nil_iff, or_false] at hr hk; rcases hr with rfl <;> rcases hk with rfl | rfl | rfl | rfl | rfl <;> simp <;> omega) (by intro r hr hx; simp only [List.mem_cons, List.mem_nil_iff, or_false] at hr; rcases hr with rfl <;> simp at hx ⊢ <;> omega) (by intro r hr k hk; simp only [List.mem_cons, List.mem_nil_iff, or_false] at hr; rcases hr with rfl <;> simp <;> omega)) hG ?_ ?_
      · refine steps_cons ?_ (steps_cons ?_ (steps_cons ?_ (steps_cons ?_ (steps_cons ?_ (steps_cons ?_ (steps_cons ?_ (steps_cons ?_ (steps_cons ?_ (steps_cons ?_ (steps_cons ?_ (steps_nil)))))))))))
        · exact fun xs wx hG _ => step_value (.pointer (some ⟨w.heap.size, 0, none⟩)) (w' := wx) (by simp only [fillIn, Act.put, List.setIfInBounds_toArray, List.set_cons_zero, List.set_cons_succ]; go_simp) rfl (Below.refl _ _)
        · intro xs wx hG hF
          have f1 : xs 0 = .pointer (some ⟨w.heap.size, 0, none⟩) := hF.1
          obtain ⟨c0, c1, c2, c3, c4⟩ := wide_cells (hG.rows _ (List.mem_cons_self ..))
          exact step_value (.bool s) (w' := wx) (by simp only [fillIn, Act.put, List.setIfInBounds_toArray, List.set_cons_zero, List.set_cons_succ, f1]; go_simp) rfl (Below.refl _ _)
        · exact fun xs wx hG _ => step_value (.pointer (some ⟨w.heap.size + 1, 0, none⟩)) (w' := wx) (by simp only [fillIn, Act.put, List.setIfInBounds_toArray, List.set_cons_zero, List.set_cons_succ]; go_simp) rfl (Below.refl _ _)
        · intro xs wx hG hF
          have f1 : xs 2 = .pointer (some ⟨w.heap.size + 1, 0, none⟩) := hF.1
          obtain ⟨c0, c1, c2, c3, c4⟩ := wide_cells (hG.rows _ (List.mem_cons_of_mem _ (List.mem_cons_self ..)))
          exact step_value (.bool t) (w' := wx) (by simp only [fillIn, Act.put, List.setIfInBounds_toArray, List.set_cons_zero, List.set_cons_succ, f1]; go_simp) rfl (Below.refl _ _)
        · intro xs wx hG hF
          have f1 : xs 1 = (.bool s) := hF.1
          have f3 : xs 3 = (.bool t) := hF.2.1
          exact step_value (.bool (s != t)) (w' := wx) (by simp only [fillIn, Act.put, List.setIfInBounds_toArray, List.set_cons_zero, List.set_cons_succ, f1, f3]; go_simp) rfl (Below.refl _ _)
        · exact fun xs wx hG _ => step_row 48 (.tmp 9) rfl (L) (eval_old (by decide)) 48 (halL (n / m + 1)) _ (hG.rows _ (List.mem_cons_of_mem _ (List.mem_cons_of_mem _ (List.mem_cons_self ..)))) under_arr8 rfl info_arr8 rfl
        · exact fun xs wx hG hF => step_call2 42 (.tmp 48) (.tmp 49) #[4, 48] (.bool (s != t)) (.agg (halL (n / m + 1))) rfl ((eval_new (i := 4) (by decide) rfl (by simp)).trans hF.1) ((eval_new (i := 5) (by decide) rfl (by simp)).trans hF.2.1) (by kernel_rfl) (rjoin_any (s != t) (n / m + 1) wx BQ.out) (fun e w' h => ⟨_, h.1, rfl, h.2⟩)
        · exact fun xs wx hG _ => step_value (.pointer (some ⟨w.heap.size + 1, 0, none⟩)) (w' := wx) (by simp only [fillIn, Act.put, List.setIfInBounds_toArray, List.set_cons_zero, List.set_cons_succ]; go_simp) rfl (Below.refl _ _)
        · intro xs wx hG hF
          have f1 : xs 7 = .pointer (some ⟨w.heap.size + 1, 0, none⟩) := hF.1
          obtain ⟨c0, c1, c2, c3, c4⟩ := wide_cells (hG.rows _ (List.mem_cons_of_mem _ (List.mem_cons_self ..)))
          exact step_value (.bool t) (w' := wx) (by simp only [fillIn, Act.put, List.setIfInBounds_toArray, List.set_cons_zero, List.set_cons_succ, f1]; go_simp) rfl (Below.refl _ _)
        · exact fun xs wx hG _ => step_row 48 (.tmp 10) rfl (L + 1) (eval_old (by decide)) 48 (halL (m - n % m)) _ (hG.rows _ (List.mem_cons_of_mem _ (List.mem_cons_of_mem _ (List.mem_cons_of_mem _ (List.mem_cons_self ..))))) under_arr8 rfl info_arr8 rfl
        · exact fun xs wx hG hF => step_call2 42 (.tmp 52) (.tmp 53) #[4, 48] (.bool t) (.agg (halL (m - n % m))) rfl ((eval_new (i := 8) (by decide) rfl (by simp)).trans hF.1) ((eval_new (i := 9) (by decide) rfl (by simp)).trans hF.2.1) (by kernel_rfl) (rjoin_any t (m - n % m) wx BR.out) (fun e w' h => ⟨_, h.1, rfl, h.2⟩)
      intro xs wx hG hA hF
      obtain ⟨f0, f1, f2, f3, f4, f5, f6, f7, f8, f9, f10, _⟩ := hF
      have f0 : xs 0 = (.pointer (some ⟨w.heap.size, 0, none⟩)) := f0
      have f1 : xs 1 = (.bool s) := f1
      have f2 : xs 2 = (.pointer (some ⟨w.heap.size + 1, 0, none⟩)) := f2
      have f3 : xs 3 = (.bool t) := f3
      have f4 : xs 4 = (.bool (s != t)) := f4
      have f5 : xs 5 = (.agg (halL (n / m + 1))) := f5
      have f6 : xs 6 = (.agg (widL (sg (s != t) (n / m + 1)) (n / m + 1))) := f6
      have f7 : xs 7 = (.pointer (some ⟨w.heap.size + 1, 0, none⟩)) := f7
      have f8 : xs 8 = (.bool t) := f8
      have f9 : xs 9 = (.agg (halL (m - n % m))) := f9
      have f10 : xs 10 = (.agg (widL (sg t (m - n % m)) (m - n % m))) := f10
      simp only [fillIn, Act.put, List.setIfInBounds_toArray, List.set_cons_zero, List.set_cons_succ, f0, f1, f2, f3, f4, f5, f6, f7, f8, f9, f10, List.drop_succ_cons, List.drop_zero, List.length_cons, List.length_nil]
      obtain ⟨kk, kres, kW⟩ := hG
      have k5 := kk _ (List.mem_cons_of_mem _ (List.mem_cons_of_mem _ (List.mem_cons_of_mem _ (List.mem_cons_of_mem _ (List.mem_cons_self ..)))))
      clear kk
      rcases kres with k4 | k4
      · refine wpList_store_row rfl 25 (.tmp 4) (.tmp 50) rfl (w.heap.size + 1 + 1) (widL (sg (s != t) (n / m + 1)) (n / m + 1)) rfl rfl 25 _ k4 info_wide rfl (widF_ones _ (wd (n / m + 1))) ?_
        refine wpList_store_row rfl 25 (.tmp 5) (.tmp 54) rfl (w.heap.size + 1 + 1 + 1) (widL (sg t (m - n % m)) (m - n % m)) rfl rfl 25 _ (Blk.rowOther k5 (by omega) _) info_wide rfl (widF_ones _ (wd (m - n % m))) ?_
        have K4 := Lib.hid ((Blk.row k4 (widL (sg (s != t) (n / m + 1)) (n / m + 1))).rowOther (k := w.heap.size + 1 + 1 + 1) (by omega) (widL (sg t (m - n % m)) (m - n % m)))
        have K5 := Lib.hid ((Blk.rowOther (k := w.heap.size + 1 + 1) k5 (by omega) (widL (sg (s != t) (n / m + 1)) (n / m + 1))).row (widL (sg t (m - n % m)) (m - n % m)))
        have KW := below_row (below_row kW (g := w.heap.size + 1 + 1) (by omega) (widL (sg (s != t) (n / m + 1)) (n / m + 1))) (g := w.heap.size + 1 + 1 + 1) (by omega) (widL (sg t (m - n % m)) (m - n % m))
        clear k4 k5 kW
        generalize World.setRow _ _ _ = W3 at K4 K5 KW ⊢
        go_wp2
        exact gives_rows_tmp rfl (w.heap.size + 1 + 1) (w.heap.size + 1 + 1 + 1) 25 25 (widL (sg (s != t) (n / m + 1)) (n / m + 1)) (widL (sg t (m - n % m)) (m - n % m)) _ _ (.int .i64 0) rfl rfl rfl K4.out K5.out under_wide rfl info_wide under_wide rfl info_wide rfl ⟨by rw [HV.out], KW⟩
      · refine wpList_store_row rfl 25 (.tmp 4) (.tmp 50) rfl (w.heap.size + 1 + 1) (widL (sg (s != t) (n / m + 1)) (n / m + 1)) rfl rfl 25 _ k4 info_wide rfl (widF_ones _ (wd (n / m + 1))) ?_
        refine wpList_store_row rfl 25 (.tmp 5) (.tmp 54) rfl (w.heap.size + 1 + 1 + 1) (widL (sg t (m - n % m)) (m - n % m)) rfl rfl 25 _ (Blk.rowOther k5 (by omega) _) info_wide rfl (widF_ones _ (wd (m - n % m))) ?_
        have K4 := Lib.hid ((Blk.row k4 (widL (sg (s != t) (n / m + 1)) (n / m + 1))).rowOther (k := w.heap.size + 1 + 1 + 1) (by omega) (widL (sg t (m - n % m)) (m - n % m)))
        have K5 := Lib.hid ((Blk.rowOther (k := w.heap.size + 1 + 1) k5 (by omega) (widL (sg (s != t) (n / m + 1)) (n / m + 1))).row (widL (sg t (m - n % m)) (m - n % m)))
        have KW := below_row (below_row kW (g := w.heap.size + 1 + 1) (by omega) (widL (sg (s != t) (n / m + 1)) (n / m + 1))) (g := w.heap.size + 1 + 1 + 1) (by omega) (widL (sg t (m - n % m)) (m - n % m))
        clear k4 k5 kW
        generalize World.setRow _ _ _ = W3 at K4 K5 KW ⊢
        go_wp2
        exact gives_rows_tmp rfl (w.heap.size + 1 + 1) (w.heap.size + 1 + 1 + 1) 25 25 (widL (sg (s != t) (n / m + 1)) (n / m + 1)) (widL (sg t (m - n % m)) (m - n % m)) _ _ (.int .i64 0) rfl rfl rfl K4.out K5.out under_wide rfl info_wide under_wide rfl info_wide rfl ⟨by rw [HV.out], KW⟩
    · have hy : (s != t) = false ∨ n % m = 0 := by
        cases h : (s != t)
        · exact .inl rfl
        · refine .inr (Classical.byContradiction fun h2 => hx ⟨h, h2⟩)
      have HV := Lib.hid (divV_plain h0 hy)
      have BQ := Lib.hid hq
      have BR := Lib.hid hr
      cases hst : (s != t)
      · have hse : s = t := by cases s <;> cases t <;> simp_all
        subst hse
        clear hst hn hm h0 hq hr hx hy hzr
        go_wp2_with (first | (refine wpList_load_row rfl 48 (.tmp 7) rfl gx rfl 48 _ (0, 0) _ kX.out under_arr8 rfl info_arr8 ?_) | (refine wpList_load_row rfl 48 (.tmp 8) rfl gy rfl 48 _ (0, 0) _ kY.out under_arr8 rfl info_arr8 ?_))
        refine (rdivide_any n m _ HN.out HM.out H0.out).mono ?_
        rintro e w1 ⟨rfl, hb⟩
        have kA := Lib.hid (kA.out.below hb)
        have kB := Lib.hid (kB.out.below hb)
        have k4 := Lib.hid (k4.out.below hb)
        have k5 := Lib.hid (k5.out.below hb)
        have kX := Lib.hid (kX.out.below hb)
        have kY := Lib.hid (kY.out.below hb)
        have kW := kW.trans (hb.mono kW.size)
        clear hb
        have lR := k5.out.lt
        have lX := kX.out.lt
        have lY := kY.out.lt
        have kq0 : Hid (Blk ((w1.alloc (.cells hal0 48)).alloc (.cells hal0 48)) w1.heap.size 48 hal0) := (Blk.new _ _ _).old _
        have kr0 : Hid (Blk (((w1.alloc (.cells hal0 48)).alloc (.cells hal0 48)).setRow w1.heap.size (halL (n / m))) (w1.heap.size + 1) 48 hal0) := (Blk.newAt (by simp) _ _).rowOther (by omega) _
        have kA := Lib.hid ((((kA.out.old (.cells hal0 48)).old (.cells hal0 48)).rowOther (k := w1.heap.size) (by omega) (halL (n / m))).rowOther (k := w1.heap.size + 1) (by omega) (halL (n % m)))
        have kB := Lib.hid ((((kB.out.old (.cells hal0 48)).old (.cells hal0 48)).rowOther (k := w1.heap.size) (by omega) (halL (n / m))).rowOther (k := w1.heap.size + 1) (by omega) (halL (n % m)))
        have k4 := Lib.hid ((((k4.out.old (.cells hal0 48)).old (.cells hal0 48)).rowOther (k := w1.heap.size) (by omega) (halL (n / m))).rowOther (k := w1.heap.size + 1) (by omega) (halL (n % m)))
        have k5 := Lib.hid ((((k5.out.old (.cells hal0 48)).old (.cells hal0 48)).rowOther (k := w1.heap.size) (by omega) (halL (n / m))).rowOther (k := w1.heap.size + 1) (by omega) (halL (n % m)))
        have kX := Lib.hid ((((kX.out.old (.cells hal0 48)).old (.cells hal0 48)).rowOther (k := w1.heap.size) (by omega) (halL (n / m))).rowOther (k := w1.heap.size + 1) (by omega) (halL (n % m)))
        have kY := Lib.hid ((((kY.out.old (.cells hal0 48)).old (.cells hal0 48)).rowOther (k := w1.heap.size) (by omega) (halL (n / m))).rowOther (k := w1.heap.size + 1) (by omega) (halL (n % m)))
        have kQ := Lib.hid ((kq0.out.row (halL (n / m))).rowOther (k := w1.heap.size + 1) (by omega) (halL (n % m)))
        have kR := Lib.hid (kr0.out.row (halL (n % m)))
        have kW := below_row (below_row ((kW.alloc (by omega) (.cells hal0 48)).alloc (by simp; omega) (.cells hal0 48)) (g := w1.heap.size) (by omega) (halL (n / m))) (g := w1.heap.size + 1) (by omega) (halL (n % m))
        have c0 : ((((w1.alloc (.cells hal0 48)).alloc (.cells hal0 48)).setRow w1.heap.size (halL (n / m))).setRow (w1.heap.size + 1) (halL (n % m))).cell? ⟨w.heap.size, 0, none⟩ = some (.bool s) := kA.out.cell 0
        have c1 : ((((w1.alloc (.cells hal0 48)).alloc (.cells hal0 48)).setRow w1.heap.size (halL (n / m))).setRow (w1.heap.size + 1) (halL (n % m))).cell? ⟨w.heap.size + 1, 0, none⟩ = some (.bool s) := kB.out.cell 0
        go_wp2_with (first | (refine wpList_store_row rfl 48 (.tmp 9) (.tmp 23) rfl w1.heap.size (halL (n / m)) rfl rfl 48 _ kq0.out info_arr8 rfl (rowF_ones 8 (hw (n / m))) ?_) | (refine wpList_store_row rfl 48 (.tmp 10) (.tmp 24) rfl (w1.heap.size + 1) (halL (n % m)) rfl rfl 48 _ kr0.out info_arr8 rfl (rowF_ones 8 (hw (n % m))) ?_))
        clear c0 c1
        obtain ⟨L, hL⟩ : ∃ L, L = w1.heap.size := ⟨_, rfl⟩
        rw [← hL] at kA kB k4 k5 kX kY kQ kR kW lR lX lY ⊢
        clear hL kq0 kr0
        generalize World.setRow _ _ _ = W4 at kA kB k4 k5 kX kY kQ kR kW ⊢
        clear kX kY lX lY
        have hG : Keep [(w.heap.size, 25, widL s n), (w.heap.size + 1, 25, widL s m), (L, 48, halL (n / m)), (L + 1, 48, halL (n % m)), (w.heap.size + 1 + 1 + 1, 25, wid0)] (w.heap.size + 1 + 1) 25 wid0 (widL (sg (s != s) (n / m)) (n / m)) w W4.drew := by
          refine ⟨?_, .inl k4.out.drew, kW.drew⟩
          intro k hk
          simp only [List.mem_cons, List.mem_nil_iff, or_false] at hk
          rcases hk with rfl | rfl | rfl | rfl | rfl
          · exact kA.out.drew
          · exact kB.out.drew
          · exact kQ.out.drew
          · exact kR.out.drew
          · exact k5.out.drew
        refine region_kit (ds := [some 44, some 45, some 46, some 47, some 48, some 49, some 50, some 51, some 52, some 53, some 54]) [((· == w.heap.size + 1 + 1), 25, (widL (sg (s != s) (n / m)) (n / m)))] [[], [0], [], [2], [1, 3], [], [4, 5], [], [7], [], [8, 9]] (fun i => false) [.is _ 0 (.pointer (some ⟨w.heap.size, 0, none⟩)), .is _ 1 (.bool s), .is _ 2 (.pointer (some ⟨w.heap.size + 1, 0, none⟩)), .is _ 3 (.bool s), .is _ 4 (.bool (s != s)), .is _ 5 (.agg (halL (n / m))), .is _ 6 (.agg (widL (sg (s != s) (n / m)) (n / m))), .is _ 7 (.pointer (some ⟨w.heap.size + 1, 0, none⟩)), .is _ 8 (.bool s), .is _ 9 (.agg (halL (n % m))), .is _ 10 (.agg (widL (sg s (n % m)) (n % m)))] (Keep [(w.heap.size, 25, (widL s n)), (w.heap.size + 1, 25, (widL s m)), (L, 48, (halL (n / m))), (L + 1, 48, (halL (n % m))), (w.heap.size + 1 + 1 + 1, 25, wid0)] (w.heap.size + 1 + 1) 25 wid0 (widL (sg (s != s) (n / m)) (n / m)) w) follows_mixed (by kernel_rfl) (by kernel_rfl) (by kernel_rfl) (fun _ _ h he => h.ext he (by intro r hr k hk; simp only [List.mem_cons, List.mem_nil_iff, or_false] at hr hk; rcases hr with rfl <;> rcases hk with rfl | rfl | rfl | rfl | rfl <;> simp <;> omega) (by intro r hr hx; simp only [List.mem_cons, List.mem_nil_iff, or_false] at hr; rcases hr with rfl <;> simp at hx ⊢ <;> omega) (by intro r hr k hk; simp only [List.mem_cons, List.mem_nil_iff, or_false] at hr; rcases hr with rfl <;> simp <;> omega)) hG ?_ ?_
        · refine steps_cons ?_ (steps_cons ?_ (steps_cons ?_ (steps_cons ?_ (steps_cons ?_ (steps_cons ?_ (steps_cons ?_ (steps_cons ?_ (steps_cons ?_ (steps_cons ?_ (steps_cons ?_ (steps_nil)))))))))))
          · exact fun xs wx hG _ => step_value (.pointer (some ⟨w.heap.size, 0, none⟩)) (w' := wx) (by simp only [fillIn, Act.put, List.setIfInBounds_toArray, List.set_cons_zero, List.set_cons_succ]; go_simp) rfl (Below.refl _ _)
          · intro xs wx hG hF
            have f1 : xs 0 = .pointer (some ⟨w.heap.size, 0, none⟩) := hF.1
            obtain ⟨c0, c1, c2, c3, c4⟩ := wide_cells (hG.rows _ (List.mem_cons_self ..))
            exact step_value (.bool s) (w' := wx) (by simp only [fillIn, Act.put, List.setIfInBounds_toArray, List.set_cons_zero, List.set_cons_succ, f1]; go_simp) rfl (Below.refl _ _)
          · exact fun xs wx hG _ => step_value (.pointer (some ⟨w.heap.size + 1, 0, none⟩)) (w' := wx) (by simp only [fillIn, Act.put, List.setIfInBounds_toArray, List.set_cons_zero, List.set_cons_succ]; go_simp) rfl (Below.refl _ _)
          · intro xs wx hG hF
            have f1 : xs 2 = .pointer (some ⟨w.heap.size + 1, 0, none⟩) := hF.1
            obtain ⟨c0, c1, c2, c3, c4⟩ := wide_cells (hG.rows _ (List.mem_cons_of_mem _ (List.mem_cons_self ..)))
            exact step_value (.bool s) (w' := wx) (by simp only [fillIn, Act.put, List.setIfInBounds_toArray, List.set_cons_zero, List.set_cons_succ, f1]; go_simp) rfl (Below.refl _ _)
          · intro xs wx hG hF
            have f1 : xs 1 = (.bool s) := hF.1
            have f3 : xs 3 = (.bool s) := hF.2.1
            exact step_value (.bool (s != s)) (w' := wx) (by simp only [fillIn, Act.put, List.setIfInBounds_toArray, List.set_cons_zero, List.set_cons_succ, f1, f3]; go_simp) rfl (Below.refl _ _)
          · exact fun xs wx hG _ => step_row 48 (.tmp 9) rfl (L) (eval_old (by decide)) 48 (halL (n / m)) _ (hG.rows _ (List.mem_cons_of_mem _ (List.mem_cons_of_mem _ (List.mem_cons_self ..)))) under_arr8 rfl info_arr8 rfl
          · exact fun xs wx hG hF => step_call2 42 (.tmp 48) (.tmp 49) #[4, 48] (.bool (s != s)) (.agg (halL (n / m))) rfl ((eval_new (i := 4) (by decide) rfl (by simp)).trans hF.1) ((eval_new (i := 5) (by decide) rfl (by simp)).trans hF.2.1) (by kernel_rfl) (rjoin_any (s != s) (n / m) wx BQ.out) (fun e w' h => ⟨_, h.1, rfl, h.2⟩)
          · exact fun xs wx hG _ => step_value (.pointer (some ⟨w.heap.size + 1, 0, none⟩)) (w' := wx) (by simp only [fillIn, Act.put, List.setIfInBounds_toArray, List.set_cons_zero, List.set_cons_succ]; go_simp) rfl (Below.refl _ _)
          · intro xs wx hG hF
            have f1 : xs 7 = .pointer (some ⟨w.heap.size + 1, 0, none⟩) := hF.1
            obtain ⟨c0, c1, c2, c3, c4⟩ := wide_cells (hG.rows _ (List.mem_cons_of_mem _ (List.mem_cons_self ..)))
            exact step_value (.bool s) (w' := wx) (by simp only [fillIn, Act.put, List.setIfInBounds_toArray, List.set_cons_zero, List.set_cons_succ, f1]; go_simp) rfl (Below.refl _ _)
          · exact fun xs wx hG _ => step_row 48 (.tmp 10) rfl (L + 1) (eval_old (by decide)) 48 (halL (n % m)) _ (hG.rows _ (List.mem_cons_of_mem _ (List.mem_cons_of_mem _ (List.mem_cons_of_mem _ (List.mem_cons_self ..))))) under_arr8 rfl info_arr8 rfl
          · exact fun xs wx hG hF => step_call2 42 (.tmp 52) (.tmp 53) #[4, 48] (.bool s) (.agg (halL (n % m))) rfl ((eval_new (i := 8) (by decide) rfl (by simp)).trans hF.1) ((eval_new (i := 9) (by decide) rfl (by simp)).trans hF.2.1) (by kernel_rfl) (rjoin_any s (n % m) wx BR.out) (fun e w' h => ⟨_, h.1, rfl, h.2⟩)
        intro xs wx hG hA hF
        obtain ⟨f0, f1, f2, f3, f4, f5, f6, f7, f8, f9, f10, _⟩ := hF
        have f0 : xs 0 = (.pointer (some ⟨w.heap.size, 0, none⟩)) := f0
        have f1 : xs 1 = (.bool s) := f1
        have f2 : xs 2 = (.pointer (some ⟨w.heap.size + 1, 0, none⟩)) := f2
        have f3 : xs 3 = (.bool s) := f3
        have f4 : xs 4 = (.bool (s != s)) := f4
        have f5 : xs 5 = (.agg (halL (n / m))) := f5
        have f6 : xs 6 = (.agg (widL (sg (s != s) (n / m)) (n / m))) := f6
        have f7 : xs 7 = (.pointer (some ⟨w.heap.size + 1, 0, none⟩)) := f7
        have f8 : xs 8 = (.bool s) := f8
        have f9 : xs 9 = (.agg (halL (n % m))) := f9
        have f10 : xs 10 = (.agg (widL (sg s (n % m)) (n % m))) := f10
        simp only [fillIn, Act.put, List.setIfInBounds_toArray, List.set_cons_zero, List.set_cons_succ, f0, f1, f2, f3, f4, f5, f6, f7, f8, f9, f10, List.drop_succ_cons, List.drop_zero, List.length_cons, List.length_nil]
        obtain ⟨kk, kres, kW⟩ := hG
        have k5 := kk _ (List.mem_cons_of_mem _ (List.mem_cons_of_mem _ (List.mem_cons_of_mem _ (List.mem_cons_of_mem _ (List.mem_cons_self ..)))))
        clear kk
        rcases kres with k4 | k4
        · refine wpList_store_row rfl 25 (.tmp 4) (.tmp 50) rfl (w.heap.size + 1 + 1) (widL (sg (s != s) (n / m)) (n / m)) rfl rfl 25 _ k4 info_wide rfl (widF_ones _ (wd (n / m))) ?_
          refine wpList_store_row rfl 25 (.tmp 5) (.tmp 54) rfl (w.heap.size + 1 + 1 + 1) (widL (sg s (n % m)) (n % m)) rfl rfl 25 _ (Blk.rowOther k5 (by omega) _) info_wide rfl (widF_ones _ (wd (n % m))) ?_
          have K4 := Lib.hid ((Blk.row k4 (widL (sg (s != s) (n / m)) (n / m))).rowOther (k := w.heap.size + 1 + 1 + 1) (by omega) (widL (sg s (n % m)) (n % m)))
          have K5 := Lib.hid ((Blk.rowOther (k := w.heap.size + 1 + 1) k5 (by omega) (widL (sg (s != s) (n / m)) (n / m))).row (widL (sg s (n % m)) (n % m)))
          have KW := below_row (below_row kW (g := w.heap.size + 1 + 1) (by omega) (widL (sg (s != s) (n / m)) (n / m))) (g := w.heap.size + 1 + 1 + 1) (by omega) (widL (sg s (n % m)) (n % m))
          clear k4 k5 kW
          generalize World.setRow _ _ _ = W3 at K4 K5 KW ⊢
          go_wp2
          exact gives_rows_tmp rfl (w.heap.size + 1 + 1) (w.heap.size + 1 + 1 + 1) 25 25 (widL (sg (s != s) (n / m)) (n / m)) (widL (sg s (n % m)) (n % m)) _ _ (.int .i64 0) rfl rfl rfl K4.out K5.out under_wide rfl info_wide under_wide rfl info_wide rfl ⟨by rw [HV.out], KW⟩
        · refine wpList_store_row rfl 25 (.tmp 4) (.tmp 50) rfl (w.heap.size + 1 + 1) (widL (sg (s != s) (n / m)) (n / m)) rfl rfl 25 _ k4 info_wide rfl (widF_ones _ (wd (n / m))) ?_
          refine wpList_store_row rfl 25 (.tmp 5) (.tmp 54) rfl (w.heap.size + 1 + 1 + 1) (widL (sg s (n % m)) (n % m)) rfl rfl 25 _ (Blk.rowOther k5 (by omega) _) info_wide rfl (widF_ones _ (wd (n % m))) ?_
          have K4 := Lib.hid ((Blk.row k4 (widL (sg (s != s) (n / m)) (n / m))).rowOther (k := w.heap.size + 1 + 1 + 1) (by omega) (widL (sg s (n % m)) (n % m)))
          have K5 := Lib.hid ((Blk.rowOther (k := w.heap.size + 1 + 1) k5 (by omega) (widL (sg (s != s) (n / m)) (n / m))).row (widL (sg s (n % m)) (n % m)))
          have KW := below_row (below_row kW (g := w.heap.size + 1 + 1) (by omega) (widL (sg (s != s) (n / m)) (n / m))) (g := w.heap.size + 1 + 1 + 1) (by omega) (widL (sg s (n % m)) (n % m))
          clear k4 k5 kW
          generalize World.setRow _ _ _ = W3 at K4 K5 KW ⊢
          go_wp2
          exact gives_rows_tmp rfl (w.heap.size + 1 + 1) (w.heap.size + 1 + 1 + 1) 25 25 (widL (sg (s != s) (n / m)) (n / m)) (widL (sg s (n % m)) (n % m)) _ _ (.int .i64 0) rfl rfl rfl K4.out K5.out under_wide rfl info_wide under_wide rfl info_wide rfl ⟨by rw [HV.out], KW⟩
      · have hr0 : n % m = 0 := by
          rcases hy with h | h
          · rw [hst] at h; simp at h
          · exact h
        rw [show (n % m == 0) = true by simp [hr0]] at hzr
        have hne : ¬ s = t := by intro e; rw [e] at hst; simp at hst
        have hne2 : (s == t) = false := by simpa using hne
        have HZ := Lib.hid hzr
        clear hn hm h0 hq hr hx hy hr0 hzr
        go_wp2_with (first | (refine wpList_load_row rfl 48 (.tmp 7) rfl gx rfl 48 _ (0, 0) _ kX.out under_arr8 rfl info_arr8 ?_) | (refine wpList_load_row rfl 48 (.tmp 8) rfl gy rfl 48 _ (0, 0) _ kY.out under_arr8 rfl info_arr8 ?_))
        refine (rdivide_any n m _ HN.out HM.out H0.out).mono ?_
        rintro e w1 ⟨rfl, hb⟩
        have kA := Lib.hid (kA.out.below hb)
        have kB := Lib.hid (kB.out.below hb)
        have k4 := Lib.hid (k4.out.below hb)
        have k5 := Lib.hid (k5.out.below hb)
        have kX := Lib.hid (kX.out.below hb)
        have kY := Lib.hid (kY.out.below hb)
        have kW := kW.trans (hb.mono kW.size)
        clear hb
        have lR := k5.out.lt
        have lX := kX.out.lt
        have lY := kY.out.lt
        have kq0 : Hid (Blk ((w1.alloc (.cells hal0 48)).alloc (.cells hal0 48)) w1.heap.size 48 hal0) := (Blk.new _ _ _).old _
        have kr0 : Hid (Blk (((w1.alloc (.cells hal0 48)).alloc (.cells hal0 48)).setRow w1.heap.size (halL (n / m))) (w1.heap.size + 1) 48 hal0) := (Blk.newAt (by simp) _ _).rowOther (by omega) _
        have kA := Lib.hid ((((kA.out.old (.cells hal0 48)).old (.cells hal0 48)).rowOther (k := w1.heap.size) (by omega) (halL (n / m))).rowOther (k := w1.heap.size + 1) (by omega) (halL (n % m)))
        have kB := Lib.hid ((((kB.out.old (.cells hal0 48)).old (.cells hal0 48)).rowOther (k := w1.heap.size) (by omega) (halL (n / m))).rowOther (k := w1.heap.size + 1) (by omega) (halL (n % m)))
        have k4 := Lib.hid ((((k4.out.old (.cells hal0 48)).old (.cells hal0 48)).rowOther (k := w1.heap.size) (by omega) (halL (n / m))).rowOther (k := w1.heap.size + 1) (by omega) (halL (n % m)))
        have k5 := Lib.hid ((((k5.out.old (.cells hal0 48)).old (.cells hal0 48)).rowOther (k := w1.heap.size) (by omega) (halL (n / m))).rowOther (k := w1.heap.size + 1) (by omega) (halL (n % m)))
        have kX := Lib.hid ((((kX.out.old (.cells hal0 48)).old (.cells hal0 48)).rowOther (k := w1.heap.size) (by omega) (halL (n / m))).rowOther (k := w1.heap.size + 1) (by omega) (halL (n % m)))
        have kY := Lib.hid ((((kY.out.old (.cells hal0 48)).old (.cells hal0 48)).rowOther (k := w1.heap.size) (by omega) (halL (n / m))).rowOther (k := w1.heap.size + 1) (by omega) (halL (n % m)))
        have kQ := Lib.hid ((kq0.out.row (halL (n / m))).rowOther (k := w1.heap.size + 1) (by omega) (halL (n % m)))
        have kR := Lib.hid (kr0.out.row (halL (n % m)))
        have kW := below_row (below_row ((kW.alloc (by omega) (.cells hal0 48)).alloc (by simp; omega) (.cells hal0 48)) (g := w1.heap.size) (by omega) (halL (n / m))) (g := w1.heap.size + 1) (by omega) (halL (n % m))
        have c0 : ((((w1.alloc (.cells hal0 48)).alloc (.cells hal0 48)).setRow w1.heap.size (halL (n / m))).setRow (w1.heap.size + 1) (halL (n % m))).cell? ⟨w.heap.size, 0, none⟩ = some (.bool s) := kA.out.cell 0
        have c1 : ((((w1.alloc (.cells hal0 48)).alloc (.cells hal0 48)).setRow w1.heap.size (halL (n / m))).setRow (w1.heap.size + 1) (halL (n % m))).cell? ⟨w.heap.size + 1, 0, none⟩ = some (.bool t) := kB.out.cell 0
        have d0 : ((((w1.alloc (.cells hal0 48)).alloc (.cells hal0 48)).setRow w1.heap.size (halL (n / m))).setRow (w1.heap.size + 1) (halL (n % m))).cell? ⟨w1.heap.size + 1, 0, none⟩ = some (.int .u64 ((hw (n % m) 0 : Nat) : Int)) := kR.out.cell 0
        have d1 : ((((w1.alloc (.cells hal0 48)).alloc (.cells hal0 48)).setRow w1.heap.size (halL (n / m))).setRow (w1.heap.size + 1) (halL (n % m))).cell? ⟨w1.heap.size + 1, 1, none⟩ = some (.int .u64 ((hw (n % m) 1 : Nat) : Int)) := kR.out.cell 1
        have d2 : ((((w1.alloc (.cells hal0 48)).alloc (.cells hal0 48)).setRow w1.heap.size (halL (n / m))).setRow (w1.heap.size + 1) (halL (n % m))).cell? ⟨w1.heap.size + 1, 2, none⟩ = some (.int .u64 ((hw (n % m) 2 : Nat) : Int)) := kR.out.cell 2
        have d3 : ((((w1.alloc (.cells hal0 48)).alloc (.cells hal0 48)).setRow w1.heap.size (halL (n / m))).setRow (w1.heap.size + 1) (halL (n % m))).cell? ⟨w1.heap.size + 1, 3, none⟩ = some (.int .u64 ((hw (n % m) 3 : Nat) : Int)) := kR.out.cell 3
        have d4 : ((((w1.alloc (.cells hal0 48)).alloc (.cells hal0 48)).setRow w1.heap.size (halL (n / m))).setRow (w1.heap.size + 1) (halL (n % m))).cell? ⟨w1.heap.size + 1, 4, none⟩ = some (.int .u64 ((hw (n % m) 4 : Nat) : Int)) := kR.out.cell 4
        have d5 : ((((w1.alloc (.cells hal0 48)).alloc (.cells hal0 48)).setRow w1.heap.size (halL (n / m))).setRow (w1.heap.size + 1) (halL (n % m))).cell? ⟨w1.heap.size + 1, 5, none⟩ = some (.int .u64 ((hw (n % m) 5 : Nat) : Int)) := kR.out.cell 5
        have d6 : ((((w1.alloc (.cells hal0 48)).alloc (.cells hal0 48)).setRow w1.heap.size (halL (n / m))).setRow (w1.heap.size + 1) (halL (n % m))).cell? ⟨w1.heap.size + 1, 6, none⟩ = some (.int .u64 ((hw (n % m) 6 : Nat) : Int)) := kR.out.cell 6
        have d7 : ((((w1.alloc (.cells hal0 48)).alloc (.cells hal0 48)).setRow w1.heap.size (halL (n / m))).setRow (w1.heap.size + 1) (halL (n % m))).cell? ⟨w1.heap.size + 1, 7, none⟩ = some (.int .u64 ((hw (n % m) 7 : Nat) : Int)) := kR.out.cell 7
        go_wp2_with (first | (refine wpList_store_row rfl 48 (.tmp 9) (.tmp 23) rfl w1.heap.size (halL (n / m)) rfl rfl 48 _ kq0.out info_arr8 rfl (rowF_ones 8 (hw (n / m))) ?_) | (refine wpList_store_row rfl 48 (.tmp 10) (.tmp 24) rfl (w1.heap.size + 1) (halL (n % m)) rfl rfl 48 _ kr0.out info_arr8 rfl (rowF_ones 8 (hw (n % m))) ?_))
        clear c0 c1 d0 d1 d2 d3 d4 d5 d6 d7
        obtain ⟨L, hL⟩ : ∃ L, L = w1.heap.size := ⟨_, rfl⟩
        rw [← hL] at kA kB k4 k5 kX kY kQ kR kW lR lX lY ⊢
        clear hL kq0 kr0
        generalize World.setRow _ _ _ = W4 at kA kB k4 k5 kX kY kQ kR kW ⊢
        refine (HZ.out _).mono ?_
        rintro e w2 ⟨rfl, hb⟩
        have kA := Lib.hid (kA.out.below hb)
        have kB := Lib.hid (kB.out.below hb)
        have k4 := Lib.hid (k4.out.below hb)
        have k5 := Lib.hid (k5.out.below hb)
        have kX := Lib.hid (kX.out.below hb)
        have kY := Lib.hid (kY.out.below hb)
        have kQ := Lib.hid (kQ.out.below hb)
        have kR := Lib.hid (kR.out.below hb)
        have kW := kW.trans (hb.mono kW.size)
        clear hb
        clear kX kY lX lY
        go_wp2_with fail
        have hG : Keep [(w.heap.size, 25, widL s n), (w.heap.size + 1, 25, widL t m), (L, 48, halL (n / m)), (L + 1, 48, halL (n % m)), (w.heap.size + 1 + 1 + 1, 25, wid0)] (w.heap.size + 1 + 1) 25 wid0 (widL (sg (s != t) (n / m)) (n / m)) w w2.drew := by
          refine ⟨?_, .inl k4.out.drew, kW.drew⟩
          intro k hk
          simp only [List.mem_cons, List.mem_nil_iff, or_false] at hk
          rcases hk with rfl | rfl | rfl | rfl | rfl
          · exact kA.out.drew
          · exact kB.out.drew
          · exact kQ.out.drew
          · exact kR.out.drew
          · exact k5.out.drew
        refine region_kit (ds := [some 44, some 45, some 46, some 47, some 48, some 49, some 50, some 51, some 52, some 53, some 54]) [((· == w.heap.size + 1 + 1), 25, (widL (sg (s != t) (n / m)) (n / m)))] [[], [0], [], [2], [1, 3], [], [4, 5], [], [7], [], [8, 9]] (fun i => false) [.is _ 0 (.pointer (some ⟨w.heap.size, 0, none⟩)), .is _ 1 (.bool s), .is _ 2 (.pointer (some ⟨w.heap.size + 1, 0, none⟩)), .is _ 3 (.bool t), .is _ 4 (.bool (s != t)), .is _ 5 (.agg (halL (n / m))), .is _ 6 (.agg (widL (sg (s != t) (n / m)) (n / m))), .is _ 7 (.pointer (some ⟨w.heap.size + 1, 0, none⟩)), .is _ 8 (.bool t), .is _ 9 (.agg (halL (n % m))), .is _ 10 (.agg (widL (sg t (n % m)) (n % m)))] (Keep [(w.heap.size, 25, (widL s n)), (w.heap.size + 1, 25, (widL t m)), (L, 48, (halL (n / m))), (L + 1, 48, (halL (n % m))), (w.heap.size + 1 + 1 + 1, 25, wid0)] (w.heap.size + 1 + 1) 25 wid0 (widL (sg (s != t) (n / m)) (n / m)) w) follows_mixed (by kernel_rfl) (by kernel_rfl) (by kernel_rfl) (fun _ _ h he => h.ext he (by intro r hr k hk; simp only [List.mem_cons, List.mem_nil_iff, or_false] at hr hk; rcases hr with rfl <;> rcases hk with rfl | rfl | rfl | rfl | rfl <;> simp <;> omega) (by intro r hr hx; simp only [List.mem_cons, List.mem_nil_iff, or_false] at hr; rcases hr with rfl <;> simp at hx ⊢ <;> omega) (by intro r hr k hk; simp only [List.mem_cons, List.mem_nil_iff, or_false] at hr; rcases hr with rfl <;> simp <;> omega)) hG ?_ ?_
        · refine steps_cons ?_ (steps_cons ?_ (steps_cons ?_ (steps_cons ?_ (steps_cons ?_ (steps_cons ?_ (steps_cons ?_ (steps_cons ?_ (steps_cons ?_ (steps_cons ?_ (steps_cons ?_ (steps_nil)))))))))))
          · exact fun xs wx hG _ => step_value (.pointer (some ⟨w.heap.size, 0, none⟩)) (w' := wx) (by simp only [fillIn, Act.put, List.setIfInBounds_toArray, List.set_cons_zero, List.set_cons_succ]; go_simp) rfl (Below.refl _ _)
          · intro xs wx hG hF
            have f1 : xs 0 = .pointer (some ⟨w.heap.size, 0, none⟩) := hF.1
            obtain ⟨c0, c1, c2, c3, c4⟩ := wide_cells (hG.rows _ (List.mem_cons_self ..))
            exact step_value (.bool s) (w' := wx) (by simp only [fillIn, Act.put, List.setIfInBounds_toArray, List.set_cons_zero, List.set_cons_succ, f1]; go_simp) rfl (Below.refl _ _)
          · exact fun xs wx hG _ => step_value (.pointer (some ⟨w.heap.size + 1, 0, none⟩)) (w' := wx) (by simp only [fillIn, Act.put, List.setIfInBounds_toArray, List.set_cons_zero, List.set_cons_succ]; go_simp) rfl (Below.refl _ _)
          · intro xs wx hG hF
            have f1 : xs 2 = .pointer (some ⟨w.heap.size + 1, 0, none⟩) := hF.1
            obtain ⟨c0, c1, c2, c3, c4⟩ := wide_cells (hG.rows _ (List.mem_cons_of_mem _ (List.mem_cons_self ..)))
            exact step_value (.bool t) (w' := wx) (by simp only [fillIn, Act.put, List.setIfInBounds_toArray, List.set_cons_zero, List.set_cons_succ, f1]; go_simp) rfl (Below.refl _ _)
          · intro xs wx hG hF
            have f1 : xs 1 = (.bool s) := hF.1
            have f3 : xs 3 = (.bool t) := hF.2.1
            exact step_value (.bool (s != t)) (w' := wx) (by simp only [fillIn, Act.put, List.setIfInBounds_toArray, List.set_cons_zero, List.set_cons_succ, f1, f3]; go_simp) rfl (Below.refl _ _)
          · exact fun xs wx hG _ => step_row 48 (.tmp 9) rfl (L) (eval_old (by decide)) 48 (halL (n / m)) _ (hG.rows _ (List.mem_cons_of_mem _ (List.mem_cons_of_mem _ (List.mem_cons_self ..)))) under_arr8 rfl info_arr8 rfl
          · exact fun xs wx hG hF => step_call2 42 (.tmp 48) (.tmp 49) #[4, 48] (.bool (s != t)) (.agg (halL (n / m))) rfl ((eval_new (i := 4) (by decide) rfl (by simp)).trans hF.1) ((eval_new (i := 5) (by decide) rfl (by simp)).trans hF.2.1) (by kernel_rfl) (rjoin_any (s != t) (n / m) wx BQ.out) (fun e w' h => ⟨_, h.1, rfl, h.2⟩)
          · exact fun xs wx hG _ => step_value (.pointer (some ⟨w.heap.size + 1, 0, none⟩)) (w' := wx) (by simp only [fillIn, Act.put, List.setIfInBounds_toArray, List.set_cons_zero, List.set_cons_succ]; go_simp) rfl (Below.refl _ _)
          · intro xs wx hG hF
            have f1 : xs 7 = .pointer (some ⟨w.heap.size + 1, 0, none⟩) := hF.1
            obtain ⟨c0, c1, c2, c3, c4⟩ := wide_cells (hG.rows _ (List.mem_cons_of_mem _ (List.mem_cons_self ..)))
            exact step_value (.bool t) (w' := wx) (by simp only [fillIn, Act.put, List.setIfInBounds_toArray, List.set_cons_zero, List.set_cons_succ, f1]; go_simp) rfl (Below.refl _ _)
          · exact fun xs wx hG _ => step_row 48 (.tmp 10) rfl (L + 1) (eval_old (by decide)) 48 (halL (n % m)) _ (hG.rows _ (List.mem_cons_of_mem _ (List.mem_cons_of_mem _ (List.mem_cons_of_mem _ (List.mem_cons_self ..))))) under_arr8 rfl info_arr8 rfl
          · exact fun xs wx hG hF => step_call2 42 (.tmp 52) (.tmp 53) #[4, 48] (.bool t) (.agg (halL (n % m))) rfl ((eval_new (i := 8) (by decide) rfl (by simp)).trans hF.1) ((eval_new (i := 9) (by decide) rfl (by simp)).trans hF.2.1) (by kernel_rfl) (rjoin_any t (n % m) wx BR.out) (fun e w' h => ⟨_, h.1, rfl, h.2⟩)
        intro xs wx hG hA hF
        obtain ⟨f0, f1, f2, f3, f4, f5, f6, f7, f8, f9, f10, _⟩ := hF
        have f0 : xs 0 = (.pointer (some ⟨w.heap.size, 0, none⟩)) := f0
        have f1 : xs 1 = (.bool s) := f1
        have f2 : xs 2 = (.pointer (some ⟨w.heap.size + 1, 0, none⟩)) := f2
        have f3 : xs 3 = (.bool t) := f3
        have f4 : xs 4 = (.bool (s != t)) := f4
        have f5 : xs 5 = (.agg (halL (n / m))) := f5
        have f6 : xs 6 = (.agg (widL (sg (s != t) (n / m)) (n / m))) := f6
        have f7 : xs 7 = (.pointer (some ⟨w.heap.size + 1, 0, none⟩)) := f7
        have f8 : xs 8 = (.bool t) := f8
        have f9 : xs 9 = (.agg (halL (n % m))) := f9
        have f10 : xs 10 = (.agg (widL (sg t (n % m)) (n % m))) := f10
        simp only [fillIn, Act.put, List.setIfInBounds_toArray, List.set_cons_zero, List.set_cons_succ, f0, f1, f2, f3, f4, f5, f6, f7, f8, f9, f10, List.drop_succ_cons, List.drop_zero, List.length_cons, List.length_nil]
        obtain ⟨kk, kres, kW⟩ := hG
        have k5 := kk _ (List.mem_cons_of_mem _ (List.mem_cons_of_mem _ (List.mem_cons_of_mem _ (List.mem_cons_of_mem _ (List.mem_cons_self ..)))))
        clear kk
        rcases kres with k4 | k4
        · refine wpList_store_row rfl 25 (.tmp 4) (.tmp 50) rfl (w.heap.size + 1 + 1) (widL (sg (s != t) (n / m)) (n / m)) rfl rfl 25 _ k4 info_wide rfl (widF_ones _ (wd (n / m))) ?_
          refine wpList_store_row rfl 25 (.tmp 5) (.tmp 54) rfl (w.heap.size + 1 + 1 + 1) (widL (sg t (n % m)) (n % m)) rfl rfl 25 _ (Blk.rowOther k5 (by omega) _) info_wide rfl (widF_ones _ (wd (n % m))) ?_
          have K4 := Lib.hid ((Blk.row k4 (widL (sg (s != t) (n / m)) (n / m))).rowOther (k := w.heap.size + 1 + 1 + 1) (by omega) (widL (sg t (n % m)) (n % m)))
          have K5 := Lib.hid ((Blk.rowOther (k := w.heap.size + 1 + 1) k5 (by omega) (widL (sg (s != t) (n / m)) (n / m))).row (widL (sg t (n % m)) (n % m)))
          have KW := below_row (below_row kW (g := w.heap.size + 1 + 1) (by omega) (widL (sg (s != t) (n / m)) (n / m))) (g := w.heap.size + 1 + 1 + 1) (by omega) (widL (sg t (n % m)) (n % m))
          clear k4 k5 kW
          generalize World.setRow _ _ _ = W3 at K4 K5 KW ⊢
          go_wp2
          exact gives_rows_tmp rfl (w.heap.size + 1 + 1) (w.heap.size + 1 + 1 + 1) 25 25 (widL (sg (s != t) (n / m)) (n / m)) (widL (sg t (n % m)) (n % m)) _ _ (.int .i64 0) rfl rfl rfl K4.out K5.out under_wide rfl info_wide under_wide rfl info_wide rfl ⟨by rw [HV.out], KW⟩
        · refine wpList_store_row rfl 25 (.tmp 4) (.tmp 50) rfl (w.heap.size + 1 + 1) (widL (sg (s != t) (n / m)) (n / m)) rfl rfl 25 _ k4 info_wide rfl (widF_ones _ (wd (n / m))) ?_
          refine wpList_store_row rfl 25 (.tmp 5) (.tmp 54) rfl (w.heap.size + 1 + 1 + 1) (widL (sg t (n % m)) (n % m)) rfl rfl 25 _ (Blk.rowOther k5 (by omega) _) info_wide rfl (widF_ones _ (wd (n % m))) ?_
          have K4 := Lib.hid ((Blk.row k4 (widL (sg (s != t) (n / m)) (n / m))).rowOther (k := w.heap.size + 1 + 1 + 1) (by omega) (widL (sg t (n % m)) (n % m)))
          have K5 := Lib.hid ((Blk.rowOther (k := w.heap.size + 1 + 1) k5 (by omega) (widL (sg (s != t) (n / m)) (n / m))).row (widL (sg t (n % m)) (n % m)))
          have KW := below_row (below_row kW (g := w.heap.size + 1 + 1) (by omega) (widL (sg (s != t) (n / m)) (n / m))) (g := w.heap.size + 1 + 1 + 1) (by omega) (widL (sg t (n % m)) (n % m))
          clear k4 k5 kW
          generalize World.setRow _ _ _ = W3 at K4 K5 KW ⊢
          go_wp2
          exact gives_rows_tmp rfl (w.heap.size + 1 + 1) (w.heap.size + 1 + 1 + 1) 25 25 (widL (sg (s != t) (n / m)) (n / m)) (widL (sg t (n % m)) (n % m)) _ _ (.int .i64 0) rfl rfl rfl K4.out K5.out under_wide rfl info_wide under_wide rfl info_wide rfl ⟨by rw [HV.out], KW⟩
end Go.Proofs.Ytnpgikjahfhaoaa
