/-
  The program's Div.
-/
import Derived.Test.YtnpgikjahfhaoaaWOps5
import Derived.Test.YtnpgikjahfhaoaaWDivide
import Derived.Test.YtnpgikjahfhaoaaKit
namespace Go.Proofs.Ytnpgikjahfhaoaa
open Go.RowKit Go.Proofs.WM Go.Proofs.Reg

def dvQ (s : Bool) (n : Nat) (t : Bool) (m : Nat) : Nat := if (s != t) = true ∧ n % m ≠ 0 then n / m + 1 else n / m
def dvR (s : Bool) (n : Nat) (t : Bool) (m : Nat) : Nat := if (s != t) = true ∧ n % m ≠ 0 then m - n % m else n % m
/-- The quotient and the remainder of signed magnitudes. -/
def DivV (s : Bool) (n : Nat) (t : Bool) (m : Nat) : Value := if m = 0 then .tuple #[.agg (widL false 0), .agg (widL false 0), .int .i64 22] else
  .tuple #[.agg (widL (sg (s != t) (dvQ s n t m)) (dvQ s n t m)), .agg (widL (sg t (dvR s n t m)) (dvR s n t m)), .int .i64 0]
theorem divV_zero (s : Bool) (n : Nat) (t : Bool) : DivV s n t 0 = .tuple #[.agg (widL false 0), .agg (widL false 0), .int .i64 22] := rfl
theorem divV_plain {s t : Bool} {n m : Nat} (h0 : 0 < m) (h : (s != t) = false ∨ n % m = 0) : DivV s n t m = .tuple #[.agg (widL (sg (s != t) (n / m)) (n / m)), .agg (widL (sg t (n % m)) (n % m)), .int .i64 0] := by
  have hc : ¬ ((s != t) = true ∧ n % m ≠ 0) := fun x => by rcases h with h | h; · rw [h] at x; simp at x
                                                           · exact x.2 h
  unfold DivV dvQ dvR
  rw [if_neg (by omega), if_neg hc, if_neg hc]
theorem divV_down {s t : Bool} {n m : Nat} (h0 : 0 < m) (h : (s != t) = true) (hr : n % m ≠ 0) : DivV s n t m = .tuple #[.agg (widL (sg (s != t) (n / m + 1)) (n / m + 1)), .agg (widL (sg t (m - n % m)) (m - n % m)), .int .i64 0] := by
  unfold DivV dvQ dvR
  rw [if_neg (by omega), if_pos ⟨h, hr⟩, if_pos ⟨h, hr⟩]
theorem padd_one (q : Nat) (w : World) (h : q + 1 < M256) : Calls Try.prog 45 #[.agg (magL q), .agg #[.int .u64 1, .int .u64 0, .int .u64 0, .int .u64 0]] w (Gives (.tuple #[.agg (magL (q + 1)), .bool false]) w) := by
  have := padd_in q 1 w (by omega) (by omega) h
  rwa [← magL_small 1 (by decide)] at this

set_option maxHeartbeats 4000000 in
theorem pdiv_wide (s t : Bool) (n m : Nat) (w : World) (hn : n < M256) (hm : m < M256) :
    Calls Try.prog 30 #[.agg (widL s n), .agg (widL t m)] w (Gives (DivV s n t m) w) := by
  have HN := Lib.hid hn
  have HM := Lib.hid hm
  have em := fun wx => eq_arr0 m hm wx
  rcases Nat.eq_zero_or_pos m with h0 | h0
  · subst h0
    have HV := Lib.hid (divV_zero s n t)
    have E := Lib.hid widL0
    rw [show ((0 : Nat) == 0) = true from rfl] at em
    clear hn hm
    unfold widL
    unfold magL mag0 at em
    go_enter Try.func30, Try.ntmps30
    go_wp2
    exact bodyPost_ret (v := .tuple #[.agg wid0, .agg wid0, .int .i64 22]) (by simp [results, Try.results30, go_sem]) rfl ⟨by rw [HV.out, E.out], ((((Below.refl _ _).alloc (Nat.le_refl _) _).alloc (by simp) _).alloc (by simp; omega) _).alloc (by simp; omega) _⟩
  · rw [show (m == 0) = false by simp; omega] at em
    have hq : n / m < M256 := Nat.lt_of_le_of_lt (Nat.div_le_self _ _) hn
    have hr : n % m < M256 := Nat.lt_of_le_of_lt (Nat.mod_le _ _) hn
    have H0 := Lib.hid h0
    have eR := fun wx => eq_mag0 (n % m) hr wx
    unfold widL
    unfold magL mag0 at em eR
    by_cases hx : (s != t) = true ∧ n % m ≠ 0
    · obtain ⟨hx1, hx2⟩ := hx
      have HV := Lib.hid (divV_down h0 hx1 hx2)
      have hne : ¬ s = t := by intro e; rw [e] at hx1; simp at hx1
      have hne2 : (s == t) = false := by simpa using hne
      rw [show (n % m == 0) = false by simp; omega] at eR
      have hq1 : n / m + 1 < M256 := by
        have h2 : 2 ≤ m := by
          rcases Nat.lt_or_ge m 2 with h | h
          · have : m = 1 := by omega
            subst this
            exact absurd (Nat.mod_one n) hx2
          · exact h
        have : n / m ≤ n / 2 := Nat.div_le_div_left h2 (by decide)
        have h3 : 3 < M256 := by decide
        omega
      have hr1 : m - n % m < M256 := by omega
      have hrm : n % m ≤ m := Nat.le_of_lt (Nat.mod_lt _ h0)
      have BQ := Lib.hid hq1
      have BR := Lib.hid hr1
      have BRR := Lib.hid hr
      have hsub : ∀ w, Calls Try.prog 47 #[.agg (magL m), .agg (magL (n % m))] w (Gives (.agg (magL (m - n % m))) w) := fun w => by
        have := psubtract_any m (n % m) w hr
        rwa [subN_of_le hrm hm] at this
      have HS := Lib.hid hsub
      clear hn hm h0 hq hr hq1 hr1 hrm hsub hx2
      go_enter Try.func30, Try.ntmps30
      go_wp2_with fail
      refine (pdivide_any n m _ HN.out HM.out H0.out).mono ?_
      rintro e w1 ⟨rfl, hb⟩
      have kA : Hid (Blk w1 (w.heap.size) 25 (widL s n)) := Blk.below ((((Blk.new _ _ _).old _).old _).old _) hb
      have kB : Hid (Blk w1 (w.heap.size + 1) 25 (widL t m)) := Blk.below (((Blk.newAt (by simp) _ _).old _).old _) hb
      have k4 : Hid (Blk w1 (w.heap.size + 1 + 1) 25 wid0) := Blk.below ((Blk.newAt (by simp) _ _).old _) hb
      have k5 : Hid (Blk w1 (w.heap.size + 1 + 1 + 1) 25 wid0) := Blk.below (Blk.newAt (by simp) _ _) hb
      have kW : Below w.heap.size w w1 := Below.trans (((((Below.refl _ _).alloc (Nat.le_refl _) _).alloc (by simp) _).alloc (by simp; omega) _).alloc (by simp; omega) _) (hb.mono (by simp; omega))
      have lR := k5.out.lt
      clear hb
      have kq0 : Hid (Blk ((w1.alloc (.cells mag0 45)).alloc (.cells mag0 45)) w1.heap.size 45 mag0) := (Blk.new _ _ _).old _
      have kr0 : Hid (Blk (((w1.alloc (.cells mag0 45)).alloc (.cells mag0 45)).setRow w1.heap.size (magL (n / m))) (w1.heap.size + 1) 45 mag0) := (Blk.newAt (by simp) _ _).rowOther (by omega) _
      have kA := Lib.hid ((((kA.out.old (.cells mag0 45)).old (.cells mag0 45)).rowOther (k := w1.heap.size) (by omega) (magL (n / m))).rowOther (k := w1.heap.size + 1) (by omega) (magL (n % m)))
      have kB := Lib.hid ((((kB.out.old (.cells mag0 45)).old (.cells mag0 45)).rowOther (k := w1.heap.size) (by omega) (magL (n / m))).rowOther (k := w1.heap.size + 1) (by omega) (magL (n % m)))
      have k4 := Lib.hid ((((k4.out.old (.cells mag0 45)).old (.cells mag0 45)).rowOther (k := w1.heap.size) (by omega) (magL (n / m))).rowOther (k := w1.heap.size + 1) (by omega) (magL (n % m)))
      have k5 := Lib.hid ((((k5.out.old (.cells mag0 45)).old (.cells mag0 45)).rowOther (k := w1.heap.size) (by omega) (magL (n / m))).rowOther (k := w1.heap.size + 1) (by omega) (magL (n % m)))
      have kQ := Lib.hid ((((Blk.new w1 45 mag0).old (.cells mag0 45)).row (magL (n / m))).rowOther (k := w1.heap.size + 1) (by omega) (magL (n % m)))
      have kR := Lib.hid (kr0.out.row (magL (n % m)))
      have kW := below_row (below_row ((kW.alloc (by omega) (.cells mag0 45)).alloc (by simp; omega) (.cells mag0 45)) (g := w1.heap.size) (by omega) (magL (n / m))) (g := w1.heap.size + 1) (by omega) (magL (n % m))
      have c0 : ((((w1.alloc (.cells mag0 45)).alloc (.cells mag0 45)).setRow w1.heap.size (magL (n / m))).setRow (w1.heap.size + 1) (magL (n % m))).cell? ⟨w.heap.size, 0, none⟩ = some (.bool s) := kA.out.cell 0
      have c1 : ((((w1.alloc (.cells mag0 45)).alloc (.cells mag0 45)).setRow w1.heap.size (magL (n / m))).setRow (w1.heap.size + 1) (magL (n % m))).cell? ⟨w.heap.size + 1, 0, none⟩ = some (.bool t) := kB.out.cell 0
      have d0 : ((((w1.alloc (.cells mag0 45)).alloc (.cells mag0 45)).setRow w1.heap.size (magL (n / m))).setRow (w1.heap.size + 1) (magL (n % m))).cell? ⟨w1.heap.size + 1, 0, none⟩ = some (.int .u64 ((wd (n % m) 0 : Nat) : Int)) := kR.out.cell 0
      have d1 : ((((w1.alloc (.cells mag0 45)).alloc (.cells mag0 45)).setRow w1.heap.size (magL (n / m))).setRow (w1.heap.size + 1) (magL (n % m))).cell? ⟨w1.heap.size + 1, 1, none⟩ = some (.int .u64 ((wd (n % m) 1 : Nat) : Int)) := kR.out.cell 1
      have d2 : ((((w1.alloc (.cells mag0 45)).alloc (.cells mag0 45)).setRow w1.heap.size (magL (n / m))).setRow (w1.heap.size + 1) (magL (n % m))).cell? ⟨w1.heap.size + 1, 2, none⟩ = some (.int .u64 ((wd (n % m) 2 : Nat) : Int)) := kR.out.cell 2
      have d3 : ((((w1.alloc (.cells mag0 45)).alloc (.cells mag0 45)).setRow w1.heap.size (magL (n / m))).setRow (w1.heap.size + 1) (magL (n % m))).cell? ⟨w1.heap.size + 1, 3, none⟩ = some (.int .u64 ((wd (n % m) 3 : Nat) : Int)) := kR.out.cell 3
      go_wp2_with (first | (refine wpList_store_row rfl 45 (.tmp 7) (.tmp 21) rfl w1.heap.size (magL (n / m)) rfl rfl 45 _ kq0.out info_mag rfl (rowF_ones 4 (wd (n / m))) ?_) | (refine wpList_store_row rfl 45 (.tmp 8) (.tmp 22) rfl (w1.heap.size + 1) (magL (n % m)) rfl rfl 45 _ kr0.out info_mag rfl (rowF_ones 4 (wd (n % m))) ?_) | (refine wpList_load_row rfl 45 (.tmp 7) rfl w1.heap.size rfl 45 _ (0, 0) _ kQ.out under_mag rfl info_mag ?_))
      clear c0 c1 d0 d1 d2 d3
      obtain ⟨L, hL⟩ : ∃ L, L = w1.heap.size := ⟨_, rfl⟩
      rw [← hL] at kA kB k4 k5 kQ kR kW ⊢
      have hL3 : w.heap.size + 1 + 1 + 1 < L := by omega
      clear hL lR kq0 kr0
      refine (padd_one _ _ BQ.out).mono ?_
      rintro e w2 ⟨rfl, hb⟩
      have kA := Lib.hid (kA.out.below hb)
      have kB := Lib.hid (kB.out.below hb)
      have kQ := Lib.hid (kQ.out.below hb)
      have kR := Lib.hid (kR.out.below hb)
      have k4 := Lib.hid (k4.out.below hb)
      have k5 := Lib.hid (k5.out.below hb)
      have kW := kW.trans (hb.mono kW.size)
      clear hb
      have kB2 := Lib.hid (kB.out.rowOther (k := L) (by omega) (magL (n / m + 1)))
      have d0 : (w2.setRow L (magL (n / m + 1))).cell? ⟨w.heap.size + 1, 1 + 0, none⟩ = some (.int .u64 ((wd m 0 : Nat) : Int)) := kB2.out.cell (1 + 0)
      have d1 : (w2.setRow L (magL (n / m + 1))).cell? ⟨w.heap.size + 1, 1 + 1, none⟩ = some (.int .u64 ((wd m 1 : Nat) : Int)) := kB2.out.cell (1 + 1)
      have d2 : (w2.setRow L (magL (n / m + 1))).cell? ⟨w.heap.size + 1, 1 + 2, none⟩ = some (.int .u64 ((wd m 2 : Nat) : Int)) := kB2.out.cell (1 + 2)
      have d3 : (w2.setRow L (magL (n / m + 1))).cell? ⟨w.heap.size + 1, 1 + 3, none⟩ = some (.int .u64 ((wd m 3 : Nat) : Int)) := kB2.out.cell (1 + 3)
      simp only [Nat.reduceAdd] at d0 d1 d2 d3
      go_wp2_with (first | (refine wpList_store_row rfl 45 (.tmp 7) (.tmp 37) rfl L (magL (n / m + 1)) rfl rfl 45 _ kQ.out info_mag rfl (rowF_ones 4 (wd (n / m + 1))) ?_) | (refine wpList_load_row rfl 45 (.tmp 8) rfl (L + 1) rfl 45 _ (0, 0) _ (kR.out.rowOther (by omega) _) under_mag rfl info_mag ?_))
      clear d0 d1 d2 d3 kB2
      refine (HS.out _).mono ?_
      rintro e w3 ⟨rfl, hb⟩
      have kA := Lib.hid ((kA.out.rowOther (k := L) (by omega) (magL (n / m + 1))).below hb)
      have kB := Lib.hid ((kB.out.rowOther (k := L) (by omega) (magL (n / m + 1))).below hb)
      have k4 := Lib.hid ((k4.out.rowOther (k := L) (by omega) (magL (n / m + 1))).below hb)
      have k5 := Lib.hid ((k5.out.rowOther (k := L) (by omega) (magL (n / m + 1))).below hb)
      have kR := Lib.hid ((kR.out.rowOther (k := L) (by omega) (magL (n / m + 1))).below hb)
      have kQ := Lib.hid ((kQ.out.row (magL (n / m + 1))).below hb)
      have kW := (below_row kW (g := L) (by omega) (magL (n / m + 1))).trans (hb.mono (by simp; exact kW.size))
      clear hb
      go_wp2_with (refine wpList_store_row rfl 45 (.tmp 8) (.tmp 42) rfl (L + 1) (magL (m - n % m)) rfl rfl 45 _ kR.out info_mag rfl (rowF_ones 4 (wd (m - n % m))) ?_)
      have kA := Lib.hid (kA.out.rowOther (k := L + 1) (by omega) (magL (m - n % m)))
      have kB := Lib.hid (kB.out.rowOther (k := L + 1) (by omega) (magL (m - n % m)))
      have k4 := Lib.hid (k4.out.rowOther (k := L + 1) (by omega) (magL (m - n % m)))
      have k5 := Lib.hid (k5.out.rowOther (k := L + 1) (by omega) (magL (m - n % m)))
      have kQ := Lib.hid (kQ.out.rowOther (k := L + 1) (by omega) (magL (m - n % m)))
      have kR := Lib.hid (kR.out.row (magL (m - n % m)))
      have kW := below_row kW (g := L + 1) (by omega) (magL (m - n % m))
      generalize World.setRow _ _ _ = W4 at kA kB k4 k5 kQ kR kW ⊢
      simp only [Act.put]
      have hG : Keep [(w.heap.size, 25, widL s n), (w.heap.size + 1, 25, widL t m), (L, 45, magL (n / m + 1)), (L + 1, 45, magL (m - n % m)), (w.heap.size + 1 + 1 + 1, 25, wid0)] (w.heap.size + 1 + 1) 25 wid0 (widL (sg (s != t) (n / m + 1)) (n / m + 1)) w W4.drew := by
        refine ⟨?_, .inl k4.out.drew, kW.drew⟩
        intro k hk
        simp only [List.mem_cons, List.mem_nil_iff, or_false] at hk
        rcases hk with rfl | rfl | rfl | rfl | rfl
        · exact kA.out.drew
        · exact kB.out.drew
        · exact kQ.out.drew
        · exact kR.out.drew
        · exact k5.out.drew
      refine region_kit (ds := [some 43, some 44, some 45, some 46, some 47, some 48, some 49, some 50, some 51, some 52, some 53]) [((· == w.heap.size + 1 + 1), 25, (widL (sg (s != t) (n / m + 1)) (n / m + 1)))] [[], [0], [], [2], [1, 3], [], [4, 5], [], [7], [], [8, 9]] (fun i => false) [.is _ 0 (.pointer (some ⟨w.heap.size, 0, none⟩)), .is _ 1 (.bool s), .is _ 2 (.pointer (some ⟨w.heap.size + 1, 0, none⟩)), .is _ 3 (.bool t), .is _ 4 (.bool (s != t)), .is _ 5 (.agg (magL (n / m + 1))), .is _ 6 (.agg (widL (sg (s != t) (n / m + 1)) (n / m + 1))), .is _ 7 (.pointer (some ⟨w.heap.size + 1, 0, none⟩)), .is _ 8 (.bool t), .is _ 9 (.agg (magL (m - n % m))), .is _ 10 (.agg (widL (sg t (m - n % m)) (m - n % m)))] (Keep [(w.heap.size, 25, (widL s n)), (w.heap.size + 1, 25, (widL t m)), (L, 45, (magL (n / m + 1))), (L + 1, 45, (magL (m - n % m))), (w.heap.size + 1 + 1 + 1, 25, wid0)] (w.heap.size + 1 + 1) 25 wid0 (widL (sg (s != t) (n / m + 1)) (n / m + 1)) w) follows_mixed (by kernel_rfl) (by kernel_rfl) (by kernel_rfl) (fun _ _ h he => h.ext he (by intro r hr k hk; simp only [List.mem_cons, List.mem_nil_iff, or_false] at hr hk; rcases hr with rfl <;> rcases hk with rfl | rfl | rfl | rfl | rfl <;> simp <;> omega) (by intro r hr hx; simp only [List.mem_cons, List.mem_nil_iff, or_false] at hr; rcases hr with rfl <;> simp at hx ⊢ <;> omega) (by intro r hr k hk; simp only [List.mem_cons, List.mem_nil_iff, or_false] at hr; rcases hr with rfl <;> simp <;> omega)) hG ?_ ?_
      · refine steps_cons ?_ (steps_cons ?_ (steps_cons ?_ (steps_cons ?_ (steps_cons ?_ (steps_cons ?_ (steps_cons ?_ (steps_cons ?_ (steps_cons ?_ (steps_cons ?_ (steps_cons ?_ (steps_nil)))))))))))
        · exact fun xs wx hG _ => step_value (.pointer (some ⟨w.heap.size, 0, none⟩)) (w' := wx) (by simp only [fillIn, Act.put, List.setIfInBounds_toArray, List.set_cons_zero, List.set_cons_succ]; go_simp) rfl (Below.refl _ _)
        · intro xs wx hG hF
          have f1 : xs 0 = .pointer (some ⟨w.heap.size, 0, none⟩) := hF.1
          obtain ⟨c0, c1, c2, c3, c4⟩ := wide_cells (hG.rows _ (List.mem_cons_self ..))
          exact step_value (.bool s) (w' := wx) (by simp only [fillIn, Act.put, List.setIfInBounds_toArray, List.set_cons_zero, List.set_cons_succ, f1]; go_simp) rfl (Below.refl _ _)
        · exact fun xs wx hG _ => step_value (.pointer (some ⟨w.heap.size + 1, 0, none⟩)) (w' := wx) (by simp only [fillIn, Act.put, List.setIfInBounds_toArray, List.set_cons_zero, List.set_cons_succ]; go_simp) rfl (Below.refl _ _)
        · intro xs wx hG hF
          have f1 : xs 2 = .pointer (some ⟨w.heap.size + 1, 0, none⟩) := hF.1
          obtain ⟨c0, c1, c2, c3, c4⟩ := wide_cells (hG.rows _ (List.mem_cons_of_mem _ (List.mem_cons_self ..)))
          exact step_value (.bool t) (w' := wx) (by simp only [fillIn, Act.put, List.setIfInBounds_toArray, List.set_cons_zero, List.set_cons_succ, f1]; go_simp) rfl (Below.refl _ _)
        · intro xs wx hG hF
          have f1 : xs 1 = (.bool s) := hF.1
          have f3 : xs 3 = (.bool t) := hF.2.1
          exact step_value (.bool (s != t)) (w' := wx) (by simp only [fillIn, Act.put, List.setIfInBounds_toArray, List.set_cons_zero, List.set_cons_succ, f1, f3]; go_simp) rfl (Below.refl _ _)
        · exact fun xs wx hG _ => step_row 45 (.tmp 7) rfl (L) (eval_old (by decide)) 45 (magL (n / m + 1)) _ (hG.rows _ (List.mem_cons_of_mem _ (List.mem_cons_of_mem _ (List.mem_cons_self ..)))) under_mag rfl info_mag rfl
        · exact fun xs wx hG hF => step_call2 39 (.tmp 47) (.tmp 48) #[4, 45] (.bool (s != t)) (.agg (magL (n / m + 1))) rfl ((eval_new (i := 4) (by decide) rfl (by simp)).trans hF.1) ((eval_new (i := 5) (by decide) rfl (by simp)).trans hF.2.1) (by kernel_rfl) (signed_any (s != t) (n / m + 1) wx BQ.out) (fun e w' h => ⟨_, h.1, rfl, h.2⟩)
        · exact fun xs wx hG _ => step_value (.pointer (some ⟨w.heap.size + 1, 0, none⟩)) (w' := wx) (by simp only [fillIn, Act.put, List.setIfInBounds_toArray, List.set_cons_zero, List.set_cons_succ]; go_simp) rfl (Below.refl _ _)
        · intro xs wx hG hF
          have f1 : xs 7 = .pointer (some ⟨w.heap.size + 1, 0, none⟩) := hF.1
          obtain ⟨c0, c1, c2, c3, c4⟩ := wide_cells (hG.rows _ (List.mem_cons_of_mem _ (List.mem_cons_self ..)))
          exact step_value (.bool t) (w' := wx) (by simp only [fillIn, Act.put, List.setIfInBounds_toArray, List.set_cons_zero, List.set_cons_succ, f1]; go_simp) rfl (Below.refl _ _)
        · exact fun xs wx hG _ => step_row 45 (.tmp 8) rfl (L + 1) (eval_old (by decide)) 45 (magL (m - n % m)) _ (hG.rows _ (List.mem_cons_of_mem _ (List.mem_cons_of_mem _ (List.mem_cons_of_mem _ (List.mem_cons_self ..))))) under_mag rfl info_mag rfl
        · exact fun xs wx hG hF => step_call2 39 (.tmp 51) (.tmp 52) #[4, 45] (.bool t) (.agg (magL (m - n % m))) rfl ((eval_new (i := 8) (by decide) rfl (by simp)).trans hF.1) ((eval_new (i := 9) (by decide) rfl (by simp)).trans hF.2.1) (by kernel_rfl) (signed_any t (m - n % m) wx BR.out) (fun e w' h => ⟨_, h.1, rfl, h.2⟩)
      intro xs wx hG hA hF
      obtain ⟨f0, f1, f2, f3, f4, f5, f6, f7, f8, f9, f10, _⟩ := hF
      have f0 : xs 0 = (.pointer (some ⟨w.heap.size, 0, none⟩)) := f0
      have f1 : xs 1 = (.bool s) := f1
      have f2 : xs 2 = (.pointer (some ⟨w.heap.size + 1, 0, none⟩)) := f2
      have f3 : xs 3 = (.bool t) := f3
      have f4 : xs 4 = (.bool (s != t)) := f4
      have f5 : xs 5 = (.agg (magL (n / m + 1))) := f5
      have f6 : xs 6 = (.agg (widL (sg (s != t) (n / m + 1)) (n / m + 1))) := f6
      have f7 : xs 7 = (.pointer (some ⟨w.heap.size + 1, 0, none⟩)) := f7
      have f8 : xs 8 = (.bool t) := f8
      have f9 : xs 9 = (.agg (magL (m - n % m))) := f9
      have f10 : xs 10 = (.agg (widL (sg t (m - n % m)) (m - n % m))) := f10
      simp only [fillIn, Act.put, List.setIfInBounds_toArray, List.set_cons_zero, List.set_cons_succ, f0, f1, f2, f3, f4, f5, f6, f7, f8, f9, f10, List.drop_succ_cons, List.drop_zero, List.length_cons, List.length_nil]
      obtain ⟨kk, kres, kW⟩ := hG
      have k5 := kk _ (List.mem_cons_of_mem _ (List.mem_cons_of_mem _ (List.mem_cons_of_mem _ (List.mem_cons_of_mem _ (List.mem_cons_self ..)))))
      clear kk
      rcases kres with k4 | k4
      · refine wpList_store_row rfl 25 (.tmp 4) (.tmp 49) rfl (w.heap.size + 1 + 1) (widL (sg (s != t) (n / m + 1)) (n / m + 1)) rfl rfl 25 _ k4 info_wide rfl (widF_ones _ (wd (n / m + 1))) ?_
        refine wpList_store_row rfl 25 (.tmp 5) (.tmp 53) rfl (w.heap.size + 1 + 1 + 1) (widL (sg t (m - n % m)) (m - n % m)) rfl rfl 25 _ (Blk.rowOther k5 (by omega) _) info_wide rfl (widF_ones _ (wd (m - n % m))) ?_
        have K4 := Lib.hid ((Blk.row k4 (widL (sg (s != t) (n / m + 1)) (n / m + 1))).rowOther (k := w.heap.size + 1 + 1 + 1) (by omega) (widL (sg t (m - n % m)) (m - n % m)))
        have K5 := Lib.hid ((Blk.rowOther (k := w.heap.size + 1 + 1) k5 (by omega) (widL (sg (s != t) (n / m + 1)) (n / m + 1))).row (widL (sg t (m - n % m)) (m - n % m)))
        have KW := below_row (below_row kW (g := w.heap.size + 1 + 1) (by omega) (widL (sg (s != t) (n / m + 1)) (n / m + 1))) (g := w.heap.size + 1 + 1 + 1) (by omega) (widL (sg t (m - n % m)) (m - n % m))
        clear k4 k5 kW
        generalize World.setRow _ _ _ = W3 at K4 K5 KW ⊢
        go_wp2
        exact gives_rows_tmp rfl (w.heap.size + 1 + 1) (w.heap.size + 1 + 1 + 1) 25 25 (widL (sg (s != t) (n / m + 1)) (n / m + 1)) (widL (sg t (m - n % m)) (m - n % m)) _ _ (.int .i64 0) rfl rfl rfl K4.out K5.out under_wide rfl info_wide under_wide rfl info_wide rfl ⟨by rw [HV.out], KW⟩
      · refine wpList_store_row rfl 25 (.tmp 4) (.tmp 49) rfl (w.heap.size + 1 + 1) (widL (sg (s != t) (n / m + 1)) (n / m + 1)) rfl rfl 25 _ k4 info_wide rfl (widF_ones _ (wd (n / m + 1))) ?_
        refine wpList_store_row rfl 25 (.tmp 5) (.tmp 53) rfl (w.heap.size + 1 + 1 + 1) (widL (sg t (m - n % m)) (m - n % m)) rfl rfl 25 _ (Blk.rowOther k5 (by omega) _) info_wide rfl (widF_ones _ (wd (m - n % m))) ?_
        have K4 := Lib.hid ((Blk.row k4 (widL (sg (s != t) (n / m + 1)) (n / m + 1))).rowOther (k := w.heap.size + 1 + 1 + 1) (by omega) (widL (sg t (m - n % m)) (m - n % m)))
        have K5 := Lib.hid ((Blk.rowOther (k := w.heap.size + 1 + 1) k5 (by omega) (widL (sg (s != t) (n / m + 1)) (n / m + 1))).row (widL (sg t (m - n % m)) (m - n % m)))
        have KW := below_row (below_row kW (g := w.heap.size + 1 + 1) (by omega) (widL (sg (s != t) (n / m + 1)) (n / m + 1))) (g := w.heap.size + 1 + 1 + 1) (by omega) (widL (sg t (m - n % m)) (m - n % m))
        clear k4 k5 kW
        generalize World.setRow _ _ _ = W3 at K4 K5 KW ⊢
        go_wp2
        exact gives_rows_tmp rfl (w.heap.size + 1 + 1) (w.heap.size + 1 + 1 + 1) 25 25 (widL (sg (s != t) (n / m + 1)) (n / m + 1)) (widL (sg t (m - n % m)) (m - n % m)) _ _ (.int .i64 0) rfl rfl rfl K4.out K5.out under_wide rfl info_wide under_wide rfl info_wide rfl ⟨by rw [HV.out], KW⟩
    · have hy : (s != t) = false ∨ n % m = 0 := by
        cases h : (s != t)
        · exact .inl rfl
        · refine .inr (Classical.byContradiction fun h2 => hx ⟨h, h2⟩)
      have HV := Lib.hid (divV_plain h0 hy)
      have BQ := Lib.hid hq
      have BR := Lib.hid hr
      cases hst : (s != t)
      · have hse : s = t := by cases s <;> cases t <;> simp_all
        subst hse
        clear hst hn hm h0 hq hr hx hy eR
        go_enter Try.func30, Try.ntmps30
        go_wp2_with fail
        refine (pdivide_any n m _ HN.out HM.out H0.out).mono ?_
        rintro e w1 ⟨rfl, hb⟩
        have kA : Hid (Blk w1 (w.heap.size) 25 (widL s n)) := Blk.below ((((Blk.new _ _ _).old _).old _).old _) hb
        have kB : Hid (Blk w1 (w.heap.size + 1) 25 (widL s m)) := Blk.below (((Blk.newAt (by simp) _ _).old _).old _) hb
        have k4 : Hid (Blk w1 (w.heap.size + 1 + 1) 25 wid0) := Blk.below ((Blk.newAt (by simp) _ _).old _) hb
        have k5 : Hid (Blk w1 (w.heap.size + 1 + 1 + 1) 25 wid0) := Blk.below (Blk.newAt (by simp) _ _) hb
        have kW : Below w.heap.size w w1 := Below.trans (((((Below.refl _ _).alloc (Nat.le_refl _) _).alloc (by simp) _).alloc (by simp; omega) _).alloc (by simp; omega) _) (hb.mono (by simp; omega))
        have lR := k5.out.lt
        clear hb
        have kq0 : Hid (Blk ((w1.alloc (.cells mag0 45)).alloc (.cells mag0 45)) w1.heap.size 45 mag0) := (Blk.new _ _ _).old _
        have kr0 : Hid (Blk (((w1.alloc (.cells mag0 45)).alloc (.cells mag0 45)).setRow w1.heap.size (magL (n / m))) (w1.heap.size + 1) 45 mag0) := (Blk.newAt (by simp) _ _).rowOther (by omega) _
        have kA := Lib.hid ((((kA.out.old (.cells mag0 45)).old (.cells mag0 45)).rowOther (k := w1.heap.size) (by omega) (magL (n / m))).rowOther (k := w1.heap.size + 1) (by omega) (magL (n % m)))
        have kB := Lib.hid ((((kB.out.old (.cells mag0 45)).old (.cells mag0 45)).rowOther (k := w1.heap.size) (by omega) (magL (n / m))).rowOther (k := w1.heap.size + 1) (by omega) (magL (n % m)))
        have k4 := Lib.hid ((((k4.out.old (.cells mag0 45)).old (.cells mag0 45)).rowOther (k := w1.heap.size) (by omega) (magL (n / m))).rowOther (k := w1.heap.size + 1) (by omega) (magL (n % m)))
        have k5 := Lib.hid ((((k5.out.old (.cells mag0 45)).old (.cells mag0 45)).rowOther (k := w1.heap.size) (by omega) (magL (n / m))).rowOther (k := w1.heap.size + 1) (by omega) (magL (n % m)))
        have kQ := Lib.hid ((((Blk.new w1 45 mag0).old (.cells mag0 45)).row (magL (n / m))).rowOther (k := w1.heap.size + 1) (by omega) (magL (n % m)))
        have kR := Lib.hid (kr0.out.row (magL (n % m)))
        have kW := below_row (below_row ((kW.alloc (by omega) (.cells mag0 45)).alloc (by simp; omega) (.cells mag0 45)) (g := w1.heap.size) (by omega) (magL (n / m))) (g := w1.heap.size + 1) (by omega) (magL (n % m))
        have c0 : ((((w1.alloc (.cells mag0 45)).alloc (.cells mag0 45)).setRow w1.heap.size (magL (n / m))).setRow (w1.heap.size + 1) (magL (n % m))).cell? ⟨w.heap.size, 0, none⟩ = some (.bool s) := kA.out.cell 0
        have c1 : ((((w1.alloc (.cells mag0 45)).alloc (.cells mag0 45)).setRow w1.heap.size (magL (n / m))).setRow (w1.heap.size + 1) (magL (n % m))).cell? ⟨w.heap.size + 1, 0, none⟩ = some (.bool s) := kB.out.cell 0
        go_wp2_with (first | (refine wpList_store_row rfl 45 (.tmp 7) (.tmp 21) rfl w1.heap.size (magL (n / m)) rfl rfl 45 _ kq0.out info_mag rfl (rowF_ones 4 (wd (n / m))) ?_) | (refine wpList_store_row rfl 45 (.tmp 8) (.tmp 22) rfl (w1.heap.size + 1) (magL (n % m)) rfl rfl 45 _ kr0.out info_mag rfl (rowF_ones 4 (wd (n % m))) ?_))
        clear c0 c1
        obtain ⟨L, hL⟩ : ∃ L, L = w1.heap.size := ⟨_, rfl⟩
        rw [← hL] at kA kB k4 k5 kQ kR kW ⊢
        have hL3 : w.heap.size + 1 + 1 + 1 < L := by omega
        clear hL lR kq0 kr0
        generalize World.setRow _ _ _ = W4 at kA kB k4 k5 kQ kR kW ⊢
        have hG : Keep [(w.heap.size, 25, widL s n), (w.heap.size + 1, 25, widL s m), (L, 45, magL (n / m)), (L + 1, 45, magL (n % m)), (w.heap.size + 1 + 1 + 1, 25, wid0)] (w.heap.size + 1 + 1) 25 wid0 (widL (sg (s != s) (n / m)) (n / m)) w W4.drew := by
          refine ⟨?_, .inl k4.out.drew, kW.drew⟩
          intro k hk
          simp only [List.mem_cons, List.mem_nil_iff, or_false] at hk
          rcases hk with rfl | rfl | rfl | rfl | rfl
          · exact kA.out.drew
          · exact kB.out.drew
          · exact kQ.out.drew
          · exact kR.out.drew
          · exact k5.out.drew
        refine region_kit (ds := [some 43, some 44, some 45, some 46, some 47, some 48, some 49, some 50, some 51, some 52, some 53]) [((· == w.heap.size + 1 + 1), 25, (widL (sg (s != s) (n / m)) (n / m)))] [[], [0], [], [2], [1, 3], [], [4, 5], [], [7], [], [8, 9]] (fun i => false) [.is _ 0 (.pointer (some ⟨w.heap.size, 0, none⟩)), .is _ 1 (.bool s), .is _ 2 (.pointer (some ⟨w.heap.size + 1, 0, none⟩)), .is _ 3 (.bool s), .is _ 4 (.bool (s != s)), .is _ 5 (.agg (magL (n / m))), .is _ 6 (.agg (widL (sg (s != s) (n / m)) (n / m))), .is _ 7 (.pointer (some ⟨w.heap.size + 1, 0, none⟩)), .is _ 8 (.bool s), .is _ 9 (.agg (magL (n % m))), .is _ 10 (.agg (widL (sg s (n % m)) (n % m)))] (Keep [(w.heap.size, 25, (widL s n)), (w.heap.size + 1, 25, (widL s m)), (L, 45, (magL (n / m))), (L + 1, 45, (magL (n % m))), (w.heap.size + 1 + 1 + 1, 25, wid0)] (w.heap.size + 1 + 1) 25 wid0 (widL (sg (s != s) (n / m)) (n / m)) w) follows_mixed (by kernel_rfl) (by kernel_rfl) (by kernel_rfl) (fun _ _ h he => h.ext he (by intro r hr k hk; simp only [List.mem_cons, List.mem_nil_iff, or_false] at hr hk; rcases hr with rfl <;> rcases hk with rfl | rfl | rfl | rfl | rfl <;> simp <;> omega) (by intro r hr hx; simp only [List.mem_cons, List.mem_nil_iff, or_false] at hr; rcases hr with rfl <;> simp at hx ⊢ <;> omega) (by intro r hr k hk; simp only [List.mem_cons, List.mem_nil_iff, or_false] at hr; rcases hr with rfl <;> simp <;> omega)) hG ?_ ?_
        · refine steps_cons ?_ (steps_cons ?_ (steps_cons ?_ (steps_cons ?_ (steps_cons ?_ (steps_cons ?_ (steps_cons ?_ (steps_cons ?_ (steps_cons ?_ (steps_cons ?_ (steps_cons ?_ (steps_nil)))))))))))
          · exact fun xs wx hG _ => step_value (.pointer (some ⟨w.heap.size, 0, none⟩)) (w' := wx) (by simp only [fillIn, Act.put, List.setIfInBounds_toArray, List.set_cons_zero, List.set_cons_succ]; go_simp) rfl (Below.refl _ _)
          · intro xs wx hG hF
            have f1 : xs 0 = .pointer (some ⟨w.heap.size, 0, none⟩) := hF.1
            obtain ⟨c0, c1, c2, c3, c4⟩ := wide_cells (hG.rows _ (List.mem_cons_self ..))
            exact step_value (.bool s) (w' := wx) (by simp only [fillIn, Act.put, List.setIfInBounds_toArray, List.set_cons_zero, List.set_cons_succ, f1]; go_simp) rfl (Below.refl _ _)
          · exact fun xs wx hG _ => step_value (.pointer (some ⟨w.heap.size + 1, 0, none⟩)) (w' := wx) (by simp only [fillIn, Act.put, List.setIfInBounds_toArray, List.set_cons_zero, List.set_cons_succ]; go_simp) rfl (Below.refl _ _)
          · intro xs wx hG hF
            have f1 : xs 2 = .pointer (some ⟨w.heap.size + 1, 0, none⟩) := hF.1
            obtain ⟨c0, c1, c2, c3, c4⟩ := wide_cells (hG.rows _ (List.mem_cons_of_mem _ (List.mem_cons_self ..)))
            exact step_value (.bool s) (w' := wx) (by simp only [fillIn, Act.put, List.setIfInBounds_toArray, List.set_cons_zero, List.set_cons_succ, f1]; go_simp) rfl (Below.refl _ _)
          · intro xs wx hG hF
            have f1 : xs 1 = (.bool s) := hF.1
            have f3 : xs 3 = (.bool s) := hF.2.1
            exact step_value (.bool (s != s)) (w' := wx) (by simp only [fillIn, Act.put, List.setIfInBounds_toArray, List.set_cons_zero, List.set_cons_succ, f1, f3]; go_simp) rfl (Below.refl _ _)
          · exact fun xs wx hG _ => step_row 45 (.tmp 7) rfl (L) (eval_old (by decide)) 45 (magL (n / m)) _ (hG.rows _ (List.mem_cons_of_mem _ (List.mem_cons_of_mem _ (List.mem_cons_self ..)))) under_mag rfl info_mag rfl
          · exact fun xs wx hG hF => step_call2 39 (.tmp 47) (.tmp 48) #[4, 45] (.bool (s != s)) (.agg (magL (n / m))) rfl ((eval_new (i := 4) (by decide) rfl (by simp)).trans hF.1) ((eval_new (i := 5) (by decide) rfl (by simp)).trans hF.2.1) (by kernel_rfl) (signed_any (s != s) (n / m) wx BQ.out) (fun e w' h => ⟨_, h.1, rfl, h.2⟩)
          · exact fun xs wx hG _ => step_value (.pointer (some ⟨w.heap.size + 1, 0, none⟩)) (w' := wx) (by simp only [fillIn, Act.put, List.setIfInBounds_toArray, List.set_cons_zero, List.set_cons_succ]; go_simp) rfl (Below.refl _ _)
          · intro xs wx hG hF
            have f1 : xs 7 = .pointer (some ⟨w.heap.size + 1, 0, none⟩) := hF.1
            obtain ⟨c0, c1, c2, c3, c4⟩ := wide_cells (hG.rows _ (List.mem_cons_of_mem _ (List.mem_cons_self ..)))
            exact step_value (.bool s) (w' := wx) (by simp only [fillIn, Act.put, List.setIfInBounds_toArray, List.set_cons_zero, List.set_cons_succ, f1]; go_simp) rfl (Below.refl _ _)
          · exact fun xs wx hG _ => step_row 45 (.tmp 8) rfl (L + 1) (eval_old (by decide)) 45 (magL (n % m)) _ (hG.rows _ (List.mem_cons_of_mem _ (List.mem_cons_of_mem _ (List.mem_cons_of_mem _ (List.mem_cons_self ..))))) under_mag rfl info_mag rfl
          · exact fun xs wx hG hF => step_call2 39 (.tmp 51) (.tmp 52) #[4, 45] (.bool s) (.agg (magL (n % m))) rfl ((eval_new (i := 8) (by decide) rfl (by simp)).trans hF.1) ((eval_new (i := 9) (by decide) rfl (by simp)).trans hF.2.1) (by kernel_rfl) (signed_any s (n % m) wx BR.out) (fun e w' h => ⟨_, h.1, rfl, h.2⟩)
        intro xs wx hG hA hF
        obtain ⟨f0, f1, f2, f3, f4, f5, f6, f7, f8, f9, f10, _⟩ := hF
        have f0 : xs 0 = (.pointer (some ⟨w.heap.size, 0, none⟩)) := f0
        have f1 : xs 1 = (.bool s) := f1
        have f2 : xs 2 = (.pointer (some ⟨w.heap.size + 1, 0, none⟩)) := f2
        have f3 : xs 3 = (.bool s) := f3
        have f4 : xs 4 = (.bool (s != s)) := f4
        have f5 : xs 5 = (.agg (magL (n / m))) := f5
        have f6 : xs 6 = (.agg (widL (sg (s != s) (n / m)) (n / m))) := f6
        have f7 : xs 7 = (.pointer (some ⟨w.heap.size + 1, 0, none⟩)) := f7
        have f8 : xs 8 = (.bool s) := f8
        have f9 : xs 9 = (.agg (magL (n % m))) := f9
        have f10 : xs 10 = (.agg (widL (sg s (n % m)) (n % m))) := f10
        simp only [fillIn, Act.put, List.setIfInBounds_toArray, List.set_cons_zero, List.set_cons_succ, f0, f1, f2, f3, f4, f5, f6, f7, f8, f9, f10, List.drop_succ_cons, List.drop_zero, List.length_cons, List.length_nil]
        obtain ⟨kk, kres, kW⟩ := hG
        have k5 := kk _ (List.mem_cons_of_mem _ (List.mem_cons_of_mem _ (List.mem_cons_of_mem _ (List.mem_cons_of_mem _ (List.mem_cons_self ..)))))
        clear kk
        rcases kres with k4 | k4
        · refine wpList_store_row rfl 25 (.tmp 4) (.tmp 49) rfl (w.heap.size + 1 + 1) (widL (sg (s != s) (n / m)) (n / m)) rfl rfl 25 _ k4 info_wide rfl (widF_ones _ (wd (n / m))) ?_
          refine wpList_store_row rfl 25 (.tmp 5) (.tmp 53) rfl (w.heap.size + 1 + 1 + 1) (widL (sg s (n % m)) (n % m)) rfl rfl 25 _ (Blk.rowOther k5 (by omega) _) info_wide rfl (widF_ones _ (wd (n % m))) ?_
          have K4 := Lib.hid ((Blk.row k4 (widL (sg (s != s) (n / m)) (n / m))).rowOther (k := w.heap.size + 1 + 1 + 1) (by omega) (widL (sg s (n % m)) (n % m)))
          have K5 := Lib.hid ((Blk.rowOther (k := w.heap.size + 1 + 1) k5 (by omega) (widL (sg (s != s) (n / m)) (n / m))).row (widL (sg s (n % m)) (n % m)))
          have KW := below_row (below_row kW (g := w.heap.size + 1 + 1) (by omega) (widL (sg (s != s) (n / m)) (n / m))) (g := w.heap.size + 1 + 1 + 1) (by omega) (widL (sg s (n % m)) (n % m))
          clear k4 k5 kW
          generalize World.setRow _ _ _ = W3 at K4 K5 KW ⊢
          go_wp2
          exact gives_rows_tmp rfl (w.heap.size + 1 + 1) (w.heap.size + 1 + 1 + 1) 25 25 (widL (sg (s != s) (n / m)) (n / m)) (widL (sg s (n % m)) (n % m)) _ _ (.int .i64 0) rfl rfl rfl K4.out K5.out under_wide rfl info_wide under_wide rfl info_wide rfl ⟨by rw [HV.out], KW⟩
        · refine wpList_store_row rfl 25 (.tmp 4) (.tmp 49) rfl (w.heap.size + 1 + 1) (widL (sg (s != s) (n / m)) (n / m)) rfl rfl 25 _ k4 info_wide rfl (widF_ones _ (wd (n / m))) ?_
          refine wpList_store_row rfl 25 (.tmp 5) (.tmp 53) rfl (w.heap.size + 1 + 1 + 1) (widL (sg s (n % m)) (n % m)) rfl rfl 25 _ (Blk.rowOther k5 (by omega) _) info_wide rfl (widF_ones _ (wd (n % m))) ?_
          have K4 := Lib.hid ((Blk.row k4 (widL (sg (s != s) (n / m)) (n / m))).rowOther (k := w.heap.size + 1 + 1 + 1) (by omega) (widL (sg s (n % m)) (n % m)))
          have K5 := Lib.hid ((Blk.rowOther (k := w.heap.size + 1 + 1) k5 (by omega) (widL (sg (s != s) (n / m)) (n / m))).row (widL (sg s (n % m)) (n % m)))
          have KW := below_row (below_row kW (g := w.heap.size + 1 + 1) (by omega) (widL (sg (s != s) (n / m)) (n / m))) (g := w.heap.size + 1 + 1 + 1) (by omega) (widL (sg s (n % m)) (n % m))
          clear k4 k5 kW
          generalize World.setRow _ _ _ = W3 at K4 K5 KW ⊢
          go_wp2
          exact gives_rows_tmp rfl (w.heap.size + 1 + 1) (w.heap.size + 1 + 1 + 1) 25 25 (widL (sg (s != s) (n / m)) (n / m)) (widL (sg s (n % m)) (n % m)) _ _ (.int .i64 0) rfl rfl rfl K4.out K5.out under_wide rfl info_wide under_wide rfl info_wide rfl ⟨by rw [HV.out], KW⟩
      · have hr0 : n % m = 0 := by
          rcases hy with h | h
          · rw [hst] at h; simp at h
          · exact h
        rw [show (n % m == 0) = true by simp [hr0]] at eR
        have hne : ¬ s = t := by intro e; rw [e] at hst; simp at hst
        have hne2 : (s == t) = false := by simpa using hne
        clear hn hm h0 hq hr hx hy hr0
        go_enter Try.func30, Try.ntmps30
        go_wp2_with fail
        refine (pdivide_any n m _ HN.out HM.out H0.out).mono ?_
        rintro e w1 ⟨rfl, hb⟩
        have kA : Hid (Blk w1 (w.heap.size) 25 (widL s n)) := Blk.below ((((Blk.new _ _ _).old _).old _).old _) hb
        have kB : Hid (Blk w1 (w.heap.size + 1) 25 (widL t m)) := Blk.below (((Blk.newAt (by simp) _ _).old _).old _) hb
        have k4 : Hid (Blk w1 (w.heap.size + 1 + 1) 25 wid0) := Blk.below ((Blk.newAt (by simp) _ _).old _) hb
        have k5 : Hid (Blk w1 (w.heap.size + 1 + 1 + 1) 25 wid0) := Blk.below (Blk.newAt (by simp) _ _) hb
        have kW : Below w.heap.size w w1 := Below.trans (((((Below.refl _ _).alloc (Nat.le_refl _) _).alloc (by simp) _).alloc (by simp; omega) _).alloc (by simp; omega) _) (hb.mono (by simp; omega))
        have lR := k5.out.lt
        clear hb
        have kq0 : Hid (Blk ((w1.alloc (.cells mag0 45)).alloc (.cells mag0 45)) w1.heap.size 45 mag0) := (Blk.new _ _ _).old _
        have kr0 : Hid (Blk (((w1.alloc (.cells mag0 45)).alloc (.cells mag0 45)).setRow w1.heap.size (magL (n / m))) (w1.heap.size + 1) 45 mag0) := (Blk.newAt (by simp) _ _).rowOther (by omega) _
        have kA := Lib.hid ((((kA.out.old (.cells mag0 45)).old (.cells mag0 45)).rowOther (k := w1.heap.size) (by omega) (magL (n / m))).rowOther (k := w1.heap.size + 1) (by omega) (magL (n % m)))
        have kB := Lib.hid ((((kB.out.old (.cells mag0 45)).old (.cells mag0 45)).rowOther (k := w1.heap.size) (by omega) (magL (n / m))).rowOther (k := w1.heap.size + 1) (by omega) (magL (n % m)))
        have k4 := Lib.hid ((((k4.out.old (.cells mag0 45)).old (.cells mag0 45)).rowOther (k := w1.heap.size) (by omega) (magL (n / m))).rowOther (k := w1.heap.size + 1) (by omega) (magL (n % m)))
        have k5 := Lib.hid ((((k5.out.old (.cells mag0 45)).old (.cells mag0 45)).rowOther (k := w1.heap.size) (by omega) (magL (n / m))).rowOther (k := w1.heap.size + 1) (by omega) (magL (n % m)))
        have kQ := Lib.hid ((((Blk.new w1 45 mag0).old (.cells mag0 45)).row (magL (n / m))).rowOther (k := w1.heap.size + 1) (by omega) (magL (n % m)))
        have kR := Lib.hid (kr0.out.row (magL (n % m)))
        have kW := below_row (below_row ((kW.alloc (by omega) (.cells mag0 45)).alloc (by simp; omega) (.cells mag0 45)) (g := w1.heap.size) (by omega) (magL (n / m))) (g := w1.heap.size + 1) (by omega) (magL (n % m))
        have c0 : ((((w1.alloc (.cells mag0 45)).alloc (.cells mag0 45)).setRow w1.heap.size (magL (n / m))).setRow (w1.heap.size + 1) (magL (n % m))).cell? ⟨w.heap.size, 0, none⟩ = some (.bool s) := kA.out.cell 0
        have c1 : ((((w1.alloc (.cells mag0 45)).alloc (.cells mag0 45)).setRow w1.heap.size (magL (n / m))).setRow (w1.heap.size + 1) (magL (n % m))).cell? ⟨w.heap.size + 1, 0, none⟩ = some (.bool t) := kB.out.cell 0
        have d0 : ((((w1.alloc (.cells mag0 45)).alloc (.cells mag0 45)).setRow w1.heap.size (magL (n / m))).setRow (w1.heap.size + 1) (magL (n % m))).cell? ⟨w1.heap.size + 1, 0, none⟩ = some (.int .u64 ((wd (n % m) 0 : Nat) : Int)) := kR.out.cell 0
        have d1 : ((((w1.alloc (.cells mag0 45)).alloc (.cells mag0 45)).setRow w1.heap.size (magL (n / m))).setRow (w1.heap.size + 1) (magL (n % m))).cell? ⟨w1.heap.size + 1, 1, none⟩ = some (.int .u64 ((wd (n % m) 1 : Nat) : Int)) := kR.out.cell 1
        have d2 : ((((w1.alloc (.cells mag0 45)).alloc (.cells mag0 45)).setRow w1.heap.size (magL (n / m))).setRow (w1.heap.size + 1) (magL (n % m))).cell? ⟨w1.heap.size + 1, 2, none⟩ = some (.int .u64 ((wd (n % m) 2 : Nat) : Int)) := kR.out.cell 2
        have d3 : ((((w1.alloc (.cells mag0 45)).alloc (.cells mag0 45)).setRow w1.heap.size (magL (n / m))).setRow (w1.heap.size + 1) (magL (n % m))).cell? ⟨w1.heap.size + 1, 3, none⟩ = some (.int .u64 ((wd (n % m) 3 : Nat) : Int)) := kR.out.cell 3
        go_wp2_with (first | (refine wpList_store_row rfl 45 (.tmp 7) (.tmp 21) rfl w1.heap.size (magL (n / m)) rfl rfl 45 _ kq0.out info_mag rfl (rowF_ones 4 (wd (n / m))) ?_) | (refine wpList_store_row rfl 45 (.tmp 8) (.tmp 22) rfl (w1.heap.size + 1) (magL (n % m)) rfl rfl 45 _ kr0.out info_mag rfl (rowF_ones 4 (wd (n % m))) ?_))
        clear c0 c1 d0 d1 d2 d3
        obtain ⟨L, hL⟩ : ∃ L, L = w1.heap.size := ⟨_, rfl⟩
        rw [← hL] at kA kB k4 k5 kQ kR kW ⊢
        have hL3 : w.heap.size + 1 + 1 + 1 < L := by omega
        clear hL lR kq0 kr0
        generalize World.setRow _ _ _ = W4 at kA kB k4 k5 kQ kR kW ⊢
        have hG : Keep [(w.heap.size, 25, widL s n), (w.heap.size + 1, 25, widL t m), (L, 45, magL (n / m)), (L + 1, 45, magL (n % m)), (w.heap.size + 1 + 1 + 1, 25, wid0)] (w.heap.size + 1 + 1) 25 wid0 (widL (sg (s != t) (n / m)) (n / m)) w W4.drew := by
          refine ⟨?_, .inl k4.out.drew, kW.drew⟩
          intro k hk
          simp only [List.mem_cons, List.mem_nil_iff, or_false] at hk
          rcases hk with rfl | rfl | rfl | rfl | rfl
          · exact kA.out.drew
          · exact kB.out.drew
          · exact kQ.out.drew
          · exact kR.out.drew
          · exact k5.out.drew
        refine region_kit (ds := [some 43, some 44, some 45, some 46, some 47, some 48, some 49, some 50, some 51, some 52, some 53]) [((· == w.heap.size + 1 + 1), 25, (widL (sg (s != t) (n / m)) (n / m)))] [[], [0], [], [2], [1, 3], [], [4, 5], [], [7], [], [8, 9]] (fun i => false) [.is _ 0 (.pointer (some ⟨w.heap.size, 0, none⟩)), .is _ 1 (.bool s), .is _ 2 (.pointer (some ⟨w.heap.size + 1, 0, none⟩)), .is _ 3 (.bool t), .is _ 4 (.bool (s != t)), .is _ 5 (.agg (magL (n / m))), .is _ 6 (.agg (widL (sg (s != t) (n / m)) (n / m))), .is _ 7 (.pointer (some ⟨w.heap.size + 1, 0, none⟩)), .is _ 8 (.bool t), .is _ 9 (.agg (magL (n % m))), .is _ 10 (.agg (widL (sg t (n % m)) (n % m)))] (Keep [(w.heap.size, 25, (widL s n)), (w.heap.size + 1, 25, (widL t m)), (L, 45, (magL (n / m))), (L + 1, 45, (magL (n % m))), (w.heap.size + 1 + 1 + 1, 25, wid0)] (w.heap.size + 1 + 1) 25 wid0 (widL (sg (s != t) (n / m)) (n / m)) w) follows_mixed (by kernel_rfl) (by kernel_rfl) (by kernel_rfl) (fun _ _ h he => h.ext he (by intro r hr k hk; simp only [List.mem_cons, List.mem_nil_iff, or_false] at hr hk; rcases hr with rfl <;> rcases hk with rfl | rfl | rfl | rfl | rfl <;> simp <;> omega) (by intro r hr hx; simp only [List.mem_cons, List.mem_nil_iff, or_false] at hr; rcases hr with rfl <;> simp at hx ⊢ <;> omega) (by intro r hr k hk; simp only [List.mem_cons, List.mem_nil_iff, or_false] at hr; rcases hr with rfl <;> simp <;> omega)) hG ?_ ?_
        · refine steps_cons ?_ (steps_cons ?_ (steps_cons ?_ (steps_cons ?_ (steps_cons ?_ (steps_cons ?_ (steps_cons ?_ (steps_cons ?_ (steps_cons ?_ (steps_cons ?_ (steps_cons ?_ (steps_nil)))))))))))
          · exact fun xs wx hG _ => step_value (.pointer (some ⟨w.heap.size, 0, none⟩)) (w' := wx) (by simp only [fillIn, Act.put, List.setIfInBounds_toArray, List.set_cons_zero, List.set_cons_succ]; go_simp) rfl (Below.refl _ _)
          · intro xs wx hG hF
            have f1 : xs 0 = .pointer (some ⟨w.heap.size, 0, none⟩) := hF.1
            obtain ⟨c0, c1, c2, c3, c4⟩ := wide_cells (hG.rows _ (List.mem_cons_self ..))
            exact step_value (.bool s) (w' := wx) (by simp only [fillIn, Act.put, List.setIfInBounds_toArray, List.set_cons_zero, List.set_cons_succ, f1]; go_simp) rfl (Below.refl _ _)
          · exact fun xs wx hG _ => step_value (.pointer (some ⟨w.heap.size + 1, 0, none⟩)) (w' := wx) (by simp only [fillIn, Act.put, List.setIfInBounds_toArray, List.set_cons_zero, List.set_cons_succ]; go_simp) rfl (Below.refl _ _)
          · intro xs wx hG hF
            have f1 : xs 2 = .pointer (some ⟨w.heap.size + 1, 0, none⟩) := hF.1
            obtain ⟨c0, c1, c2, c3, c4⟩ := wide_cells (hG.rows _ (List.mem_cons_of_mem _ (List.mem_cons_self ..)))
            exact step_value (.bool t) (w' := wx) (by simp only [fillIn, Act.put, List.setIfInBounds_toArray, List.set_cons_zero, List.set_cons_succ, f1]; go_simp) rfl (Below.refl _ _)
          · intro xs wx hG hF
            have f1 : xs 1 = (.bool s) := hF.1
            have f3 : xs 3 = (.bool t) := hF.2.1
            exact step_value (.bool (s != t)) (w' := wx) (by simp only [fillIn, Act.put, List.setIfInBounds_toArray, List.set_cons_zero, List.set_cons_succ, f1, f3]; go_simp) rfl (Below.refl _ _)
          · exact fun xs wx hG _ => step_row 45 (.tmp 7) rfl (L) (eval_old (by decide)) 45 (magL (n / m)) _ (hG.rows _ (List.mem_cons_of_mem _ (List.mem_cons_of_mem _ (List.mem_cons_self ..)))) under_mag rfl info_mag rfl
          · exact fun xs wx hG hF => step_call2 39 (.tmp 47) (.tmp 48) #[4, 45] (.bool (s != t)) (.agg (magL (n / m))) rfl ((eval_new (i := 4) (by decide) rfl (by simp)).trans hF.1) ((eval_new (i := 5) (by decide) rfl (by simp)).trans hF.2.1) (by kernel_rfl) (signed_any (s != t) (n / m) wx BQ.out) (fun e w' h => ⟨_, h.1, rfl, h.2⟩)
          · exact fun xs wx hG _ => step_value (.pointer (some ⟨w.heap.size + 1, 0, none⟩)) (w' := wx) (by simp only [fillIn, Act.put, List.setIfInBounds_toArray, List.set_cons_zero, List.set_cons_succ]; go_simp) rfl (Below.refl _ _)
          · intro xs wx hG hF
            have f1 : xs 7 = .pointer (some ⟨w.heap.size + 1, 0, none⟩) := hF.1
            obtain ⟨c0, c1, c2, c3, c4⟩ := wide_cells (hG.rows _ (List.mem_cons_of_mem _ (List.mem_cons_self ..)))
            exact step_value (.bool t) (w' := wx) (by simp only [fillIn, Act.put, List.setIfInBounds_toArray, List.set_cons_zero, List.set_cons_succ, f1]; go_simp) rfl (Below.refl _ _)
          · exact fun xs wx hG _ => step_row 45 (.tmp 8) rfl (L + 1) (eval_old (by decide)) 45 (magL (n % m)) _ (hG.rows _ (List.mem_cons_of_mem _ (List.mem_cons_of_mem _ (List.mem_cons_of_mem _ (List.mem_cons_self ..))))) under_mag rfl info_mag rfl
          · exact fun xs wx hG hF => step_call2 39 (.tmp 51) (.tmp 52) #[4, 45] (.bool t) (.agg (magL (n % m))) rfl ((eval_new (i := 8) (by decide) rfl (by simp)).trans hF.1) ((eval_new (i := 9) (by decide) rfl (by simp)).trans hF.2.1) (by kernel_rfl) (signed_any t (n % m) wx BR.out) (fun e w' h => ⟨_, h.1, rfl, h.2⟩)
        intro xs wx hG hA hF
        obtain ⟨f0, f1, f2, f3, f4, f5, f6, f7, f8, f9, f10, _⟩ := hF
        have f0 : xs 0 = (.pointer (some ⟨w.heap.size, 0, none⟩)) := f0
        have f1 : xs 1 = (.bool s) := f1
        have f2 : xs 2 = (.pointer (some ⟨w.heap.size + 1, 0, none⟩)) := f2
        have f3 : xs 3 = (.bool t) := f3
        have f4 : xs 4 = (.bool (s != t)) := f4
        have f5 : xs 5 = (.agg (magL (n / m))) := f5
        have f6 : xs 6 = (.agg (widL (sg (s != t) (n / m)) (n / m))) := f6
        have f7 : xs 7 = (.pointer (some ⟨w.heap.size + 1, 0, none⟩)) := f7
        have f8 : xs 8 = (.bool t) := f8
        have f9 : xs 9 = (.agg (magL (n % m))) := f9
        have f10 : xs 10 = (.agg (widL (sg t (n % m)) (n % m))) := f10
        simp only [fillIn, Act.put, List.setIfInBounds_toArray, List.set_cons_zero, List.set_cons_succ, f0, f1, f2, f3, f4, f5, f6, f7, f8, f9, f10, List.drop_succ_cons, List.drop_zero, List.length_cons, List.length_nil]
        obtain ⟨kk, kres, kW⟩ := hG
        have k5 := kk _ (List.mem_cons_of_mem _ (List.mem_cons_of_mem _ (List.mem_cons_of_mem _ (List.mem_cons_of_mem _ (List.mem_cons_self ..)))))
        clear kk
        rcases kres with k4 | k4
        · refine wpList_store_row rfl 25 (.tmp 4) (.tmp 49) rfl (w.heap.size + 1 + 1) (widL (sg (s != t) (n / m)) (n / m)) rfl rfl 25 _ k4 info_wide rfl (widF_ones _ (wd (n / m))) ?_
          refine wpList_store_row rfl 25 (.tmp 5) (.tmp 53) rfl (w.heap.size + 1 + 1 + 1) (widL (sg t (n % m)) (n % m)) rfl rfl 25 _ (Blk.rowOther k5 (by omega) _) info_wide rfl (widF_ones _ (wd (n % m))) ?_
          have K4 := Lib.hid ((Blk.row k4 (widL (sg (s != t) (n / m)) (n / m))).rowOther (k := w.heap.size + 1 + 1 + 1) (by omega) (widL (sg t (n % m)) (n % m)))
          have K5 := Lib.hid ((Blk.rowOther (k := w.heap.size + 1 + 1) k5 (by omega) (widL (sg (s != t) (n / m)) (n / m))).row (widL (sg t (n % m)) (n % m)))
          have KW := below_row (below_row kW (g := w.heap.size + 1 + 1) (by omega) (widL (sg (s != t) (n / m)) (n / m))) (g := w.heap.size + 1 + 1 + 1) (by omega) (widL (sg t (n % m)) (n % m))
          clear k4 k5 kW
          generalize World.setRow _ _ _ = W3 at K4 K5 KW ⊢
          go_wp2
          exact gives_rows_tmp rfl (w.heap.size + 1 + 1) (w.heap.size + 1 + 1 + 1) 25 25 (widL (sg (s != t) (n / m)) (n / m)) (widL (sg t (n % m)) (n % m)) _ _ (.int .i64 0) rfl rfl rfl K4.out K5.out under_wide rfl info_wide under_wide rfl info_wide rfl ⟨by rw [HV.out], KW⟩
        · refine wpList_store_row rfl 25 (.tmp 4) (.tmp 49) rfl (w.heap.size + 1 + 1) (widL (sg (s != t) (n / m)) (n / m)) rfl rfl 25 _ k4 info_wide rfl (widF_ones _ (wd (n / m))) ?_
          refine wpList_store_row rfl 25 (.tmp 5) (.tmp 53) rfl (w.heap.size + 1 + 1 + 1) (widL (sg t (n % m)) (n % m)) rfl rfl 25 _ (Blk.rowOther k5 (by omega) _) info_wide rfl (widF_ones _ (wd (n % m))) ?_
          have K4 := Lib.hid ((Blk.row k4 (widL (sg (s != t) (n / m)) (n / m))).rowOther (k := w.heap.size + 1 + 1 + 1) (by omega) (widL (sg t (n % m)) (n % m)))
          have K5 := Lib.hid ((Blk.rowOther (k := w.heap.size + 1 + 1) k5 (by omega) (widL (sg (s != t) (n / m)) (n / m))).row (widL (sg t (n % m)) (n % m)))
          have KW := below_row (below_row kW (g := w.heap.size + 1 + 1) (by omega) (widL (sg (s != t) (n / m)) (n / m))) (g := w.heap.size + 1 + 1 + 1) (by omega) (widL (sg t (n % m)) (n % m))
          clear k4 k5 kW
          generalize World.setRow _ _ _ = W3 at K4 K5 KW ⊢
          go_wp2
          exact gives_rows_tmp rfl (w.heap.size + 1 + 1) (w.heap.size + 1 + 1 + 1) 25 25 (widL (sg (s != t) (n / m)) (n / m)) (widL (sg t (n % m)) (n % m)) _ _ (.int .i64 0) rfl rfl rfl K4.out K5.out under_wide rfl info_wide under_wide rfl info_wide rfl ⟨by rw [HV.out], KW⟩
end Go.Proofs.Ytnpgikjahfhaoaa
