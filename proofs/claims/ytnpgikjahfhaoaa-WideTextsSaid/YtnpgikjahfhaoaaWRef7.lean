/-
  The reference's division of magnitudes, and even.
-/
import Derived.Test.YtnpgikjahfhaoaaWBits
import Derived.Test.YtnpgikjahfhaoaaWTool
import Derived.Test.YtnpgikjahfhaoaaKit
import Derived.Test.YtnpgikjahfhaoaaWAdd
import Derived.Test.YtnpgikjahfhaoaaWSub
namespace Go.Proofs.Ytnpgikjahfhaoaa
open Go.RowKit Go.Proofs.WM Go.Proofs.Reg

theorem half_even1 {T b : Nat} (hT : T % 2 = 0) (hb : b ≤ 1) : hw (T + b) 0 = hw T 0 + b ∧ ∀ j, hw (T + b) (j + 1) = hw T (j + 1) := by
  unfold hw dg
  refine ⟨?_, fun j => ?_⟩
  · rw [Nat.pow_zero, Nat.div_one, Nat.div_one]; omega
  · have : (T + b) / 4294967296 ^ (j + 1) = T / 4294967296 ^ (j + 1) := by
      rw [Nat.pow_succ, Nat.mul_comm (4294967296 ^ j), ← Nat.div_div_eq_div_mul, ← Nat.div_div_eq_div_mul]
      congr 1
      omega
    rw [this]
theorem halL_even1 {T b : Nat} (hT : T % 2 = 0) (hb : b ≤ 1) : (halL T).setIfInBounds 0 (.int .u64 ((hw (T + b) 0 : Nat) : Int)) = halL (T + b) := by
  obtain ⟨_, h⟩ := half_even1 hT hb
  rw [show halL (T + b) = #[.int .u64 ((hw (T + b) 0 : Nat) : Int), .int .u64 ((hw (T + b) 1 : Nat) : Int), .int .u64 ((hw (T + b) 2 : Nat) : Int), .int .u64 ((hw (T + b) 3 : Nat) : Int), .int .u64 ((hw (T + b) 4 : Nat) : Int), .int .u64 ((hw (T + b) 5 : Nat) : Int), .int .u64 ((hw (T + b) 6 : Nat) : Int), .int .u64 ((hw (T + b) 7 : Nat) : Int)] from rfl, h 0, h 1, h 2, h 3, h 4, h 5, h 6]
  rfl

set_option maxHeartbeats 2000000 in
theorem rdivide_any (n m : Nat) (w : World) (hn : n < M256) (hm : m < M256) (h0 : 0 < m) :
    Calls Try.prog 53 #[.agg (halL n), .agg (halL m)] w (Gives (.tuple #[.agg (halL (n / m)), .agg (halL (n % m))]) w) := by
  have HN := Lib.hid hn
  have HM := Lib.hid hm
  have H0 := Lib.hid h0
  clear hn hm h0
  obtain ⟨xs, hx⟩ : ∃ xs, xs = halL n := ⟨_, rfl⟩
  obtain ⟨ys, hy⟩ : ∃ ys, ys = halL m := ⟨_, rfl⟩
  rw [← hx, ← hy]
  have HX := Lib.hid hx
  have HY := Lib.hid hy
  clear hx hy
  go_enter Try.func53, Try.ntmps53
  go_wp2_with fail
  go_loopw [8, 9, 10, 11] (fun s8 _ _ _ wr => ∃ k : Nat, k ≤ 256 ∧ s8 = .int .i64 ((k : Int) - 1) ∧ Hid (Blk wr w.heap.size 48 (halL n)) ∧ Hid (Blk wr (w.heap.size + 1) 48 (halL m)) ∧ Hid (Blk wr (w.heap.size + 1 + 1) 48 hal0) ∧ Hid (Blk wr (w.heap.size + 1 + 1 + 1) 48 hal0) ∧ Hid (Blk wr (w.heap.size + 1 + 1 + 1 + 1) 48 (halL (qhi (n / m) k))) ∧ Hid (Blk wr (w.heap.size + 1 + 1 + 1 + 1 + 1) 48 (halL (n / 2 ^ k % m))) ∧ Below w.heap.size w wr) (fun s8 _ _ _ _ => (intOf s8 + 1).toNat)
  case atStart =>
    have hp : M256 = 2 ^ 256 := by decide
    have e1 : n / 2 ^ 256 % m = 0 := by rw [Nat.div_eq_of_lt (hp ▸ HN.out), Nat.zero_mod]
    have e2 : qhi (n / m) 256 = 0 := qhi_top (hp ▸ Nat.lt_of_le_of_lt (Nat.div_le_self _ _) HN.out)
    exact ⟨256, by omega, rfl, ((((((Blk.new _ _ _).old _).old _).old _).old _).old _).of_eq HX.out, (((((Blk.newAt (by simp) _ _).old _).old _).old _).old _).of_eq HY.out, (((Blk.newAt (by simp) _ _).old _).old _).old _, ((Blk.newAt (by simp) _ _).old _).old _, ((Blk.newAt (by simp) _ _).old _).of_eq (by rw [e2]; exact halL0), (Blk.newAt (by simp) _ _).of_eq (by rw [e1]; exact halL0), ((((((Below.refl _ _).alloc (Nat.le_refl _) _).alloc (by simp) _).alloc (by simp; omega) _).alloc (by simp; omega) _).alloc (by simp; omega) _).alloc (by simp; omega) _⟩
  case round =>
    obtain ⟨k, hk, rfl, kA, kB, k1, k2, kQ, kR, kW⟩ := hrel
    rcases Nat.eq_zero_or_pos k with hk0 | hk0
    · subst hk0
      rw [qhi_zero] at kQ
      rw [Nat.pow_zero, Nat.div_one] at kR
      have hG : Keep [(w.heap.size + 1 + 1 + 1 + 1, 48, halL (n / m)), (w.heap.size + 1 + 1 + 1 + 1 + 1, 48, halL (n % m)), (w.heap.size + 1 + 1 + 1, 48, hal0)] (w.heap.size + 1 + 1) 48 hal0 (halL (n / m)) w wr.drew := by
        refine ⟨?_, .inl k1.out.drew, kW.drew⟩
        intro k hk
        simp only [List.mem_cons, List.mem_nil_iff, or_false] at hk
        rcases hk with rfl | rfl | rfl
        · exact kQ.out.drew
        · exact kR.out.drew
        · exact k2.out.drew
      clear kA kB k1 k2 kQ kR kW
      go_wp2_with fail
      refine region_kit (ds := [some 56, some 57, none]) [((· == w.heap.size + 1 + 1), 48, (halL (n / m)))] [[], [], [0]] (fun i => false) [.is _ 0 (.agg (halL (n / m))), .is _ 1 (.agg (halL (n % m))), .row _ (w.heap.size + 1 + 1) 48 (halL (n / m)) (by intro r hr hx; simp only [List.mem_cons, List.mem_nil_iff, or_false] at hr; rcases hr with rfl <;> simp at hx ⊢ <;> omega)] (Keep [(w.heap.size + 1 + 1 + 1 + 1, 48, (halL (n / m))), (w.heap.size + 1 + 1 + 1 + 1 + 1, 48, (halL (n % m))), (w.heap.size + 1 + 1 + 1, 48, hal0)] (w.heap.size + 1 + 1) 48 hal0 (halL (n / m)) w) follows_mixed (by kernel_rfl) (by kernel_rfl) (by kernel_rfl) (fun _ _ h he => h.ext he (by intro r hr k hk; simp only [List.mem_cons, List.mem_nil_iff, or_false] at hr hk; rcases hr with rfl <;> rcases hk with rfl | rfl | rfl <;> simp <;> omega) (by intro r hr hx; simp only [List.mem_cons, List.mem_nil_iff, or_false] at hr; rcases hr with rfl <;> simp at hx ⊢ <;> omega) (by intro r hr k hk; simp only [List.mem_cons, List.mem_nil_iff, or_false] at hr; rcases hr with rfl <;> simp <;> omega)) hG ?_ ?_
      · refine steps_cons ?_ (steps_cons ?_ (steps_cons ?_ (steps_nil)))
        · exact fun xs wx hG _ => step_row 48 (.tmp 6) rfl (w.heap.size + 1 + 1 + 1 + 1) (eval_old (by decide)) 48 (halL (n / m)) _ (hG.rows _ (List.mem_cons_self ..)) under_arr8 rfl info_arr8 rfl
        · exact fun xs wx hG _ => step_row 48 (.tmp 7) rfl (w.heap.size + 1 + 1 + 1 + 1 + 1) (eval_old (by decide)) 48 (halL (n % m)) _ (hG.rows _ (List.mem_cons_of_mem _ (List.mem_cons_self ..))) under_arr8 rfl info_arr8 rfl
        · intro xs wx hG hF
          rcases hG.res with hr | hr
          · exact step_store 48 (.tmp 4) (.tmp 56) rfl (w.heap.size + 1 + 1) (halL (n / m)) (eval_old (by decide)) ((eval_new (i := 0) (by decide) rfl (by simp)).trans hF.1) _ _ hr info_arr8 rfl (rowF_ones 8 (hw (n / m))) ⟨_, (List.mem_cons_self ..), by simp, rfl, rfl⟩ (Blk.row hr _)
          · exact step_store 48 (.tmp 4) (.tmp 56) rfl (w.heap.size + 1 + 1) (halL (n / m)) (eval_old (by decide)) ((eval_new (i := 0) (by decide) rfl (by simp)).trans hF.1) _ _ hr info_arr8 rfl (rowF_ones 8 (hw (n / m))) ⟨_, (List.mem_cons_self ..), by simp, rfl, rfl⟩ (Blk.row hr _)
      intro xs wx hG hA hF
      obtain ⟨f0, f1, f2, _⟩ := hF
      have f0 : xs 0 = (.agg (halL (n / m))) := f0
      have f1 : xs 1 = (.agg (halL (n % m))) := f1
      simp only [fillIn, Act.put, List.setIfInBounds_toArray, List.set_cons_zero, List.set_cons_succ, f0, f1, List.drop_succ_cons, List.drop_zero, List.length_cons, List.length_nil]
      obtain ⟨kk, _, kW⟩ := hG
      have k2 : Blk wx (w.heap.size + 1 + 1 + 1) 48 hal0 := kk _ (List.mem_cons_of_mem _ (List.mem_cons_of_mem _ (List.mem_cons_self ..)))
      refine wpList_store_row rfl 48 (.tmp 5) (.tmp 57) rfl (w.heap.size + 1 + 1 + 1) (halL (n % m)) rfl rfl 48 _ k2 info_arr8 rfl (rowF_ones 8 (hw (n % m))) ?_
      have K1 : Hid (Blk (wx.setRow (w.heap.size + 1 + 1 + 1) (halL (n % m))) (w.heap.size + 1 + 1) 48 (halL (n / m))) := Blk.rowOther f2 (by omega) _
      have K2 := Lib.hid (k2.row (halL (n % m)))
      have KW := below_row kW (g := (w.heap.size + 1 + 1 + 1)) (by omega) (halL (n % m))
      clear kk k2 f0 f1 f2 kW
      generalize World.setRow _ _ _ = W9 at K1 K2 KW ⊢
      go_wp2
      exact gives_rows rfl (w.heap.size + 1 + 1) (w.heap.size + 1 + 1 + 1) 48 48 (halL (n / m)) (halL (n % m)) _ _ rfl rfl K1.out K2.out under_arr8 rfl info_arr8 under_arr8 rfl info_arr8 rfl ⟨rfl, KW⟩
    · obtain ⟨i, rfl⟩ : ∃ i, k = i + 1 := ⟨k - 1, by omega⟩
      have i0 : ((i + 1 : Nat) : Int) - 1 = (i : Int) := by omega
      rw [i0]
      have bR : n / 2 ^ (i + 1) % m < M256 := Nat.lt_trans (Nat.mod_lt _ H0.out) HM.out
      have BR := Lib.hid bR
      clear bR i0
      have ht32 : i % 32 < 32 := Nat.mod_lt _ (by decide)
      obtain ⟨bt, hbt⟩ : ∃ bt, bt = 2 ^ (i % 32) := ⟨_, rfl⟩
      have hbp : 0 < bt := by rw [hbt]; exact Nat.pow_pos (by decide)
      have hbl : bt ≤ 2147483648 := by
        rw [hbt, show (2147483648 : Nat) = 2 ^ 31 by decide]
        exact Nat.pow_le_pow_right (by decide) (by omega)
      have eb : IntKind.u64.wrap ((2 : Int) ^ (i % 32)) = (bt : Int) := by
        have e : (2 : Int) ^ (i % 32) = ((2 ^ (i % 32) : Nat) : Int) := by simp
        rw [e, ← hbt]
        exact wrap_in _ (by omega) (by omega)
      have HBT := Lib.hid hbt
      obtain ⟨r, hr⟩ : ∃ r, r = n / 2 ^ (i + 1) % m := ⟨_, rfl⟩
      obtain ⟨b, hb⟩ : ∃ b, b = n / 2 ^ i % 2 := ⟨_, rfl⟩
      have hb1 : b ≤ 1 := by omega
      have hrm : r < m := by rw [hr]; exact Nat.mod_lt _ H0.out
      have HBD := Lib.hid (bit_down (n := n) (m := m) (i := i) (r := 2 * r + b) H0.out (by rw [hr, hb]))
      rw [← hr] at kR BR
      obtain ⟨T, hT⟩ : ∃ T, T = addM r r := ⟨_, rfl⟩
      obtain ⟨O, hO⟩ : ∃ O, O = overB r r := ⟨_, rfl⟩
      have hplus := rplus_any r r wr BR.out BR.out
      rw [← hT, ← hO] at hplus
      have hT2 : T % 2 = 0 := by
        rw [hT]
        unfold addM M256
        omega
      have HT := Lib.hid hT
      have HO := Lib.hid hO
      have HB := Lib.hid hb
      clear hbt hr hb hT hO
      go_wp2_with (refine wpList_load_row rfl 48 (.tmp 7) rfl (w.heap.size + 1 + 1 + 1 + 1 + 1) rfl 48 _ (0, 0) _ kR.out under_arr8 rfl info_arr8 ?_)
      refine hplus.mono ?_
      rintro e w1 ⟨rfl, hbw⟩
      have kA := Lib.hid (kA.out.below hbw)
      have kB := Lib.hid (kB.out.below hbw)
      have k1 := Lib.hid (k1.out.below hbw)
      have k2 := Lib.hid (k2.out.below hbw)
      have kQ := Lib.hid (kQ.out.below hbw)
      have kR := Lib.hid (kR.out.below hbw)
      have kW := kW.trans (hbw.mono kW.size)
      have lR := kR.out.lt
      clear hbw hplus
      have kz : Hid (Blk (w1.alloc (.cells hal0 48)) w1.heap.size 48 hal0) := Blk.new _ _ _
      have kz2 := Lib.hid (kz.out.row (halL T))
      have kR0 := Lib.hid ((kR.out.old (.cells hal0 48)).rowOther (k := w1.heap.size) (by omega) (halL T))
      go_wp2_with (first | (refine wpList_store_row rfl 48 (.tmp 10) (.tmp 23) rfl w1.heap.size (halL T) rfl rfl 48 _ kz.out info_arr8 rfl (rowF_ones 8 (hw T)) ?_) | (refine wpList_load_row rfl 48 (.tmp 10) rfl w1.heap.size rfl 48 _ (0, 0) _ kz2.out under_arr8 rfl info_arr8 ?_) | (refine wpList_store_row rfl 48 (.tmp 7) (.tmp 25) rfl (w.heap.size + 1 + 1 + 1 + 1 + 1) (halL T) rfl rfl 48 _ kR0.out info_arr8 rfl (rowF_ones 8 (hw T)) ?_))
      have kA := Lib.hid (((kA.out.old (.cells hal0 48)).rowOther (k := w1.heap.size) (by omega) (halL T)).rowOther (k := (w.heap.size + 1 + 1 + 1 + 1 + 1)) (by omega) (halL T))
      have kB := Lib.hid (((kB.out.old (.cells hal0 48)).rowOther (k := w1.heap.size) (by omega) (halL T)).rowOther (k := (w.heap.size + 1 + 1 + 1 + 1 + 1)) (by omega) (halL T))
      have k1 := Lib.hid (((k1.out.old (.cells hal0 48)).rowOther (k := w1.heap.size) (by omega) (halL T)).rowOther (k := (w.heap.size + 1 + 1 + 1 + 1 + 1)) (by omega) (halL T))
      have k2 := Lib.hid (((k2.out.old (.cells hal0 48)).rowOther (k := w1.heap.size) (by omega) (halL T)).rowOther (k := (w.heap.size + 1 + 1 + 1 + 1 + 1)) (by omega) (halL T))
      have kQ := Lib.hid (((kQ.out.old (.cells hal0 48)).rowOther (k := w1.heap.size) (by omega) (halL T)).rowOther (k := (w.heap.size + 1 + 1 + 1 + 1 + 1)) (by omega) (halL T))
      have kR := Lib.hid (kR0.out.row (halL T))
      have kW := below_row (below_row (kW.alloc kW.size (.cells hal0 48)) (g := w1.heap.size) kW.size (halL T)) (g := (w.heap.size + 1 + 1 + 1 + 1 + 1)) (by omega) (halL T)
      clear kz kz2 kR0 lR
      generalize World.setRow _ _ _ = W2 at kA kB k1 k2 kQ kR kW ⊢
      have a0 : W2.cell? ⟨(w.heap.size + 1 + 1 + 1 + 1 + 1), 0, none⟩ = some (.int .u64 ((hw T 0 : Nat) : Int)) := kR.out.cell 0
      have a1 : W2.cell? ⟨w.heap.size, i / 32, none⟩ = some (.int .u64 ((hw n (i / 32) : Nat) : Int)) := by
        rw [kA.out.cell, ← rowF8]; exact rowF_at _ (by omega)
      have f0 := kR.out.frozen 0
      have hbit : hw n (i / 32) / bt % 2 = b := by rw [HBT.out, HB.out]; exact hw_bit n i
      obtain ⟨av, hav⟩ : ∃ av, av = hw n (i / 32) := ⟨_, rfl⟩
      obtain ⟨dv, hdv⟩ : ∃ dv, dv = av / bt := ⟨_, rfl⟩
      obtain ⟨t0, ht0⟩ : ∃ t0, t0 = hw T 0 := ⟨_, rfl⟩
      obtain ⟨t1, ht1⟩ : ∃ t1, t1 = hw (T + b) 0 := ⟨_, rfl⟩
      have h01 : t1 = t0 + b := by rw [ht0, ht1]; exact (half_even1 hT2 hb1).1
      have ht1l : t1 < 4294967296 := by rw [ht1]; exact hw_lt _ _
      have hav2 : av < 4294967296 := by rw [hav]; exact hw_lt _ _
      have hdv2 : dv < 4294967296 := by rw [hdv]; exact Nat.lt_of_le_of_lt (Nat.div_le_self _ _) hav2
      rw [← hav, ← hdv] at hbit
      rw [← hav] at a1
      rw [← ht0] at a0
      obtain ⟨j, hj⟩ : ∃ j, j = i / 32 := ⟨_, rfl⟩
      have hj8 : j < 8 := by omega
      have hj8i : (j : Int) < 8 := by omega
      have d1 : ((i : Nat) : Int).tdiv 32 = (j : Int) := by rw [Int.tdiv_eq_ediv_of_nonneg (by omega), hj]; rfl
      have d1b : IntKind.i64.wrap ((i : Int) / 32) = (j : Int) := by rw [Go.IntWalk.i64_in _ (by omega)]; omega
      rw [← hj] at a1
      have HJ := Lib.hid hj
      have d2 : (av : Int).tdiv (bt : Int) = (dv : Int) := by rw [Int.tdiv_eq_ediv_of_nonneg (by omega), hdv]; rfl
      have d3 : (dv : Int).tmod 2 = (b : Int) := by rw [Int.tmod_eq_emod_of_nonneg (by omega)]; omega
      have w1i : IntKind.i64.wrap (j : Int) = (j : Int) := Go.IntWalk.i64_in _ (by omega)
      have w2i : IntKind.u64.wrap (dv : Int) = (dv : Int) := wrap_in _ (by omega) (by omega)
      have s0 : IntKind.u64.wrap ((t0 : Int) + (b : Int)) = (t1 : Int) := by rw [wrap_in _ (by omega) (by omega)]; omega
      have hb0 : ¬ (bt : Int) = 0 := by omega
      have HT1 := Lib.hid ht1
      have hTb := Lib.hid (halL_even1 hT2 hb1)
      clear hav hdv ht0 ht1 h01 hav2 hdv2 hbit ht1l hj
      simp only [Act.put, List.setIfInBounds_toArray, List.set_cons_zero, List.set_cons_succ]
      go_region
      have kA := Lib.hid (Blk.drew (kA.out.other (p := ⟨(w.heap.size + 1 + 1 + 1 + 1 + 1), 0, none⟩) (by simp <;> omega) (Value.int .u64 (t1 : Int))))
      have kB := Lib.hid (Blk.drew (kB.out.other (p := ⟨(w.heap.size + 1 + 1 + 1 + 1 + 1), 0, none⟩) (by simp <;> omega) (Value.int .u64 (t1 : Int))))
      have k1 := Lib.hid (Blk.drew (k1.out.other (p := ⟨(w.heap.size + 1 + 1 + 1 + 1 + 1), 0, none⟩) (by simp <;> omega) (Value.int .u64 (t1 : Int))))
      have k2 := Lib.hid (Blk.drew (k2.out.other (p := ⟨(w.heap.size + 1 + 1 + 1 + 1 + 1), 0, none⟩) (by simp <;> omega) (Value.int .u64 (t1 : Int))))
      have kQ := Lib.hid (Blk.drew (kQ.out.other (p := ⟨(w.heap.size + 1 + 1 + 1 + 1 + 1), 0, none⟩) (by simp <;> omega) (Value.int .u64 (t1 : Int))))
      have kR := Lib.hid (Blk.drew ((kR.out.set_ 0 (Value.int .u64 (t1 : Int))).of_eq (b := halL (T + b)) (by rw [HT1.out]; exact hTb.out)))
      have kW := (kW.setCell (p := ⟨(w.heap.size + 1 + 1 + 1 + 1 + 1), 0, none⟩) (by simp <;> omega) (Value.int .u64 (t1 : Int))).drew
      generalize World.drew _ = W3 at kA kB k1 k2 kQ kR kW ⊢
      clear a0 a1 f0 d1 d1b d2 d3 w1i w2i s0 hb0 eb hTb HT1
      have hM := m_pos
      have dec : (O = true ∧ M256 ≤ 2 * r ∧ T + b = 2 * r + b - M256) ∨ (O = false ∧ 2 * r < M256 ∧ T + b = 2 * r + b ∧ 2 * r + b < M256) := by
        have h1 := HO.out
        have h2 := HT.out
        have h3 := BR.out
        unfold overB at h1
        unfold addM at h2
        by_cases h : M256 ≤ r + r
        · left
          rw [decide_eq_true h] at h1
          rw [Nat.mod_eq_sub_mod h, Nat.mod_eq_of_lt (by omega)] at h2
          exact ⟨h1, by omega, by omega⟩
        · right
          rw [decide_eq_false h] at h1
          rw [Nat.mod_eq_of_lt (by omega)] at h2
          have h4 : M256 % 2 = 0 := by decide
          exact ⟨h1, by omega, by omega, by omega⟩
      rcases dec with ⟨hO, hov, hTB⟩ | ⟨hO, hlo, hTB, hl2⟩
      · subst hO
        have hle : m ≤ 2 * r + b := by have := HM.out; omega
        obtain ⟨g1, g2⟩ := HBD.out.2 hle
        have hqs := hw_set (qhi (n / m) (i + 1)) i j (qhi_mod _ _)
        rw [if_pos HJ.out, ← HBT.out, ← qhi_next g2] at hqs
        have hql := hw_lt (qhi (n / m) i) j
        have hoth : ∀ z, z < 8 → hw (qhi (n / m) i) z = put (hw (qhi (n / m) (i + 1))) j (hw (qhi (n / m) i) j) z := fun z _ => by
          unfold put
          by_cases hz : z = j
          · rw [if_pos hz, hz]
          · rw [if_neg hz, qhi_next g2, hw_set _ i z (qhi_mod _ _), if_neg (fun e => hz (e.trans HJ.out.symm))]
        have QE0 : (halL (qhi (n / m) (i + 1))).setIfInBounds j (Value.int .u64 ((hw (qhi (n / m) i) j : Nat) : Int)) = halL (qhi (n / m) i) := by
          rw [← rowF8, rowF_set, ← rowF8]
          exact (rowF_ext hoth).symm
        obtain ⟨q1, hq1⟩ : ∃ q1, q1 = hw (qhi (n / m) (i + 1)) j := ⟨_, rfl⟩
        obtain ⟨q2, hq2⟩ : ∃ q2, q2 = hw (qhi (n / m) i) j := ⟨_, rfl⟩
        rw [← hq2] at QE0 hqs hql
        rw [← hq1] at hqs
        have qs : IntKind.u64.wrap ((q1 : Int) + (bt : Int)) = (q2 : Int) := by rw [wrap_in _ (by omega) (by omega)]; omega
        have QE := Lib.hid QE0
        have Q1 := Lib.hid hq1
        obtain ⟨Y, hY⟩ : ∃ Y, Y = 2 * r + b - m := ⟨_, rfl⟩
        have YE := Lib.hid (hY.trans g1.symm)
        have hsub : ∀ w, Calls Try.prog 49 #[.agg (halL (T + b)), .agg (halL m)] w (Gives (.agg (halL Y)) w) := fun w => by
          have h := rminus_any (T + b) m w HM.out
          have e : subN (T + b) m = Y := by
            have hm2 := HM.out
            unfold subN subM
            rw [show T + b + M256 - m = 2 * r + b - m by omega, ← hY, Nat.mod_eq_of_lt (by omega)]
          rwa [e] at h
        have HS := Lib.hid hsub
        have wj : IntKind.i64.wrap (j : Int) = (j : Int) := Go.IntWalk.i64_in _ (by omega)
        have d1 : ((i : Nat) : Int).tdiv 32 = (j : Int) := by rw [Int.tdiv_eq_ediv_of_nonneg (by omega), HJ.out]; rfl
        have d1b : IntKind.i64.wrap ((i : Int) / 32) = (j : Int) := by have := HJ.out; rw [Go.IntWalk.i64_in _ (by omega)]; omega
        have d1c : (i : Int) / 32 = (j : Int) := by have := HJ.out; omega
        clear hsub hY hqs hql hoth QE0 hq1 hq2 g1 g2
        clear hov hTB hle HO HT HBD
        go_wp2_with (first | (refine wpList_load_row rfl 48 (.tmp 7) rfl (w.heap.size + 1 + 1 + 1 + 1 + 1) rfl 48 _ (0, 0) _ kR.out under_arr8 rfl info_arr8 ?_) | (refine wpList_load_row rfl 48 (.tmp 3) rfl (w.heap.size + 1) rfl 48 _ (0, 0) _ kB.out under_arr8 rfl info_arr8 ?_))
        refine (HS.out _).mono ?_
        rintro e w4 ⟨rfl, hbw⟩
        have kA := Lib.hid (kA.out.below hbw)
        have kB := Lib.hid (kB.out.below hbw)
        have k1 := Lib.hid (k1.out.below hbw)
        have k2 := Lib.hid (k2.out.below hbw)
        have kQ := Lib.hid (kQ.out.below hbw)
        have kR := Lib.hid (kR.out.below hbw)
        have kW := kW.trans (hbw.mono kW.size)
        clear hbw
        have kQ5 := Lib.hid (kQ.out.rowOther (k := (w.heap.size + 1 + 1 + 1 + 1 + 1)) (by omega) (halL Y))
        have q0 : (w4.setRow (w.heap.size + 1 + 1 + 1 + 1 + 1) (halL Y)).cell? ⟨(w.heap.size + 1 + 1 + 1 + 1), j, none⟩ = some (.int .u64 ((q1 : Nat) : Int)) := by
          rw [kQ5.out.cell, ← rowF8, Q1.out]; exact rowF_at _ hj8
        have qf := kQ5.out.frozen j
        go_wp2_with (refine wpList_store_row rfl 48 (.tmp 7) (.tmp 46) rfl (w.heap.size + 1 + 1 + 1 + 1 + 1) (halL Y) rfl rfl 48 _ kR.out info_arr8 rfl (rowF_ones 8 (hw Y)) ?_)
        have kQ := Lib.hid ((kQ5.out.set_ j (Value.int .u64 (q2 : Int))).of_eq (b := halL (qhi (n / m) i)) QE.out)
        refine ⟨⟨i, by omega, rfl, (kA.out.rowOther (by omega) _).other (by simp <;> omega) _, (kB.out.rowOther (by omega) _).other (by simp <;> omega) _, (k1.out.rowOther (by omega) _).other (by simp <;> omega) _, (k2.out.rowOther (by omega) _).other (by simp <;> omega) _, kQ.out, ((kR.out.row _).of_eq (by rw [YE.out])).other (by simp <;> omega) _, (below_row kW (by omega) _).setCell (by simp <;> omega) _⟩, by simp [intOf]⟩
      · subst hO
        have hTl : T + b < M256 := by omega
        have TL := Lib.hid hTl
        by_cases hle : m ≤ 2 * r + b
        · have hle2 : m ≤ T + b := by omega
          have LE := Lib.hid hle2
          obtain ⟨g1, g2⟩ := HBD.out.2 hle
          have hqs := hw_set (qhi (n / m) (i + 1)) i j (qhi_mod _ _)
          rw [if_pos HJ.out, ← HBT.out, ← qhi_next g2] at hqs
          have hql := hw_lt (qhi (n / m) i) j
          have hoth : ∀ z, z < 8 → hw (qhi (n / m) i) z = put (hw (qhi (n / m) (i + 1))) j (hw (qhi (n / m) i) j) z := fun z _ => by
            unfold put
            by_cases hz : z = j
            · rw [if_pos hz, hz]
            · rw [if_neg hz, qhi_next g2, hw_set _ i z (qhi_mod _ _), if_neg (fun e => hz (e.trans HJ.out.symm))]
          have QE0 : (halL (qhi (n / m) (i + 1))).setIfInBounds j (Value.int .u64 ((hw (qhi (n / m) i) j : Nat) : Int)) = halL (qhi (n / m) i) := by
            rw [← rowF8, rowF_set, ← rowF8]
            exact (rowF_ext hoth).symm
          obtain ⟨q1, hq1⟩ : ∃ q1, q1 = hw (qhi (n / m) (i + 1)) j := ⟨_, rfl⟩
          obtain ⟨q2, hq2⟩ : ∃ q2, q2 = hw (qhi (n / m) i) j := ⟨_, rfl⟩
          rw [← hq2] at QE0 hqs hql
          rw [← hq1] at hqs
          have qs : IntKind.u64.wrap ((q1 : Int) + (bt : Int)) = (q2 : Int) := by rw [wrap_in _ (by omega) (by omega)]; omega
          have QE := Lib.hid QE0
          have Q1 := Lib.hid hq1
          obtain ⟨Y, hY⟩ : ∃ Y, Y = 2 * r + b - m := ⟨_, rfl⟩
          have YE := Lib.hid (hY.trans g1.symm)
          have hsub : ∀ w, Calls Try.prog 49 #[.agg (halL (T + b)), .agg (halL m)] w (Gives (.agg (halL Y)) w) := fun w => by
            have h := rminus_any (T + b) m w HM.out
            have e : subN (T + b) m = Y := by
              rw [subN_of_le hle2 hTl, hTB, hY]
            rwa [e] at h
          have HS := Lib.hid hsub
          have wj : IntKind.i64.wrap (j : Int) = (j : Int) := Go.IntWalk.i64_in _ (by omega)
          have d1 : ((i : Nat) : Int).tdiv 32 = (j : Int) := by rw [Int.tdiv_eq_ediv_of_nonneg (by omega), HJ.out]; rfl
          have d1b : IntKind.i64.wrap ((i : Int) / 32) = (j : Int) := by have := HJ.out; rw [Go.IntWalk.i64_in _ (by omega)]; omega
          have d1c : (i : Int) / 32 = (j : Int) := by have := HJ.out; omega
          clear hsub hY hqs hql hoth QE0 hq1 hq2 g1 g2
          clear hlo hTB hl2 hle HO HT HBD hTl hle2
          have c0 : W3.cell? ⟨(w.heap.size + 1 + 1 + 1 + 1 + 1), 0, none⟩ = some (.int .u64 ((hw (T + b) 0 : Nat) : Int)) := kR.out.cell 0
          have e0 : W3.cell? ⟨(w.heap.size + 1), 0, none⟩ = some (.int .u64 ((hw m 0 : Nat) : Int)) := kB.out.cell 0
          have c1 : W3.cell? ⟨(w.heap.size + 1 + 1 + 1 + 1 + 1), 1, none⟩ = some (.int .u64 ((hw (T + b) 1 : Nat) : Int)) := kR.out.cell 1
          have e1 : W3.cell? ⟨(w.heap.size + 1), 1, none⟩ = some (.int .u64 ((hw m 1 : Nat) : Int)) := kB.out.cell 1
          have c2 : W3.cell? ⟨(w.heap.size + 1 + 1 + 1 + 1 + 1), 2, none⟩ = some (.int .u64 ((hw (T + b) 2 : Nat) : Int)) := kR.out.cell 2
          have e2 : W3.cell? ⟨(w.heap.size + 1), 2, none⟩ = some (.int .u64 ((hw m 2 : Nat) : Int)) := kB.out.cell 2
          have c3 : W3.cell? ⟨(w.heap.size + 1 + 1 + 1 + 1 + 1), 3, none⟩ = some (.int .u64 ((hw (T + b) 3 : Nat) : Int)) := kR.out.cell 3
          have e3 : W3.cell? ⟨(w.heap.size + 1), 3, none⟩ = some (.int .u64 ((hw m 3 : Nat) : Int)) := kB.out.cell 3
          have c4 : W3.cell? ⟨(w.heap.size + 1 + 1 + 1 + 1 + 1), 4, none⟩ = some (.int .u64 ((hw (T + b) 4 : Nat) : Int)) := kR.out.cell 4
          have e4 : W3.cell? ⟨(w.heap.size + 1), 4, none⟩ = some (.int .u64 ((hw m 4 : Nat) : Int)) := kB.out.cell 4
          have c5 : W3.cell? ⟨(w.heap.size + 1 + 1 + 1 + 1 + 1), 5, none⟩ = some (.int .u64 ((hw (T + b) 5 : Nat) : Int)) := kR.out.cell 5
          have e5 : W3.cell? ⟨(w.heap.size + 1), 5, none⟩ = some (.int .u64 ((hw m 5 : Nat) : Int)) := kB.out.cell 5
          have c6 : W3.cell? ⟨(w.heap.size + 1 + 1 + 1 + 1 + 1), 6, none⟩ = some (.int .u64 ((hw (T + b) 6 : Nat) : Int)) := kR.out.cell 6
          have e6 : W3.cell? ⟨(w.heap.size + 1), 6, none⟩ = some (.int .u64 ((hw m 6 : Nat) : Int)) := kB.out.cell 6
          have c7 : W3.cell? ⟨(w.heap.size + 1 + 1 + 1 + 1 + 1), 7, none⟩ = some (.int .u64 ((hw (T + b) 7 : Nat) : Int)) := kR.out.cell 7
          have e7 : W3.cell? ⟨(w.heap.size + 1), 7, none⟩ = some (.int .u64 ((hw m 7 : Nat) : Int)) := kB.out.cell 7
          go_wp2_with fail
          clear c0 e0 c1 e1 c2 e2 c3 e3 c4 e4 c5 e5 c6 e6 c7 e7
          refine (rcompare_ge (T + b) m _ TL.out HM.out LE.out).mono ?_
          rintro e w3 ⟨c, hc, rfl, hbw⟩
          have kA := Lib.hid (kA.out.below hbw)
          have kB := Lib.hid (kB.out.below hbw)
          have k1 := Lib.hid (k1.out.below hbw)
          have k2 := Lib.hid (k2.out.below hbw)
          have kQ := Lib.hid (kQ.out.below hbw)
          have kR := Lib.hid (kR.out.below hbw)
          have kW := kW.trans (hbw.mono kW.size)
          clear hbw
          go_wp2_with (first | (refine wpList_load_row rfl 48 (.tmp 7) rfl (w.heap.size + 1 + 1 + 1 + 1 + 1) rfl 48 _ (0, 0) _ kR.out under_arr8 rfl info_arr8 ?_) | (refine wpList_load_row rfl 48 (.tmp 3) rfl (w.heap.size + 1) rfl 48 _ (0, 0) _ kB.out under_arr8 rfl info_arr8 ?_))
          refine (HS.out _).mono ?_
          rintro e w4 ⟨rfl, hbw⟩
          have kA := Lib.hid (kA.out.below hbw)
          have kB := Lib.hid (kB.out.below hbw)
          have k1 := Lib.hid (k1.out.below hbw)
          have k2 := Lib.hid (k2.out.below hbw)
          have kQ := Lib.hid (kQ.out.below hbw)
          have kR := Lib.hid (kR.out.below hbw)
          have kW := kW.trans (hbw.mono kW.size)
          clear hbw
          have kQ5 := Lib.hid (kQ.out.rowOther (k := (w.heap.size + 1 + 1 + 1 + 1 + 1)) (by omega) (halL Y))
          have q0 : (w4.setRow (w.heap.size + 1 + 1 + 1 + 1 + 1) (halL Y)).cell? ⟨(w.heap.size + 1 + 1 + 1 + 1), j, none⟩ = some (.int .u64 ((q1 : Nat) : Int)) := by
            rw [kQ5.out.cell, ← rowF8, Q1.out]; exact rowF_at _ hj8
          have qf := kQ5.out.frozen j
          go_wp2_with (refine wpList_store_row rfl 48 (.tmp 7) (.tmp 46) rfl (w.heap.size + 1 + 1 + 1 + 1 + 1) (halL Y) rfl rfl 48 _ kR.out info_arr8 rfl (rowF_ones 8 (hw Y)) ?_)
          have kQ := Lib.hid ((kQ5.out.set_ j (Value.int .u64 (q2 : Int))).of_eq (b := halL (qhi (n / m) i)) QE.out)
          refine ⟨⟨i, by omega, rfl, (kA.out.rowOther (by omega) _).other (by simp <;> omega) _, (kB.out.rowOther (by omega) _).other (by simp <;> omega) _, (k1.out.rowOther (by omega) _).other (by simp <;> omega) _, (k2.out.rowOther (by omega) _).other (by simp <;> omega) _, kQ.out, ((kR.out.row _).of_eq (by rw [YE.out])).other (by simp <;> omega) _, (below_row kW (by omega) _).setCell (by simp <;> omega) _⟩, by simp [intOf]⟩
        · have LT := Lib.hid (show T + b < m by omega)
          obtain ⟨g1, g2⟩ := HBD.out.1 (by omega)
          have QE := Lib.hid (qhi_same g2)
          have YE := Lib.hid (hTB.trans g1.symm)
          clear hlo hTB hl2 hle HO HT HBD hTl g1 g2
          have c0 : W3.cell? ⟨(w.heap.size + 1 + 1 + 1 + 1 + 1), 0, none⟩ = some (.int .u64 ((hw (T + b) 0 : Nat) : Int)) := kR.out.cell 0
          have e0 : W3.cell? ⟨(w.heap.size + 1), 0, none⟩ = some (.int .u64 ((hw m 0 : Nat) : Int)) := kB.out.cell 0
          have c1 : W3.cell? ⟨(w.heap.size + 1 + 1 + 1 + 1 + 1), 1, none⟩ = some (.int .u64 ((hw (T + b) 1 : Nat) : Int)) := kR.out.cell 1
          have e1 : W3.cell? ⟨(w.heap.size + 1), 1, none⟩ = some (.int .u64 ((hw m 1 : Nat) : Int)) := kB.out.cell 1
          have c2 : W3.cell? ⟨(w.heap.size + 1 + 1 + 1 + 1 + 1), 2, none⟩ = some (.int .u64 ((hw (T + b) 2 : Nat) : Int)) := kR.out.cell 2
          have e2 : W3.cell? ⟨(w.heap.size + 1), 2, none⟩ = some (.int .u64 ((hw m 2 : Nat) : Int)) := kB.out.cell 2
          have c3 : W3.cell? ⟨(w.heap.size + 1 + 1 + 1 + 1 + 1), 3, none⟩ = some (.int .u64 ((hw (T + b) 3 : Nat) : Int)) := kR.out.cell 3
          have e3 : W3.cell? ⟨(w.heap.size + 1), 3, none⟩ = some (.int .u64 ((hw m 3 : Nat) : Int)) := kB.out.cell 3
          have c4 : W3.cell? ⟨(w.heap.size + 1 + 1 + 1 + 1 + 1), 4, none⟩ = some (.int .u64 ((hw (T + b) 4 : Nat) : Int)) := kR.out.cell 4
          have e4 : W3.cell? ⟨(w.heap.size + 1), 4, none⟩ = some (.int .u64 ((hw m 4 : Nat) : Int)) := kB.out.cell 4
          have c5 : W3.cell? ⟨(w.heap.size + 1 + 1 + 1 + 1 + 1), 5, none⟩ = some (.int .u64 ((hw (T + b) 5 : Nat) : Int)) := kR.out.cell 5
          have e5 : W3.cell? ⟨(w.heap.size + 1), 5, none⟩ = some (.int .u64 ((hw m 5 : Nat) : Int)) := kB.out.cell 5
          have c6 : W3.cell? ⟨(w.heap.size + 1 + 1 + 1 + 1 + 1), 6, none⟩ = some (.int .u64 ((hw (T + b) 6 : Nat) : Int)) := kR.out.cell 6
          have e6 : W3.cell? ⟨(w.heap.size + 1), 6, none⟩ = some (.int .u64 ((hw m 6 : Nat) : Int)) := kB.out.cell 6
          have c7 : W3.cell? ⟨(w.heap.size + 1 + 1 + 1 + 1 + 1), 7, none⟩ = some (.int .u64 ((hw (T + b) 7 : Nat) : Int)) := kR.out.cell 7
          have e7 : W3.cell? ⟨(w.heap.size + 1), 7, none⟩ = some (.int .u64 ((hw m 7 : Nat) : Int)) := kB.out.cell 7
          go_wp2_with fail
          clear c0 e0 c1 e1 c2 e2 c3 e3 c4 e4 c5 e5 c6 e6 c7 e7
          refine (rcompare_lt (T + b) m _ TL.out HM.out LT.out).mono ?_
          rintro e w3 ⟨c, hc, rfl, hbw⟩
          have kA := Lib.hid (kA.out.below hbw)
          have kB := Lib.hid (kB.out.below hbw)
          have k1 := Lib.hid (k1.out.below hbw)
          have k2 := Lib.hid (k2.out.below hbw)
          have kQ := Lib.hid (kQ.out.below hbw)
          have kR := Lib.hid (kR.out.below hbw)
          have kW := kW.trans (hbw.mono kW.size)
          clear hbw
          go_wp2
          exact ⟨⟨i, by omega, rfl, kA.out, kB.out, k1.out, k2.out, kQ.out.of_eq (by rw [QE.out]), kR.out.of_eq (by rw [YE.out]), kW⟩, by simp [intOf]⟩
end Go.Proofs.Ytnpgikjahfhaoaa
