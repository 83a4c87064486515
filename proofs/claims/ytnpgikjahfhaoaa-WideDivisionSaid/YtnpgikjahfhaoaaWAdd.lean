/-
  Sums of magnitudes.
-/
import Derived.Test.YtnpgikjahfhaoaaWSplit
namespace Go.Proofs.Ytnpgikjahfhaoaa
open Go.RowKit Go.Proofs.WM

/-- The sum without what is above 2^256. -/
def addM (n m : Nat) : Nat := (n + m) % M256
def overB (n m : Nat) : Bool := decide (M256 ≤ n + m)
theorem addM_lt (n m : Nat) : addM n m < M256 := Nat.mod_lt _ m_pos
theorem hw_addM (n m i : Nat) (hi : i < 8) : hw (addM n m) i = hw (n + m) i := by
  unfold hw addM
  rw [m_pow8]
  exact dg_mod hi
theorem wd_addM (n m i : Nat) (hi : i < 4) : wd (addM n m) i = wd (n + m) i := by
  unfold wd addM
  rw [m_pow4]
  exact dg_mod hi
theorem cy_over {b k n m : Nat} (hn : n < b ^ k) (hm : m < b ^ k) : cy b n m k = if b ^ k ≤ n + m then 1 else 0 := by
  rw [cy_top hn hm]
  split
  · refine Nat.div_eq_of_lt_le (by omega) (by omega)
  · exact Nat.div_eq_of_lt (by omega)

theorem rplus_any (n m : Nat) (w : World) (hn : n < M256) (hm : m < M256) :
    Calls Try.prog 48 #[.agg (halL n), .agg (halL m)] w (Gives (.tuple #[.agg (halL (addM n m)), .bool (overB n m)]) w) := by
  obtain ⟨xs, hx⟩ : ∃ xs, xs = halL n := ⟨_, rfl⟩
  obtain ⟨ys, hy⟩ : ∃ ys, ys = halL m := ⟨_, rfl⟩
  rw [← hx, ← hy]
  have HX := Lib.hid (hx.trans (rowF8 n).symm)
  have HY := Lib.hid (hy.trans (rowF8 m).symm)
  have HN := Lib.hid hn
  have HM := Lib.hid hm
  clear hx hy hn hm
  go_enter Try.func48, Try.ntmps48
  go_wp2
  go_loopw [6, 7] (fun c i wr => ∃ k : Nat, k ≤ 8 ∧ i = .int .i64 (k : Int) ∧ c = .int .u64 ((cy 4294967296 n m k : Nat) : Int) ∧ Hid (Blk wr w.heap.size 48 (rowF 8 (mix k (hw (n + m)) (hw n)))) ∧ Hid (Blk wr (w.heap.size + 1) 48 ys) ∧ Hid (Blk wr (w.heap.size + 1 + 1) 48 (rowF 8 (fun _ => 0))) ∧ Below w.heap.size w wr) (fun _ i _ => 8 - (intOf i).toNat)
  case atStart =>
    exact ⟨0, by omega, rfl, val_u64 (by rw [cy_zero]; rfl), ((Blk.new _ _ _).of_eq (HX.out.trans (by rw [mix_zero]))).old _ |>.old _, (Blk.newAt (by simp) _ _).old _, Blk.newAt (by simp) _ _, (((Below.refl _ _).alloc (Nat.le_refl _) _).alloc (by simp) _).alloc (by simp; omega) _⟩
  case round =>
    obtain ⟨k, hk, rfl, rfl, h0, h1, h2, hB⟩ := hrel
    by_cases hlt : k < 8
    · have a0 : wr.cell? ⟨w.heap.size, k, none⟩ = some (.int .u64 ((hw n k : Nat) : Int)) := by
        rw [h0.out.at_ hlt, mix_at]
      have a1 : wr.cell? ⟨w.heap.size + 1, k, none⟩ = some (.int .u64 ((hw m k : Nat) : Int)) := by
        rw [h1.out.cell, HY.out]; exact rowF_at _ hlt
      have f0 := h0.out.frozen k
      have hcs := Lib.hid (cy_succ (b := 4294967296) (by decide) n m k)
      have hds := Lib.hid (show hw (n + m) k = _ from dg_add (b := 4294967296) (by decide) n m k)
      have hc1 := cy_le (b := 4294967296) (by decide) n m k
      have hxn := hw_lt n k
      have hxm := hw_lt m k
      have HXN : Hid (hw n k = dg 4294967296 n k) := rfl
      have HXM : Hid (hw m k = dg 4294967296 m k) := rfl
      rw [← HXN.out, ← HXM.out] at hcs hds
      generalize hw n k = x at *
      generalize hw m k = y at *
      generalize cy 4294967296 n m k = c at *
      have s0 : IntKind.u64.wrap ((c : Int) + (x : Int)) = (c : Int) + (x : Int) := wrap_in _ (by omega) (by omega)
      have s1 : IntKind.u64.wrap ((c : Int) + (x : Int) + (y : Int)) = (c : Int) + (x : Int) + (y : Int) := wrap_in _ (by omega) (by omega)
      go_wp2_with fail
      go_region
      go_wp2
      have e0 : ((c : Int) + (x : Int) + (y : Int)) % 4294967296 = ((hw (n + m) k : Nat) : Int) := by rw [hds.out]; omega
      rw [e0]
      refine ⟨⟨k + 1, by omega, by go_num, val_u64 (by rw [hcs.out]; omega), ((h0.out.set_ _ _).of_eq ?_).drew, (h1.out.other (by simp) _).drew, (h2.out.other (by simp; omega) _).drew, (hB.setCell (by simp) _).drew⟩, by simp [intOf]; omega⟩
      rw [rowF_set, mix_put]
    · have HO := Lib.hid (cy_over (b := 4294967296) (k := 8) (m_pow8 ▸ HN.out) (m_pow8 ▸ HM.out))
      go_wp2_with (first | (refine wpList_load_row rfl 48 _ rfl w.heap.size rfl 48 _ (0, 0) _ h0.out under_arr8 rfl (by rw [rowF_size]; exact info_arr8) ?_) | (refine wpList_store_row rfl 48 _ _ rfl (w.heap.size + 1 + 1) _ rfl rfl 48 _ h2.out (by rw [rowF_size]; exact info_arr8) (rowF_same _ _ _) (rowF_ones _ _) ?_))
      refine gives_row_tmp rfl (w.heap.size + 1 + 1) 48 _ _ _ rfl rfl (h2.out.row _) under_arr8 rfl (by rw [rowF_size]; exact info_arr8) rfl ⟨?_, below_row hB (by omega) _⟩
      have hk8 : k = 8 := by omega
      subst hk8
      have e1 : rowF 8 (mix 8 (hw (n + m)) (hw n)) = halL (addM n m) := by
        rw [rowF_full, ← rowF8]
        exact rowF_ext fun i hi => (hw_addM n m i hi).symm
      have e2 : decide (0 < cy 4294967296 n m 8) = overB n m := by
        rw [HO.out, ← m_pow8]
        unfold overB
        split <;> simp [*]
      rw [e1]
      exact ret_of (by rw [← e2]; rfl)

theorem add64_true {x y c W S : Nat} (hx : x < 18446744073709551616) (hy : y < 18446744073709551616) (hc : c ≤ 1) (hW : W = (x + c) % 18446744073709551616) (hS : S = (W + y) % 18446744073709551616) (h : W < c ∨ S < y) : (x + y + c) / 18446744073709551616 = 1 := by omega
theorem add64_false {x y c W S : Nat} (hx : x < 18446744073709551616) (hy : y < 18446744073709551616) (hc : c ≤ 1) (hW : W = (x + c) % 18446744073709551616) (hS : S = (W + y) % 18446744073709551616) (h : ¬ W < c) (h2 : ¬ S < y) : (x + y + c) / 18446744073709551616 = 0 := by omega

theorem padd_any (n m : Nat) (w : World) (hn : n < M256) (hm : m < M256) :
    Calls Try.prog 45 #[.agg (magL n), .agg (magL m)] w (Gives (.tuple #[.agg (magL (addM n m)), .bool (overB n m)]) w) := by
  obtain ⟨xs, hx⟩ : ∃ xs, xs = magL n := ⟨_, rfl⟩
  obtain ⟨ys, hy⟩ : ∃ ys, ys = magL m := ⟨_, rfl⟩
  rw [← hx, ← hy]
  have HX := Lib.hid (hx.trans (rowF4 n).symm)
  have HY := Lib.hid (hy.trans (rowF4 m).symm)
  have HN := Lib.hid hn
  have HM := Lib.hid hm
  clear hx hy hn hm
  go_enter Try.func45, Try.ntmps45
  go_wp2
  go_loopw [6, 7, 8, 9] (fun c _ _ i wr => ∃ k : Nat, k ≤ 4 ∧ i = .int .i64 (k : Int) ∧ c = .int .u64 ((cy 18446744073709551616 n m k : Nat) : Int) ∧ Hid (Blk wr w.heap.size 45 xs) ∧ Hid (Blk wr (w.heap.size + 1) 45 ys) ∧ Hid (Blk wr (w.heap.size + 1 + 1) 45 (rowF 4 (mix k (wd (n + m)) (fun _ => 0)))) ∧ Below w.heap.size w wr) (fun _ _ _ i _ => 4 - (intOf i).toNat)
  case atStart =>
    exact ⟨0, by omega, rfl, val_u64 (by rw [cy_zero]; rfl), ((Blk.new _ _ _).old _).old _, (Blk.newAt (by simp) _ _).old _, Blk.newAt (by simp) _ _, (((Below.refl _ _).alloc (Nat.le_refl _) _).alloc (by simp) _).alloc (by simp; omega) _⟩
  case round =>
    obtain ⟨k, hk, rfl, rfl, h0, h1, h2, hB⟩ := hrel
    by_cases hlt : k < 4
    · have a0 : wr.cell? ⟨w.heap.size, k, none⟩ = some (.int .u64 ((wd n k : Nat) : Int)) := by
        rw [h0.out.cell, HX.out]; exact rowF_at _ hlt
      have a1 : wr.cell? ⟨w.heap.size + 1, k, none⟩ = some (.int .u64 ((wd m k : Nat) : Int)) := by
        rw [h1.out.cell, HY.out]; exact rowF_at _ hlt
      have a2 : wr.cell? ⟨w.heap.size + 1 + 1, k, none⟩ = some (.int .u64 0) := by
        rw [h2.out.at_ hlt, mix_past _ _ _ _ (by omega)]; rfl
      have f0 := h2.out.frozen k
      have hcs := Lib.hid (cy_succ (b := 18446744073709551616) (by decide) n m k)
      have hds := Lib.hid (show wd (n + m) k = _ from dg_add (b := 18446744073709551616) (by decide) n m k)
      have hc1 := cy_le (b := 18446744073709551616) (by decide) n m k
      have HLn := Lib.hid (wd_lt n k)
      have HLm := Lib.hid (wd_lt m k)
      have HXN : Hid (wd n k = dg 18446744073709551616 n k) := rfl
      have HXM : Hid (wd m k = dg 18446744073709551616 m k) := rfl
      rw [← HXN.out, ← HXM.out] at hcs hds
      generalize wd n k = x at *
      generalize wd m k = y at *
      generalize cy 18446744073709551616 n m k = c at *
      obtain ⟨W, hW⟩ : ∃ W, W = (x + c) % 18446744073709551616 := ⟨_, rfl⟩
      obtain ⟨S, hS⟩ : ∃ S, S = (W + y) % 18446744073709551616 := ⟨_, rfl⟩
      have s0 : IntKind.u64.wrap ((x : Int) + (c : Int)) = (W : Int) := by rw [IntKind.wrap_u64]; omega
      have s1 : IntKind.u64.wrap ((W : Int) + (y : Int)) = (S : Int) := by rw [IntKind.wrap_u64]; omega
      have HS := Lib.hid (show S = wd (n + m) k by rw [hds.out, hS, hW]; have := HLn.out; have := HLm.out; omega)
      have HT := Lib.hid (fun h => add64_true HLn.out HLm.out hc1 hW hS h)
      have HF := Lib.hid (fun h => add64_false HLn.out HLm.out hc1 hW hS h)
      clear hW hS
      by_cases t1 : W < c
      · have b1 : decide (W < c) = true := decide_eq_true t1
        have HE := Lib.hid (hcs.out.trans (HT.out (.inl t1)))
        clear t1
        go_wp2_with fail
        go_region
        go_wp2
        rw [HS.out]
        refine ⟨⟨k + 1, by omega, by go_num, val_u64 (by rw [HE.out]; rfl), (h0.out.other (by simp; omega) _).drew, (h1.out.other (by simp) _).drew, ((h2.out.set_ _ _).of_eq ?_).drew, (hB.setCell (by simp; omega) _).drew⟩, by simp [intOf]; omega⟩
        rw [rowF_set, mix_put]
      · have b1 : decide (W < c) = false := decide_eq_false t1
        by_cases t2 : S < y
        · have b2 : decide (S < y) = true := decide_eq_true t2
          have HE := Lib.hid (hcs.out.trans (HT.out (.inr t2)))
          clear t1 t2
          go_wp2_with fail
          go_region
          go_wp2
          rw [HS.out]
          refine ⟨⟨k + 1, by omega, by go_num, val_u64 (by rw [HE.out]; rfl), (h0.out.other (by simp; omega) _).drew, (h1.out.other (by simp) _).drew, ((h2.out.set_ _ _).of_eq ?_).drew, (hB.setCell (by simp; omega) _).drew⟩, by simp [intOf]; omega⟩
          rw [rowF_set, mix_put]
        · have b2 : decide (S < y) = false := decide_eq_false t2
          have HE := Lib.hid (hcs.out.trans (HF.out t1 t2))
          clear t1 t2
          go_wp2_with fail
          go_region
          go_wp2
          rw [HS.out]
          refine ⟨⟨k + 1, by omega, by go_num, val_u64 (by rw [HE.out]; rfl), (h0.out.other (by simp; omega) _).drew, (h1.out.other (by simp) _).drew, ((h2.out.set_ _ _).of_eq ?_).drew, (hB.setCell (by simp; omega) _).drew⟩, by simp [intOf]; omega⟩
          rw [rowF_set, mix_put]
    · have HO := Lib.hid (cy_over (b := 18446744073709551616) (k := 4) (m_pow4 ▸ HN.out) (m_pow4 ▸ HM.out))
      go_wp2_with (first | (refine wpList_load_row rfl 45 _ rfl (w.heap.size + 1 + 1) rfl 45 _ (0, 0) _ h2.out under_mag rfl (by rw [rowF_size]; exact info_mag) ?_) | (refine wpList_store_row rfl 45 _ _ rfl (w.heap.size + 1 + 1) _ rfl rfl 45 _ h2.out (by rw [rowF_size]; exact info_mag) (rowF_same _ _ _) (rowF_ones _ _) ?_))
      refine gives_row_tmp rfl (w.heap.size + 1 + 1) 45 _ _ _ rfl rfl (h2.out.row _) under_mag rfl (by rw [rowF_size]; exact info_mag) rfl ⟨?_, below_row hB (by omega) _⟩
      have hk8 : k = 4 := by omega
      subst hk8
      have e1 : rowF 4 (mix 4 (wd (n + m)) (fun _ => 0)) = magL (addM n m) := by
        rw [rowF_full, ← rowF4]
        exact rowF_ext fun i hi => (wd_addM n m i hi).symm
      have e2 : (((cy 18446744073709551616 n m 4 : Nat) : Int) == 1) = overB n m := by
        rw [HO.out, ← m_pow4]
        unfold overB
        split <;> simp [*]
      rw [e1]
      exact ret_of (by rw [← e2]; rfl)
end Go.Proofs.Ytnpgikjahfhaoaa
