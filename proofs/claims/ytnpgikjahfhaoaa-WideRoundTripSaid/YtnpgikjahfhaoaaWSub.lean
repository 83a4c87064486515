/-
  Differences of magnitudes.
-/
import Derived.Test.YtnpgikjahfhaoaaWSplit
namespace Go.Proofs.Ytnpgikjahfhaoaa
open Go.RowKit Go.Proofs.WM

def subN (n m : Nat) : Nat := subM M256 n m
theorem subN_lt (n m : Nat) : subN n m < M256 := subM_lt m_pos n m
theorem subN_of_le {n m : Nat} (h : m ≤ n) (hn : n < M256) : subN n m = n - m := subM_of_le h hn
theorem hw_subN (n m i : Nat) (hi : i < 8) (hm : m < M256) : hw (subN n m) i = (hw n i + 4294967296 - hw m i - bw 4294967296 n m i) % 4294967296 := by
  unfold hw subN
  rw [m_pow8]
  exact dg_subM (by decide) hi (m_pow8 ▸ hm)
theorem wd_subN (n m i : Nat) (hi : i < 4) (hm : m < M256) : wd (subN n m) i = (wd n i + 18446744073709551616 - wd m i - bw 18446744073709551616 n m i) % 18446744073709551616 := by
  unfold wd subN
  rw [m_pow4]
  exact dg_subM (by decide) hi (m_pow4 ▸ hm)

theorem rminus_any (n m : Nat) (w : World) (hm : m < M256) :
    Calls Try.prog 49 #[.agg (halL n), .agg (halL m)] w (Gives (.agg (halL (subN n m))) w) := by
  obtain ⟨xs, hx⟩ : ∃ xs, xs = halL n := ⟨_, rfl⟩
  obtain ⟨ys, hy⟩ : ∃ ys, ys = halL m := ⟨_, rfl⟩
  rw [← hx, ← hy]
  have HX := Lib.hid (hx.trans (rowF8 n).symm)
  have HY := Lib.hid (hy.trans (rowF8 m).symm)
  have HM := Lib.hid hm
  clear hx hy hm
  go_enter Try.func49, Try.ntmps49
  go_wp2
  go_loopw [5, 6, 7] (fun c i _ wr => ∃ k : Nat, k ≤ 8 ∧ i = .int .i64 (k : Int) ∧ c = .int .u64 ((bw 4294967296 n m k : Nat) : Int) ∧ Hid (Blk wr w.heap.size 48 (rowF 8 (mix k (hw (subN n m)) (hw n)))) ∧ Hid (Blk wr (w.heap.size + 1) 48 ys) ∧ Hid (Blk wr (w.heap.size + 1 + 1) 48 (rowF 8 (fun _ => 0))) ∧ Below w.heap.size w wr) (fun _ i _ _ => 8 - (intOf i).toNat)
  case atStart =>
    exact ⟨0, by omega, rfl, val_u64 (by rw [bw_zero]; rfl), ((Blk.new _ _ _).of_eq (HX.out.trans (by rw [mix_zero]))).old _ |>.old _, (Blk.newAt (by simp) _ _).old _, Blk.newAt (by simp) _ _, (((Below.refl _ _).alloc (Nat.le_refl _) _).alloc (by simp) _).alloc (by simp; omega) _⟩
  case round =>
    obtain ⟨k, hk, rfl, rfl, h0, h1, h2, hB⟩ := hrel
    by_cases hlt : k < 8
    · have a0 : wr.cell? ⟨w.heap.size, k, none⟩ = some (.int .u64 ((hw n k : Nat) : Int)) := by
        rw [h0.out.at_ hlt, mix_at]
      have a1 : wr.cell? ⟨w.heap.size + 1, k, none⟩ = some (.int .u64 ((hw m k : Nat) : Int)) := by
        rw [h1.out.cell, HY.out]; exact rowF_at _ hlt
      have f0 := h0.out.frozen k
      have hcs := Lib.hid (bw_succ (b := 4294967296) (by decide) n m k)
      have hds := Lib.hid (hw_subN n m k hlt HM.out)
      have hc1 := bw_le 4294967296 n m k
      have hxn := hw_lt n k
      have hxm := hw_lt m k
      have HXN : Hid (hw n k = dg 4294967296 n k) := rfl
      have HXM : Hid (hw m k = dg 4294967296 m k) := rfl
      rw [← HXN.out, ← HXM.out] at hcs
      generalize hw n k = x at *
      generalize hw m k = y at *
      generalize bw 4294967296 n m k = c at *
      have s0 : IntKind.u64.wrap (4294967296 + (x : Int)) = 4294967296 + (x : Int) := wrap_in _ (by omega) (by omega)
      have s1 : IntKind.u64.wrap (4294967296 + (x : Int) - (y : Int)) = 4294967296 + (x : Int) - (y : Int) := wrap_in _ (by omega) (by omega)
      have s2 : IntKind.u64.wrap (4294967296 + (x : Int) - (y : Int) - (c : Int)) = 4294967296 + (x : Int) - (y : Int) - (c : Int) := wrap_in _ (by omega) (by omega)
      go_wp2_with fail
      go_region
      go_wp2
      have e0 : (4294967296 + (x : Int) - (y : Int) - (c : Int)) % 4294967296 = ((hw (subN n m) k : Nat) : Int) := by rw [hds.out]; omega
      rw [e0]
      refine ⟨⟨k + 1, by omega, by go_num, val_u64 (by rw [hcs.out]; split <;> omega), ((h0.out.set_ _ _).of_eq ?_).drew, (h1.out.other (by simp) _).drew, (h2.out.other (by simp; omega) _).drew, (hB.setCell (by simp) _).drew⟩, by simp [intOf]; omega⟩
      rw [rowF_set, mix_put]
    · go_wp2_with (first | (refine wpList_load_row rfl 48 _ rfl w.heap.size rfl 48 _ (0, 0) _ h0.out under_arr8 rfl (by rw [rowF_size]; exact info_arr8) ?_) | (refine wpList_store_row rfl 48 _ _ rfl (w.heap.size + 1 + 1) _ rfl rfl 48 _ h2.out (by rw [rowF_size]; exact info_arr8) (rowF_same _ _ _) (rowF_ones _ _) ?_))
      refine gives_row rfl (w.heap.size + 1 + 1) 48 _ _ rfl (h2.out.row _) under_arr8 rfl (by rw [rowF_size]; exact info_arr8) rfl ⟨?_, below_row hB (by omega) _⟩
      rw [show k = 8 by omega, rowF_full]
      rfl

theorem sub64_true {x y c W : Nat} (hx : x < 18446744073709551616) (hc : c ≤ 1) (hW : W = (x + 18446744073709551616 - c) % 18446744073709551616) (h : x < c ∨ W < y) : (if x < y + c then 1 else 0) = 1 := by
  rw [if_pos (by omega)]
theorem sub64_false {x y c W : Nat} (hx : x < 18446744073709551616) (hW : W = (x + 18446744073709551616 - c) % 18446744073709551616) (h : ¬ x < c) (h2 : ¬ W < y) : (if x < y + c then 1 else 0) = 0 := by
  rw [if_neg (by omega)]

theorem psubtract_any (n m : Nat) (w : World) (hm : m < M256) :
    Calls Try.prog 47 #[.agg (magL n), .agg (magL m)] w (Gives (.agg (magL (subN n m))) w) := by
  obtain ⟨xs, hx⟩ : ∃ xs, xs = magL n := ⟨_, rfl⟩
  obtain ⟨ys, hy⟩ : ∃ ys, ys = magL m := ⟨_, rfl⟩
  rw [← hx, ← hy]
  have HX := Lib.hid (hx.trans (rowF4 n).symm)
  have HY := Lib.hid (hy.trans (rowF4 m).symm)
  have HM := Lib.hid hm
  clear hx hy hm
  go_enter Try.func47, Try.ntmps47
  go_wp2
  go_loopw [5, 6, 7, 8] (fun c _ _ i wr => ∃ k : Nat, k ≤ 4 ∧ i = .int .i64 (k : Int) ∧ c = .int .u64 ((bw 18446744073709551616 n m k : Nat) : Int) ∧ Hid (Blk wr w.heap.size 45 xs) ∧ Hid (Blk wr (w.heap.size + 1) 45 ys) ∧ Hid (Blk wr (w.heap.size + 1 + 1) 45 (rowF 4 (mix k (wd (subN n m)) (fun _ => 0)))) ∧ Below w.heap.size w wr) (fun _ _ _ i _ => 4 - (intOf i).toNat)
  case atStart =>
    exact ⟨0, by omega, rfl, val_u64 (by rw [bw_zero]; rfl), ((Blk.new _ _ _).old _).old _, (Blk.newAt (by simp) _ _).old _, Blk.newAt (by simp) _ _, (((Below.refl _ _).alloc (Nat.le_refl _) _).alloc (by simp) _).alloc (by simp; omega) _⟩
  case round =>
    obtain ⟨k, hk, rfl, rfl, h0, h1, h2, hB⟩ := hrel
    by_cases hlt : k < 4
    · have a0 : wr.cell? ⟨w.heap.size, k, none⟩ = some (.int .u64 ((wd n k : Nat) : Int)) := by
        rw [h0.out.cell, HX.out]; exact rowF_at _ hlt
      have a1 : wr.cell? ⟨w.heap.size + 1, k, none⟩ = some (.int .u64 ((wd m k : Nat) : Int)) := by
        rw [h1.out.cell, HY.out]; exact rowF_at _ hlt
      have a2 : wr.cell? ⟨w.heap.size + 1 + 1, k, none⟩ = some (.int .u64 0) := by
        rw [h2.out.at_ hlt, mix_past _ _ _ _ (by omega)]; rfl
      have f0 := h2.out.frozen k
      have hcs := Lib.hid (bw_succ (b := 18446744073709551616) (by decide) n m k)
      have hds := Lib.hid (wd_subN n m k hlt HM.out)
      have hc1 := bw_le 18446744073709551616 n m k
      have HLn := Lib.hid (wd_lt n k)
      have HLm := Lib.hid (wd_lt m k)
      have HXN : Hid (wd n k = dg 18446744073709551616 n k) := rfl
      have HXM : Hid (wd m k = dg 18446744073709551616 m k) := rfl
      rw [← HXN.out, ← HXM.out] at hcs
      generalize wd n k = x at *
      generalize wd m k = y at *
      generalize bw 18446744073709551616 n m k = c at *
      obtain ⟨W, hW⟩ : ∃ W, W = (x + 18446744073709551616 - c) % 18446744073709551616 := ⟨_, rfl⟩
      obtain ⟨S, hS⟩ : ∃ S, S = (W + 18446744073709551616 - y) % 18446744073709551616 := ⟨_, rfl⟩
      have s0 : IntKind.u64.wrap ((x : Int) - (c : Int)) = (W : Int) := by rw [IntKind.wrap_u64]; have := HLn.out; omega
      have s1 : IntKind.u64.wrap ((W : Int) - (y : Int)) = (S : Int) := by rw [IntKind.wrap_u64]; have := HLm.out; omega
      have HS := Lib.hid (show S = wd (subN n m) k by rw [hds.out, hS, hW]; have := HLn.out; have := HLm.out; omega)
      have HT := Lib.hid (fun h => sub64_true (y := y) HLn.out hc1 hW h)
      have HF := Lib.hid (fun h => sub64_false (y := y) HLn.out hW h)
      clear hW hS
      by_cases t1 : x < c
      · have b1 : decide (x < c) = true := decide_eq_true t1
        have HE := Lib.hid (hcs.out.trans (HT.out (.inl t1)))
        clear t1
        go_wp2
        rw [HS.out]
        refine ⟨⟨k + 1, by omega, by go_num, val_u64 (by rw [HE.out]; rfl), h0.out.other (by simp; omega) _, h1.out.other (by simp) _, (h2.out.set_ _ _).of_eq ?_, hB.setCell (by simp; omega) _⟩, by simp [intOf]; omega⟩
        rw [rowF_set, mix_put]
      · have b1 : decide (x < c) = false := decide_eq_false t1
        by_cases t2 : W < y
        · have b2 : decide (W < y) = true := decide_eq_true t2
          have HE := Lib.hid (hcs.out.trans (HT.out (.inr t2)))
          clear t1 t2
          go_wp2
          rw [HS.out]
          refine ⟨⟨k + 1, by omega, by go_num, val_u64 (by rw [HE.out]; rfl), h0.out.other (by simp; omega) _, h1.out.other (by simp) _, (h2.out.set_ _ _).of_eq ?_, hB.setCell (by simp; omega) _⟩, by simp [intOf]; omega⟩
          rw [rowF_set, mix_put]
        · have b2 : decide (W < y) = false := decide_eq_false t2
          have HE := Lib.hid (hcs.out.trans (HF.out t1 t2))
          clear t1 t2
          go_wp2
          rw [HS.out]
          refine ⟨⟨k + 1, by omega, by go_num, val_u64 (by rw [HE.out]; rfl), h0.out.other (by simp; omega) _, h1.out.other (by simp) _, (h2.out.set_ _ _).of_eq ?_, hB.setCell (by simp; omega) _⟩, by simp [intOf]; omega⟩
          rw [rowF_set, mix_put]
    · go_wp2_with (first | (refine wpList_load_row rfl 45 _ rfl (w.heap.size + 1 + 1) rfl 45 _ (0, 0) _ h2.out under_mag rfl (by rw [rowF_size]; exact info_mag) ?_) | (refine wpList_store_row rfl 45 _ _ rfl (w.heap.size + 1 + 1) _ rfl rfl 45 _ h2.out (by rw [rowF_size]; exact info_mag) (rowF_same _ _ _) (rowF_ones _ _) ?_))
      refine gives_row rfl (w.heap.size + 1 + 1) 45 _ _ rfl (h2.out.row _) under_mag rfl (by rw [rowF_size]; exact info_mag) rfl ⟨?_, below_row hB (by omega) _⟩
      rw [show k = 4 by omega, rowF_full]
      rfl
end Go.Proofs.Ytnpgikjahfhaoaa
