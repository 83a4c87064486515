/-
  The number of half words: join of both.
-/
import Derived.Test.YtnpgikjahfhaoaaWSplit
namespace Go.Proofs.Ytnpgikjahfhaoaa
open Go.RowKit Go.Proofs.WM

theorem rjoin_any (neg : Bool) (n : Nat) (w : World) (hn : n < M256) :
    Calls Try.prog 42 #[.bool neg, .agg (halL n)] w (Gives (.agg (widL (sg neg n) n)) w) := by
  obtain ⟨xs, hx⟩ : ∃ xs, xs = halL n := ⟨_, rfl⟩
  rw [← hx]
  have HX := Lib.hid (hx.trans (rowF8 n).symm)
  have HS := Lib.hid (show xs.size = 8 by rw [hx]; rfl)
  clear hx
  go_enter Try.func42, Try.ntmps42
  go_wp2

  go_loopw [6] (fun i wr => ∃ k : Nat, k ≤ 4 ∧ i = .int .i64 k ∧ Hid (Blk wr w.heap.size 48 xs) ∧ Hid (Blk wr (w.heap.size + 1) 25 (widF false (fun _ => 0))) ∧ Hid (Blk wr (w.heap.size + 1 + 1) 25 (widF false (mix k (wd n) (fun _ => 0)))) ∧ Below w.heap.size w wr) (fun i _ => 4 - (intOf i).toNat)
  case atStart =>
    exact ⟨0, by omega, rfl, ((Blk.new _ _ _).old _).old _, (Blk.newAt (by simp) _ _).old _, Blk.newAt (by simp) _ _, (((Below.refl _ _).alloc (Nat.le_refl _) _).alloc (by simp) _).alloc (by simp; omega) _⟩
  case round =>
    obtain ⟨k, hk, rfl, h0, h1, h2, hB⟩ := hrel
    by_cases hlt : k < 4
    · have a0 : wr.cell? ⟨w.heap.size, 2 * k, none⟩ = some (.int .u64 ((hw n (2 * k) : Nat) : Int)) := by
        rw [h0.out.cell, HX.out]; exact rowF_at _ (by omega)
      have a1 : wr.cell? ⟨w.heap.size, 2 * k + 1, none⟩ = some (.int .u64 ((hw n (2 * k + 1) : Nat) : Int)) := by
        rw [h0.out.cell, HX.out]; exact rowF_at _ (by omega)
      have c0 : wr.cell? ⟨w.heap.size + 1 + 1, 1 + k, none⟩ = some (.int .u64 0) := by
        rw [h2.out.cell, widF_at _ _ hlt, mix_past _ _ _ _ (by omega)]; rfl
      have f0 := h2.out.frozen (1 + k)
      go_wp2
      go_region
      go_wp2
      have e0 : IntKind.u64.wrap (((hw n (2 * k) : Nat) : Int) + IntKind.u64.wrap (4294967296 * ((hw n (2 * k + 1) : Nat) : Int))) = ((wd n k : Nat) : Int) := by
        have := wd_of_hw n k
        have := hw_lt n (2 * k)
        have := hw_lt n (2 * k + 1)
        rw [wrap_in (4294967296 * _) (by omega) (by omega), wrap_in _ (by omega) (by omega)]
        omega
      rw [e0]
      refine ⟨⟨k + 1, by omega, by go_num, (h0.out.other (by simp; omega) _).drew, (h1.out.other (by simp) _).drew, ((h2.out.set_ _ _).of_eq ?_).drew, (hB.setCell (by simp; omega) _).drew⟩, by simp [intOf]; omega⟩
      rw [widF_set, mix_put]
    · have g2 := Lib.hid (Blk.of_eq h2.out (show widF false (mix k (wd n) (fun _ => 0)) = widF false (wd n) by unfold widF; rw [show k = 4 by omega, rowF_full]))
      clear h2
      have z0 : wr.cell? ⟨w.heap.size + 1 + 1, 0, none⟩ = some (.bool false) := by rw [g2.out.cell]; rfl
      have f0 : wr.frozen? ⟨w.heap.size + 1 + 1, 0, none⟩ = false := g2.out.frozen 0
      cases neg
      · have E := Lib.hid (sg_false n)
        go_wp2_with (first | (refine wpList_load_row rfl 25 _ rfl (w.heap.size + 1 + 1) rfl 25 _ (0, 0) _ ((g2.out.set_ 0 _).of_eq (widF_set0 _ _ _)) under_wide rfl (by rw [widF_size]; exact info_wide) ?_) | (refine wpList_store_row rfl 25 _ _ rfl (w.heap.size + 1) _ rfl rfl 25 _ (h1.out.other (by simp) _) (by rw [widF_size]; exact info_wide) (widF_same _ _ _ _) (widF_ones _ _) ?_))
        refine gives_row rfl (w.heap.size + 1) 25 _ _ rfl ((h1.out.other (by simp) _).row _) under_wide rfl (by rw [widF_size]; exact info_wide) rfl ⟨?_, below_row (hB.setCell (by simp; omega) _) (by omega) _⟩
        rw [E.out]
        rfl
      · have E := Lib.hid (show (!(n == 0)) = sg true n by simp [sg, bne])
        have hcell : ∀ j, j < 8 → wr.cell? ⟨w.heap.size, j, none⟩ = some (.int .u64 ((hw n j : Nat) : Int)) := fun j hj => by
          rw [h0.out.cell, HX.out]; exact rowF_at _ hj
        have r0 := hcell 0 (by omega)
        have r1 := hcell 1 (by omega)
        have r2 := hcell 2 (by omega)
        have r3 := hcell 3 (by omega)
        have r4 := hcell 4 (by omega)
        have r5 := hcell 5 (by omega)
        have r6 := hcell 6 (by omega)
        have r7 := hcell 7 (by omega)
        clear hcell
        go_wp2_with fail
        refine (zero_any n _ hn).mono ?_
        rintro e w1 ⟨rfl, hb1⟩
        clear r0 r1 r2 r3 r4 r5 r6 r7 z0 f0
        have G2 := Lib.hid (g2.out.below hb1)
        have H1 := Lib.hid (h1.out.below hb1)
        have z0 : w1.cell? ⟨w.heap.size + 1 + 1, 0, none⟩ = some (.bool false) := by rw [G2.out.cell]; rfl
        have f0 : w1.frozen? ⟨w.heap.size + 1 + 1, 0, none⟩ = false := G2.out.frozen 0
        have hB1 := hB.trans (hb1.mono (Nat.le_trans (Nat.le_refl _) hB.size))
        go_wp2_with (first | (refine wpList_load_row rfl 25 _ rfl (w.heap.size + 1 + 1) rfl 25 _ (0, 0) _ ((G2.out.set_ 0 _).of_eq (widF_set0 _ _ _)) under_wide rfl (by rw [widF_size]; exact info_wide) ?_) | (refine wpList_store_row rfl 25 _ _ rfl (w.heap.size + 1) _ rfl rfl 25 _ (H1.out.other (by simp) _) (by rw [widF_size]; exact info_wide) (widF_same _ _ _ _) (widF_ones _ _) ?_))
        refine gives_row rfl (w.heap.size + 1) 25 _ _ rfl ((H1.out.other (by simp) _).row _) under_wide rfl (by rw [widF_size]; exact info_wide) rfl ⟨?_, below_row (hB1.setCell (by simp; omega) _) (by omega) _⟩
        rw [E.out]
        rfl
end Go.Proofs.Ytnpgikjahfhaoaa
