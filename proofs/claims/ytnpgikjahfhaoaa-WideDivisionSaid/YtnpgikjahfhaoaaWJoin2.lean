/-
  The number of half words: the program's join.
-/
import Derived.Test.YtnpgikjahfhaoaaWSplit
namespace Go.Proofs.Ytnpgikjahfhaoaa
open Go.RowKit Go.Proofs.WM

theorem pjoin_any (n : Nat) (w : World) :
    Calls Try.prog 60 #[.agg (halL n)] w (Gives (.agg (magL n)) w) := by
  obtain ⟨xs, hx⟩ : ∃ xs, xs = halL n := ⟨_, rfl⟩
  rw [← hx]
  have HX := Lib.hid (hx.trans (rowF8 n).symm)
  clear hx
  go_enter Try.func60, Try.ntmps60
  go_wp2
  go_loopw [3, 4] (fun _ i wr => ∃ k : Nat, k ≤ 4 ∧ i = .int .i64 k ∧ Hid (Blk wr w.heap.size 69 xs) ∧ Hid (Blk wr (w.heap.size + 1) 45 (rowF 4 (mix k (wd n) (fun _ => 0)))) ∧ Below w.heap.size w wr) (fun _ i _ => 4 - (intOf i).toNat)
  case atStart =>
    exact ⟨0, by omega, rfl, (Blk.new _ _ _).old _, Blk.newAt (by simp) _ _, ((Below.refl _ _).alloc (Nat.le_refl _) _).alloc (by simp) _⟩
  case round =>
    obtain ⟨k, hk, rfl, h0, h2, hB⟩ := hrel
    by_cases hlt : k < 4
    · have a0 : wr.cell? ⟨w.heap.size, 2 * k, none⟩ = some (.int .u64 ((hw n (2 * k) : Nat) : Int)) := by
        rw [h0.out.cell, HX.out]; exact rowF_at _ (by omega)
      have a1 : wr.cell? ⟨w.heap.size, 2 * k + 1, none⟩ = some (.int .u64 ((hw n (2 * k + 1) : Nat) : Int)) := by
        rw [h0.out.cell, HX.out]; exact rowF_at _ (by omega)
      have c0 : wr.cell? ⟨w.heap.size + 1, k, none⟩ = some (.int .u64 0) := by
        rw [h2.out.at_ hlt, mix_past _ _ _ _ (by omega)]; rfl
      have f0 := h2.out.frozen k
      go_wp2
      go_region
      go_wp2
      have e0 : bits .or .u64 ((hw n (2 * k) : Nat) : Int) (IntKind.u64.wrap (((hw n (2 * k + 1) : Nat) : Int) * 4294967296)) = ((wd n k : Nat) : Int) := by
        have := wd_of_hw n k
        have := hw_lt n (2 * k)
        have := hw_lt n (2 * k + 1)
        rw [wrap_in _ (by omega) (by omega), or_comm, or_half _ _ (by omega) (by omega) (by omega) (by omega) (by omega)]
        omega
      rw [e0]
      refine ⟨⟨k + 1, by omega, by go_num, (h0.out.other (by simp) _).drew, ((h2.out.set_ _ _).of_eq ?_).drew, (hB.setCell (by simp) _).drew⟩, by simp [intOf]; omega⟩
      rw [rowF_set, mix_put]
    · go_wp2_with (first | (refine wpList_load_row rfl 45 _ rfl (w.heap.size + 1) rfl 45 _ (0, 0) _ h2.out under_mag rfl (by rw [rowF_size]; exact info_mag) ?_) | (refine wpList_store_row rfl 45 _ _ rfl (w.heap.size + 1) _ rfl rfl 45 _ h2.out (by rw [rowF_size]; exact info_mag) (rowF_same _ _ _) (rowF_ones _ _) ?_))
      refine gives_row rfl (w.heap.size + 1) 45 _ _ rfl (h2.out.row _) under_mag rfl (by rw [rowF_size]; exact info_mag) rfl ⟨?_, below_row hB (by omega) _⟩
      rw [show k = 4 by omega, rowF_full]
      rfl
end Go.Proofs.Ytnpgikjahfhaoaa
