/-
  The half words of a number, and the number of half words: split and join of both.
-/
import Derived.Test.YtnpgikjahfhaoaaWSmall
namespace Go.Proofs.Ytnpgikjahfhaoaa
open Go.RowKit Go.Proofs.WM

theorem under_arr8 : Try.prog.underlying 48 = some (.array 8 22) := by kernel_rfl
theorem info_arr8 : (Try.prog.info? 48).map (·.size) = some 8 := by kernel_rfl
theorem info_hal : (Try.prog.info? 69).map (·.size) = some 8 := by kernel_rfl
theorem info_mag : (Try.prog.info? 45).map (·.size) = some 4 := by kernel_rfl
theorem under_wide : Try.prog.underlying 25 = some (.struct (Try.prog.fieldsOf 25)) := by kernel_rfl
theorem info_wide : (Try.prog.info? 25).map (·.size) = some 5 := by kernel_rfl
theorem zero8 : rowF 8 (fun _ => 0) = hal0 := rfl
theorem zero4 : rowF 4 (fun _ => 0) = mag0 := rfl

theorem rsplit_any (s : Bool) (n : Nat) (w : World) :
    Calls Try.prog 41 #[.agg (widL s n)] w (Gives (.agg (halL n)) w) := by
  obtain ⟨xs, hx⟩ : ∃ xs, xs = widL s n := ⟨_, rfl⟩
  rw [← hx]
  have HX := Lib.hid hx
  clear hx
  go_enter Try.func41, Try.ntmps41
  go_wp2
  go_loopw [4] (fun i wr => ∃ k : Nat, k ≤ 4 ∧ i = .int .i64 k ∧ Hid (Blk wr w.heap.size 25 xs) ∧ Hid (Blk wr (w.heap.size + 1) 48 (rowF 8 (fun _ => 0))) ∧ Hid (Blk wr (w.heap.size + 1 + 1) 48 (rowF 8 (mix (2 * k) (hw n) (fun _ => 0)))) ∧ Below w.heap.size w wr) (fun i _ => 4 - (intOf i).toNat)
  case atStart =>
    exact ⟨0, by omega, rfl, ((Blk.new _ _ _).old _).old _, (Blk.newAt (by simp) _ _).old _, Blk.newAt (by simp) _ _, (((Below.refl _ _).alloc (Nat.le_refl _) _).alloc (by simp) _).alloc (by simp; omega) _⟩
  case round =>
    obtain ⟨k, hk, rfl, h0, h1, h2, hB⟩ := hrel
    by_cases hlt : k < 4
    · have hc : wr.cell? ⟨w.heap.size, 1 + k, none⟩ = some (.int .u64 ((wd n k : Nat) : Int)) := by
        rw [h0.out.cell, HX.out]
        exact widL_at s n hlt
      have c0 : wr.cell? ⟨w.heap.size + 1 + 1, 2 * k, none⟩ = some (.int .u64 0) := by
        rw [h2.out.at_ (by omega), mix_past _ _ _ _ (by omega)]; rfl
      have c1 : wr.cell? ⟨w.heap.size + 1 + 1, 2 * k + 1, none⟩ = some (.int .u64 0) := by
        rw [h2.out.at_ (by omega), mix_past _ _ _ _ (by omega)]; rfl
      have f0 := h2.out.frozen (2 * k)
      have f1 := h2.out.frozen (2 * k + 1)
      go_wp2
      have hx := wd_lt n k
      have e0 : ((wd n k : Nat) : Int) % 4294967296 = ((hw n (2 * k) : Nat) : Int) := by rw [hw_low]; omega
      have e1 : IntKind.u64.wrap (((wd n k : Nat) : Int) / 4294967296) = ((hw n (2 * k + 1) : Nat) : Int) := by rw [hw_high, IntKind.wrap_u64]; omega
      rw [e0, e1]
      refine ⟨⟨k + 1, by omega, by go_num, (h0.out.other (by simp; omega) _).other (by simp; omega) _, (h1.out.other (by simp) _).other (by simp) _, ?_, (hB.setCell (by simp; omega) _).setCell (by simp; omega) _⟩, by simp [intOf]; omega⟩
      refine ((h2.out.set_ _ _).set_ _ _).of_eq ?_
      rw [rowF_set, rowF_set, mix_put, mix_put, show 2 * (k + 1) = 2 * k + 1 + 1 by omega]
    · go_wp2_with (first | (refine wpList_load_row rfl 48 _ rfl (w.heap.size + 1 + 1) rfl 48 _ (0, 0) _ h2.out under_arr8 rfl (by rw [rowF_size]; exact info_arr8) ?_) | (refine wpList_store_row rfl 48 _ _ rfl (w.heap.size + 1) _ rfl rfl 48 _ h1.out (by rw [rowF_size]; exact info_arr8) (rowF_same _ _ _) (rowF_ones _ _) ?_))
      refine gives_row rfl (w.heap.size + 1) 48 _ _ rfl (h1.out.row _) under_arr8 rfl (by rw [rowF_size]; exact info_arr8) rfl ⟨?_, below_row hB (by omega) _⟩
      rw [show 2 * k = 8 by omega, rowF_full]
      rfl

theorem index_mag (w : World) (xs : Array Value) (k : Nat) (v : Value) (hk : k < 4) (h : xs[k]? = some v) : (Instr.index 45 (.agg xs) (.int .i64 (k : Int))).run Try.prog w = .ok v w := by
  simp [Instr.index, run_underlying under_mag, asIntOf, part, isAgg, run_underlying under_u64, h]
  exact fun h1 => absurd h1 (by omega)

theorem psplit_any (n : Nat) (w : World) :
    Calls Try.prog 58 #[.agg (magL n)] w (Gives (.agg (halL n)) w) := by
  obtain ⟨xs, hx⟩ : ∃ xs, xs = magL n := ⟨_, rfl⟩
  rw [← hx]
  have HX := Lib.hid (hx.trans (rowF4 n).symm)
  have hs : xs.size = 4 := by rw [hx]; rfl
  have HS := Lib.hid hs
  clear hx hs
  go_enter Try.func58, Try.ntmps58
  go_wp2_with (refine wpList_load_row rfl 45 _ rfl w.heap.size rfl 45 xs (0, 0) _ ((Blk.new _ _ _).old _) under_mag rfl (by rw [HS.out]; exact info_mag) ?_)
  go_loopw [3, 4, 6] (fun _ _ i wr => ∃ k : Nat, k ≤ 4 ∧ i = .int .i64 k ∧ Hid (Blk wr (w.heap.size + 1) 69 (rowF 8 (mix (2 * k) (hw n) (fun _ => 0)))) ∧ Below w.heap.size w wr) (fun _ _ i _ => 4 - (intOf i).toNat)
  case atStart =>
    exact ⟨0, by omega, rfl, Blk.newAt (by simp) _ _, ((Below.refl _ _).alloc (Nat.le_refl _) _).alloc (by simp) _⟩
  case round =>
    obtain ⟨k, hk, rfl, h2, hB⟩ := hrel
    by_cases hlt : k < 4
    · have hc : xs[k]? = some (.int .u64 ((wd n k : Nat) : Int)) := by rw [HX.out]; exact rowF_at _ hlt
      have c0 : wr.cell? ⟨w.heap.size + 1, 2 * k, none⟩ = some (.int .u64 0) := by
        rw [h2.out.at_ (by omega), mix_past _ _ _ _ (by omega)]; rfl
      have c1 : wr.cell? ⟨w.heap.size + 1, 2 * k + 1, none⟩ = some (.int .u64 0) := by
        rw [h2.out.at_ (by omega), mix_past _ _ _ _ (by omega)]; rfl
      have f0 := h2.out.frozen (2 * k)
      have f1 := h2.out.frozen (2 * k + 1)
      have hix := fun wx => index_mag wx xs k _ hlt hc
      go_wp2
      have hx := wd_lt n k
      have e0 : bits .and .u64 ((wd n k : Nat) : Int) 4294967295 = ((hw n (2 * k) : Nat) : Int) := by rw [and_low32 _ (by omega) (by omega), hw_low]; omega
      have e1 : ((wd n k : Nat) : Int) / 4294967296 = ((hw n (2 * k + 1) : Nat) : Int) := by rw [hw_high]; omega
      rw [e0, e1]
      refine ⟨⟨k + 1, by omega, by go_num, ?_, (hB.setCell (by simp) _).setCell (by simp) _⟩, by simp [intOf]; omega⟩
      refine ((h2.out.set_ _ _).set_ _ _).of_eq ?_
      rw [rowF_set, rowF_set, mix_put, mix_put, show 2 * (k + 1) = 2 * k + 1 + 1 by omega]
    · go_wp2_with (first | (refine wpList_load_row rfl 69 _ rfl (w.heap.size + 1) rfl 69 _ (0, 0) _ h2.out under_hal rfl (by rw [rowF_size]; exact info_hal) ?_) | (refine wpList_store_row rfl 69 _ _ rfl (w.heap.size + 1) _ rfl rfl 69 _ h2.out (by rw [rowF_size]; exact info_hal) (rowF_same _ _ _) (rowF_ones _ _) ?_))
      refine gives_row rfl (w.heap.size + 1) 69 _ _ rfl (h2.out.row _) under_hal rfl (by rw [rowF_size]; exact info_hal) rfl ⟨?_, below_row hB (by omega) _⟩
      rw [show 2 * k = 8 by omega, rowF_full]
      rfl
end Go.Proofs.Ytnpgikjahfhaoaa
