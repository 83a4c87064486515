/-
  Division of a magnitude by a half word.
-/
import Derived.Test.YtnpgikjahfhaoaaWSplit
namespace Go.Proofs.Ytnpgikjahfhaoaa
open Go.RowKit Go.Proofs.WM

/-- What remains of the digits of n from k on, divided by d. -/
def rsN (n d k : Nat) : Nat := n / 4294967296 ^ k % d
theorem rsN_zero (n d : Nat) : rsN n d 0 = n % d := by unfold rsN; rw [Nat.pow_zero, Nat.div_one]
theorem short_step {n d k P : Nat} (hd : 0 < d) (hP : P = rsN n d (k + 1) * 4294967296 + hw n k) : P / d = hw (n / d) k ∧ P % d = rsN n d k := by
  subst hP
  unfold rsN
  exact ⟨ds_quot (by decide) hd n k, ds_rest n d k 4294967296⟩

theorem pshort_any (n d : Nat) (w : World) (hn : n < M256) (hd : 0 < d) (hd2 : d ≤ 4294967295) :
    Calls Try.prog 59 #[.agg (halL n), .int .u64 (d : Int)] w (Gives (.tuple #[.agg (halL (n / d)), .int .u64 ((rsN n d 0 : Nat) : Int)]) w) := by
  obtain ⟨xs, hx⟩ : ∃ xs, xs = halL n := ⟨_, rfl⟩
  rw [← hx]
  have HX := Lib.hid (hx.trans (rowF8 n).symm)
  have HN := Lib.hid hn
  clear hx hn
  have hdi : 0 < (d : Int) := by omega
  have hd0 : ¬ (d : Int) = 0 := by omega
  go_enter Try.func59, Try.ntmps59
  go_wp2
  go_loopw [5, 6, 7] (fun c i _ wr => ∃ k : Nat, k ≤ 8 ∧ i = .int .i64 ((k : Int) - 1) ∧ c = .int .u64 ((rsN n d k : Nat) : Int) ∧ Hid (Blk wr w.heap.size 69 xs) ∧ Hid (Blk wr (w.heap.size + 1) 69 (rowF 8 (mix k (fun _ => 0) (hw (n / d))))) ∧ Below w.heap.size w wr) (fun _ i _ _ => (intOf i + 1).toNat)
  case atStart =>
    exact ⟨8, by omega, rfl, val_u64 (by unfold rsN; rw [Nat.div_eq_of_lt (m_pow8 ▸ HN.out), Nat.zero_mod]; rfl), (Blk.new _ _ _).old _, Blk.newAt (by simp) _ _, ((Below.refl _ _).alloc (Nat.le_refl _) _).alloc (by simp) _⟩
  case round =>
    obtain ⟨k, hk, rfl, rfl, h0, h2, hB⟩ := hrel
    rcases Nat.eq_zero_or_pos k with hk0 | hk0
    · subst hk0
      go_wp2_with (first | (refine wpList_load_row rfl 69 _ rfl (w.heap.size + 1) rfl 69 _ (0, 0) _ h2.out under_hal rfl (by rw [rowF_size]; exact info_hal) ?_) | (refine wpList_store_row rfl 69 _ _ rfl (w.heap.size + 1) _ rfl rfl 69 _ h2.out (by rw [rowF_size]; exact info_hal) (rowF_same _ _ _) (rowF_ones _ _) ?_))
      refine gives_row_tmp rfl (w.heap.size + 1) 69 _ _ _ rfl rfl (h2.out.row _) under_hal rfl (by rw [rowF_size]; exact info_hal) rfl ⟨?_, below_row hB (by omega) _⟩
      rw [mix_zero]
      rfl
    · obtain ⟨j, rfl⟩ : ∃ j, k = j + 1 := ⟨k - 1, by omega⟩
      have i0 : ((j + 1 : Nat) : Int) - 1 = (j : Int) := by omega
      rw [i0]
      have a0 : wr.cell? ⟨w.heap.size, j, none⟩ = some (.int .u64 ((hw n j : Nat) : Int)) := by
        rw [h0.out.cell, HX.out]; exact rowF_at _ (by omega)
      have a1 : wr.cell? ⟨w.heap.size + 1, j, none⟩ = some (.int .u64 0) := by
        rw [h2.out.at_ (by omega), mix_under _ _ _ _ (by omega)]; rfl
      have f0 := h2.out.frozen j
      obtain ⟨P, hP⟩ : ∃ P, P = rsN n d (j + 1) * 4294967296 + hw n j := ⟨_, rfl⟩
      obtain ⟨q1, q2⟩ := short_step hd hP
      have hr : rsN n d (j + 1) < d := Nat.mod_lt _ hd
      have hx := hw_lt n j
      clear i0
      generalize rsN n d (j + 1) = r at *
      generalize hw n j = x at *
      have ob : bits .or .u64 (IntKind.u64.wrap ((r : Int) * 4294967296)) (x : Int) = (P : Int) := by
        rw [wrap_in _ (by omega) (by omega), or_half _ _ (by omega) (by omega) (by omega) (by omega) (by omega)]
        omega
      have Q1 := Lib.hid q1
      have Q2 := Lib.hid q2
      have t1 : (P : Int).tdiv (d : Int) = ((P / d : Nat) : Int) := by rw [Int.tdiv_eq_ediv_of_nonneg (by omega)]; rfl
      have t2 : (P : Int).tmod (d : Int) = ((P % d : Nat) : Int) := by rw [Int.tmod_eq_emod_of_nonneg (by omega)]; rfl
      have hQ : P / d ≤ P := Nat.div_le_self _ _
      have hPb : (P : Int) < 18446744073709551616 := by omega
      rw [Q1.out] at t1 hQ
      rw [Q2.out] at t2
      have hw2 : IntKind.u64.wrap (((hw (n / d) j : Nat) : Int)) = ((hw (n / d) j : Nat) : Int) := wrap_in _ (by omega) (by omega)
      have hdd : (d : Int) < 4294967296 := by omega
      clear hP hr hx q1 q2 hQ hd hd2
      go_wp2_with fail
      go_region
      go_wp2
      refine ⟨⟨j, by omega, rfl, rfl, (h0.out.other (by simp) _).drew, ((h2.out.set_ _ _).of_eq ?_).drew, (hB.setCell (by simp) _).drew⟩, by simp [intOf]⟩
      rw [rowF_set, mix_put_down]
theorem rsmall_any (n d : Nat) (w : World) (hn : n < M256) (hd : 0 < d) (hd2 : d ≤ 2147483647) :
    Calls Try.prog 55 #[.agg (halL n), .int .u64 (d : Int)] w (Gives (.tuple #[.agg (halL (n / d)), .int .u64 ((rsN n d 0 : Nat) : Int)]) w) := by
  obtain ⟨xs, hx⟩ : ∃ xs, xs = halL n := ⟨_, rfl⟩
  rw [← hx]
  have HX := Lib.hid (hx.trans (rowF8 n).symm)
  have HN := Lib.hid hn
  clear hx hn
  have hdi : 0 < (d : Int) := by omega
  have hd0 : ¬ (d : Int) = 0 := by omega
  go_enter Try.func55, Try.ntmps55
  go_wp2
  go_loopw [6, 7, 8] (fun c i _ wr => ∃ k : Nat, k ≤ 8 ∧ i = .int .i64 ((k : Int) - 1) ∧ c = .int .u64 ((rsN n d k : Nat) : Int) ∧ Hid (Blk wr w.heap.size 48 (rowF 8 (mix k (hw n) (hw (n / d))))) ∧ Hid (Blk wr (w.heap.size + 1) 48 (rowF 8 (fun _ => 0))) ∧ Below w.heap.size w wr) (fun _ i _ _ => (intOf i + 1).toNat)
  case atStart =>
    exact ⟨8, by omega, rfl, val_u64 (by unfold rsN; rw [Nat.div_eq_of_lt (m_pow8 ▸ HN.out), Nat.zero_mod]; rfl), ((Blk.new _ _ _).of_eq (HX.out.trans (rowF_full _ _).symm)).old _, Blk.newAt (by simp) _ _, ((Below.refl _ _).alloc (Nat.le_refl _) _).alloc (by simp) _⟩
  case round =>
    obtain ⟨k, hk, rfl, rfl, h0, h2, hB⟩ := hrel
    rcases Nat.eq_zero_or_pos k with hk0 | hk0
    · subst hk0
      go_wp2_with (first | (refine wpList_load_row rfl 48 _ rfl w.heap.size rfl 48 _ (0, 0) _ h0.out under_arr8 rfl (by rw [rowF_size]; exact info_arr8) ?_) | (refine wpList_store_row rfl 48 _ _ rfl (w.heap.size + 1) _ rfl rfl 48 _ h2.out (by rw [rowF_size]; exact info_arr8) (rowF_same _ _ _) (rowF_ones _ _) ?_))
      refine gives_row_tmp rfl (w.heap.size + 1) 48 _ _ _ rfl rfl (h2.out.row _) under_arr8 rfl (by rw [rowF_size]; exact info_arr8) rfl ⟨?_, below_row hB (by omega) _⟩
      rw [mix_zero]
      rfl
    · obtain ⟨j, rfl⟩ : ∃ j, k = j + 1 := ⟨k - 1, by omega⟩
      have i0 : ((j + 1 : Nat) : Int) - 1 = (j : Int) := by omega
      rw [i0]
      have a0 : wr.cell? ⟨w.heap.size, j, none⟩ = some (.int .u64 ((hw n j : Nat) : Int)) := by
        rw [h0.out.at_ (by omega), mix_under _ _ _ _ (by omega)]
      have f0 := h0.out.frozen j
      obtain ⟨P, hP⟩ : ∃ P, P = rsN n d (j + 1) * 4294967296 + hw n j := ⟨_, rfl⟩
      obtain ⟨q1, q2⟩ := short_step hd hP
      have hr : rsN n d (j + 1) < d := Nat.mod_lt _ hd
      have hx := hw_lt n j
      clear i0
      generalize rsN n d (j + 1) = r at *
      generalize hw n j = x at *
      have o1 : IntKind.u64.wrap ((r : Int) * 4294967296) = (r : Int) * 4294967296 := wrap_in _ (by omega) (by omega)
      have o2 : IntKind.u64.wrap ((r : Int) * 4294967296 + (x : Int)) = (r : Int) * 4294967296 + (x : Int) := wrap_in _ (by omega) (by omega)
      have o3 : (r : Int) * 4294967296 + (x : Int) = (P : Int) := by omega
      have Q1 := Lib.hid q1
      have Q2 := Lib.hid q2
      have t1 : (P : Int).tdiv (d : Int) = ((P / d : Nat) : Int) := by rw [Int.tdiv_eq_ediv_of_nonneg (by omega)]; rfl
      have t2 : (P : Int).tmod (d : Int) = ((P % d : Nat) : Int) := by rw [Int.tmod_eq_emod_of_nonneg (by omega)]; rfl
      have hQ : P / d ≤ P := Nat.div_le_self _ _
      have hPb : (P : Int) < 18446744073709551616 := by omega
      rw [Q1.out] at t1 hQ
      rw [Q2.out] at t2
      have hw2 : IntKind.u64.wrap (((hw (n / d) j : Nat) : Int)) = ((hw (n / d) j : Nat) : Int) := wrap_in _ (by omega) (by omega)
      have hdd : (d : Int) < 4294967296 := by omega
      clear hP hr hx q1 q2 hQ hd hd2
      go_wp2
      refine ⟨⟨j, by omega, rfl, rfl, (h0.out.set_ _ _).of_eq ?_, h2.out.other (by simp) _, hB.setCell (by simp) _⟩, by simp [intOf]⟩
      rw [rowF_set, mix_put_down]
end Go.Proofs.Ytnpgikjahfhaoaa
