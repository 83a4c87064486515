/-
  Products of half words, row by row: plain facts.
-/
import Derived.Test.YtnpgikjahfhaoaaWSplit
namespace Go.Proofs.Ytnpgikjahfhaoaa
open Go.RowKit Go.Proofs.WM

/-- The product of the lowest i digits of n with m. -/
def mulD (n m i : Nat) : Nat := n % 4294967296 ^ i * m
theorem mulD_zero (n m : Nat) : mulD n m 0 = 0 := by unfold mulD; rw [Nat.pow_zero, Nat.mod_one, Nat.zero_mul]
theorem mulD_succ (n m i : Nat) : mulD n m (i + 1) = mulD n m i + hw n i * m * 4294967296 ^ i := by
  unfold mulD hw
  rw [mod_succ, Nat.add_mul]
  congr 1
  ac_rfl
theorem mulD_full {n m : Nat} (hn : n < M256) : mulD n m 8 = n * m := by
  unfold mulD
  rw [Nat.mod_eq_of_lt (m_pow8 ▸ hn)]
theorem mulD_lt {n m : Nat} (hm : m < M256) (i : Nat) : mulD n m i < 4294967296 ^ (i + 8) := by
  unfold mulD
  rw [Nat.pow_add, ← m_pow8]
  have h1 : n % 4294967296 ^ i < 4294967296 ^ i := Nat.mod_lt _ (Nat.pow_pos (by decide))
  exact Nat.mul_lt_mul'' h1 hm
/-- The carry into digit i + j in row i. -/
def mcN (n m i j : Nat) : Nat := my 4294967296 (mulD n m i) (hw n i) m i j
theorem mcN_zero (n m i : Nat) : mcN n m i 0 = 0 := my_zero' (by decide) _ _ _ _
theorem mcN_succ (n m i j : Nat) : mcN n m i (j + 1) = (hw n i * hw m j + hw (mulD n m i) (i + j) + mcN n m i j) / 4294967296 := my_succ (by decide) _ _ _ _ _
theorem sum_le {x y d c : Nat} (hx : x < 4294967296) (hy : y < 4294967296) (hd : d < 4294967296) (hc : c < 4294967296) : x * y + d + c ≤ 18446744073709551615 := by
  have := Nat.mul_le_mul (show x ≤ 4294967295 by omega) (show y ≤ 4294967295 by omega)
  omega
theorem mcN_lt (n m i : Nat) : ∀ j, mcN n m i j < 4294967296
  | 0 => by rw [mcN_zero]; decide
  | j + 1 => by
    rw [mcN_succ]
    have := sum_le (hw_lt n i) (hw_lt m j) (hw_lt (mulD n m i) (i + j)) (mcN_lt n m i j)
    omega
theorem digit_row (n m i j : Nat) : hw (mulD n m (i + 1)) (i + j) = (hw n i * hw m j + hw (mulD n m i) (i + j) + mcN n m i j) % 4294967296 := by
  rw [mulD_succ]
  exact dg_my (by decide) _ _ _ _ _
theorem digit_low (n m i k : Nat) (h : k < i) : hw (mulD n m (i + 1)) k = hw (mulD n m i) k := by
  rw [mulD_succ]
  exact dg_my_low (by decide) _ _ _ _ _ h
theorem carry_top {n m : Nat} (hm : m < M256) (i : Nat) : mcN n m i 8 = hw (mulD n m (i + 1)) (i + 8) := by
  have h := mulD_lt (n := n) hm (i + 1)
  rw [mulD_succ] at h ⊢
  refine my_top (mulD_lt hm i) (m_pow8 ▸ hm) ?_
  rw [show i + 1 + 8 = i + 8 + 1 by omega, Nat.pow_succ] at h
  exact h
theorem digit_past {n m : Nat} (hm : m < M256) (i k : Nat) (h : i + 8 ≤ k) : hw (mulD n m i) k = 0 :=
  dg_of_lt' (by decide) (mulD_lt hm i) h
theorem row_start (n m i : Nat) : rowF 16 (hw (mulD n m i)) = rowF 16 (mix (i + 0) (hw (mulD n m (i + 1))) (hw (mulD n m i))) :=
  rowF_ext fun k _ => by
    unfold mix
    split
    · exact (digit_low n m i k (by omega)).symm
    · rfl
theorem row_end {n m : Nat} (hm : m < M256) (i : Nat) : rowF 16 (mix (i + 8 + 1) (hw (mulD n m (i + 1))) (hw (mulD n m i))) = rowF 16 (hw (mulD n m (i + 1))) :=
  rowF_ext fun k _ => by
    unfold mix
    split
    · rfl
    · rw [digit_past hm _ _ (by omega), digit_past hm _ _ (by omega)]

/-- The product without what is above 2^256, and whether there is something above. -/
def mulN (n m : Nat) : Nat := n * m % M256
def mulB (n m : Nat) : Bool := decide (M256 ≤ n * m)
theorem mulN_lt (n m : Nat) : mulN n m < M256 := Nat.mod_lt _ m_pos
theorem hw_mulN {n m : Nat} (hn : n < M256) (k : Nat) (hk : k < 8) : hw (mulN n m) k = hw (mulD n m 8) k := by
  rw [mulD_full hn]
  unfold hw mulN
  rw [m_pow8]
  exact dg_mod hk
/-- Some digit from 8 on, below 8 + k, is not 0. -/
def ovB (p k : Nat) : Bool := (List.range k).any fun j => decide (0 < hw p (8 + j))
theorem ovB_succ (p k : Nat) : ovB p (k + 1) = (ovB p k || decide (0 < hw p (8 + k))) := by
  unfold ovB
  rw [List.range_succ, List.any_append]
  simp
theorem hw_upper (p j : Nat) : hw p (8 + j) = hw (p / M256) j := by
  unfold hw dg
  rw [m_pow8, Nat.div_div_eq_div_mul, ← Nat.pow_add]
theorem ovB_full {n m : Nat} (hn : n < M256) (hm : m < M256) : ovB (mulD n m 8) 8 = mulB n m := by
  rw [mulD_full hn]
  have hlt : n * m / M256 < M256 := Nat.div_lt_of_lt_mul (Nat.mul_lt_mul'' hn hm)
  unfold ovB mulB
  rw [Bool.eq_iff_iff, List.any_eq_true]
  simp only [List.mem_range, decide_eq_true_eq]
  constructor
  · rintro ⟨j, hj, h⟩
    rcases Nat.lt_or_ge (n * m) M256 with x | x
    · rw [hw_upper, Nat.div_eq_of_lt x, hw_zero] at h
      exact absurd h (Nat.lt_irrefl _)
    · exact x
  · intro h
    refine Classical.byContradiction fun hno => ?_
    have hz : n * m / M256 = 0 := eq_of_hw hlt m_pos fun j hj => by
      rw [hw_zero, ← hw_upper]
      refine Classical.byContradiction fun hj0 => hno ⟨j, hj, by omega⟩
    rw [Nat.div_eq_zero_iff] at hz
    rcases hz with hz | hz
    · exact absurd hz (by decide)
    · omega
theorem upper_zero {n m : Nat} : (!(n * m / M256 == 0)) = mulB n m := by
  unfold mulB
  rw [Bool.eq_iff_iff]
  simp only [Bool.not_eq_true', beq_eq_false_iff_ne, ne_eq, decide_eq_true_eq, Nat.div_eq_zero_iff]
  have := m_pos
  omega
theorem upper_lt {n m : Nat} (hn : n < M256) (hm : m < M256) : n * m / M256 < M256 := Nat.div_lt_of_lt_mul (Nat.mul_lt_mul'' hn hm)
end Go.Proofs.Ytnpgikjahfhaoaa
