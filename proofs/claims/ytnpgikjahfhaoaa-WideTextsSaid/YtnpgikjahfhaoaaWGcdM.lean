/-
  The greatest common divisor by halves and differences: plain mathematics for the reference's Gcd.
-/
import Derived.Test.YtnpgikjahfhaoaaWMath
namespace Go.Proofs.Ytnpgikjahfhaoaa
open Go.Proofs.WM

theorem gcd_halves (a b : Nat) (ha : a % 2 = 0) (hb : b % 2 = 0) : Nat.gcd a b = 2 * Nat.gcd (a / 2) (b / 2) := by
  have ea : a = 2 * (a / 2) := by omega
  have eb : b = 2 * (b / 2) := by omega
  rw [← Nat.gcd_mul_left, ← ea, ← eb]
theorem dvd_half {d a : Nat} (hd : d % 2 = 1) (ha : a % 2 = 0) (h : d ∣ a) : d ∣ a / 2 := by
  obtain ⟨c, rfl⟩ := h
  have hc : c % 2 = 0 := by
    rw [Nat.mul_mod, hd, Nat.one_mul, Nat.mod_mod] at ha
    exact ha
  obtain ⟨e, rfl⟩ : ∃ e, c = 2 * e := ⟨c / 2, by omega⟩
  have : d * (2 * e) / 2 = d * e := by rw [Nat.mul_left_comm, Nat.mul_div_cancel_left _ (by decide)]
  rw [this]
  exact Nat.dvd_mul_right _ _
theorem dvd_of_half {d a : Nat} (ha : a % 2 = 0) (h : d ∣ a / 2) : d ∣ a := by
  have e : a = a / 2 * 2 := by omega
  rw [e]
  exact Nat.dvd_mul_right_of_dvd h 2
theorem gcd_half (a b : Nat) (ha : a % 2 = 0) (hg : Nat.gcd a b % 2 = 1) : Nat.gcd (a / 2) b = Nat.gcd a b := by
  refine Nat.dvd_antisymm ?_ ?_
  · exact Nat.dvd_gcd (dvd_of_half ha (Nat.gcd_dvd_left _ _)) (Nat.gcd_dvd_right _ _)
  · exact Nat.dvd_gcd (dvd_half hg ha (Nat.gcd_dvd_left _ _)) (Nat.gcd_dvd_right _ _)
theorem gcd_half_right (a b : Nat) (hb : b % 2 = 0) (hg : Nat.gcd a b % 2 = 1) : Nat.gcd a (b / 2) = Nat.gcd a b := by
  rw [Nat.gcd_comm a (b / 2), Nat.gcd_comm a b] at *
  exact gcd_half b a hb hg
theorem gcd_minus (a b : Nat) (h : b ≤ a) : Nat.gcd (a - b) b = Nat.gcd a b := by
  have e : a = (a - b) + b := by omega
  rw [e, Nat.add_sub_cancel, Nat.gcd_comm (a - b + b) b, Nat.gcd_add_self_right, Nat.gcd_comm]
theorem gcd_odd (a b : Nat) (h : ¬ (a % 2 = 0 ∧ b % 2 = 0)) : Nat.gcd a b % 2 = 1 := by
  rcases Nat.mod_two_eq_zero_or_one (Nat.gcd a b) with x | x
  · exfalso
    obtain ⟨e, he⟩ : 2 ∣ Nat.gcd a b := Nat.dvd_of_mod_eq_zero x
    have h1 : 2 ∣ a := Nat.dvd_trans ⟨e, he⟩ (Nat.gcd_dvd_left a b)
    have h2 : 2 ∣ b := Nat.dvd_trans ⟨e, he⟩ (Nat.gcd_dvd_right a b)
    exact h ⟨Nat.mod_eq_zero_of_dvd h1, Nat.mod_eq_zero_of_dvd h2⟩
  · exact x
theorem gcd_lt (n m : Nat) (hn : n < M256) (h0 : 0 < n) : Nat.gcd n m < M256 := Nat.lt_of_le_of_lt (Nat.gcd_le_left m h0) hn
theorem pow_le_of (y c i G : Nat) (h : y * 2 ^ c = G) (hi : i ≤ c) : y * 2 ^ i ≤ G := by
  rw [← h]
  exact Nat.mul_le_mul_left _ (Nat.pow_le_pow_right (by decide) hi)
theorem le_of_pow {k c n : Nat} (h : k * 2 ^ c = n) : k ≤ n := by
  rw [← h]; exact Nat.le_mul_of_pos_right _ (Nat.pow_pos (by decide))
theorem m_pow2 : M256 = 2 ^ 256 := by decide
theorem c_bound {k c n : Nat} (h0 : 0 < k) (h : k * 2 ^ c = n) (hn : n < M256) : c < 256 := by
  have h1 : 2 ^ c ≤ n := by rw [← h]; exact Nat.le_mul_of_pos_left _ h0
  rw [m_pow2] at hn
  exact (Nat.pow_lt_pow_iff_right (by decide)).1 (Nat.lt_of_le_of_lt h1 hn)
theorem half_pow {k c n : Nat} (he : k % 2 = 0) (h : k * 2 ^ c = n) : k / 2 * 2 ^ (c + 1) = n := by
  rw [← h, Nat.pow_succ', ← Nat.mul_assoc]
  congr 1
  omega
end Go.Proofs.Ytnpgikjahfhaoaa
