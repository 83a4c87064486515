/-
  Division a bit at a time, from the highest bit down: plain facts.
-/
import Derived.Test.YtnpgikjahfhaoaaWMath
namespace Go.Proofs.WM

/-- One bit more of the number divided: the rest is doubled, and the divisor is taken from it where it goes. -/
theorem bit_down {n m i r : Nat} (hm : 0 < m) (hr : r = 2 * (n / 2 ^ (i + 1) % m) + n / 2 ^ i % 2) :
    (r < m → n / 2 ^ i % m = r ∧ n / m / 2 ^ i = 2 * (n / m / 2 ^ (i + 1))) ∧ (m ≤ r → n / 2 ^ i % m = r - m ∧ n / m / 2 ^ i = 2 * (n / m / 2 ^ (i + 1)) + 1) := by
  have e1 : n / m / 2 ^ i = n / 2 ^ i / m := by rw [Nat.div_div_eq_div_mul, Nat.div_div_eq_div_mul, Nat.mul_comm]
  have e2 : n / m / 2 ^ (i + 1) = n / 2 ^ (i + 1) / m := by rw [Nat.div_div_eq_div_mul, Nat.div_div_eq_div_mul, Nat.mul_comm]
  have e3 : n / 2 ^ (i + 1) = n / 2 ^ i / 2 := by rw [Nat.pow_succ, Nat.div_div_eq_div_mul]
  rw [e1, e2]
  rw [e3] at hr ⊢
  generalize n / 2 ^ i = u at *
  have h1 := Nat.div_add_mod (u / 2) m
  have h2 := Nat.mod_lt (u / 2) hm
  generalize u / 2 / m = k at *
  generalize u / 2 % m = x at *
  have hu : u = m * (2 * k) + r := by
    have : u = 2 * (u / 2) + u % 2 := by omega
    rw [← h1] at this
    have e : m * (2 * k) = 2 * (m * k) := by ac_rfl
    omega
  refine ⟨fun h => ?_, fun h => ?_⟩
  · refine ⟨?_, ?_⟩
    · rw [hu, Nat.mul_add_mod, Nat.mod_eq_of_lt h]
    · rw [hu, Nat.mul_add_div hm, Nat.div_eq_of_lt h]
      rfl
  · have hu2 : u = m * (2 * k + 1) + (r - m) := by rw [Nat.mul_add, Nat.mul_one]; omega
    refine ⟨?_, ?_⟩
    · rw [hu2, Nat.mul_add_mod, Nat.mod_eq_of_lt (by omega)]
    · rw [hu2, Nat.mul_add_div hm, Nat.div_eq_of_lt (by omega)]
/-- The bits of q from i on. -/
def qhi (q i : Nat) : Nat := q / 2 ^ i * 2 ^ i
theorem qhi_zero (q : Nat) : qhi q 0 = q := by simp [qhi]
theorem qhi_top {q k : Nat} (h : q < 2 ^ k) : qhi q k = 0 := by simp [qhi, Nat.div_eq_of_lt h]
theorem qhi_same {q i : Nat} (h : q / 2 ^ i = 2 * (q / 2 ^ (i + 1))) : qhi q i = qhi q (i + 1) := by
  unfold qhi
  rw [h, Nat.pow_succ]
  ac_rfl
theorem qhi_next {q i : Nat} (h : q / 2 ^ i = 2 * (q / 2 ^ (i + 1)) + 1) : qhi q i = qhi q (i + 1) + 2 ^ i := by
  unfold qhi
  rw [h, Nat.add_mul, Nat.one_mul, Nat.pow_succ]
  congr 1
  ac_rfl
theorem h_pow (j : Nat) : (4294967296 : Nat) ^ j = 2 ^ (32 * j) := by
  rw [Nat.pow_mul]
/-- A bit of the half word in which it lies. -/
theorem hw_bit (n i : Nat) : hw n (i / 32) / 2 ^ (i % 32) % 2 = n / 2 ^ i % 2 := by
  have hi : 2 ^ i = 2 ^ (32 * (i / 32)) * 2 ^ (i % 32) := by rw [← Nat.pow_add]; congr 1; omega
  unfold hw dg
  rw [h_pow, hi, ← Nat.div_div_eq_div_mul]
  generalize n / 2 ^ (32 * (i / 32)) = u
  obtain ⟨d, hd⟩ : ∃ d, 32 = i % 32 + (d + 1) := ⟨32 - i % 32 - 1, by omega⟩
  have e : (4294967296 : Nat) = 2 ^ (i % 32) * (2 * 2 ^ d) := by
    have : (4294967296 : Nat) = 2 ^ 32 := by decide
    rw [this]
    conv => lhs; rw [hd]
    rw [Nat.pow_add, Nat.pow_succ, Nat.mul_comm (2 ^ d) 2]
  rw [e, Nat.mod_mul_right_div_self, Nat.mod_mul_right_mod]
/-- A bit set in a number whose bits up to it are 0. -/
theorem hw_set (x i j : Nat) (hx : x % 2 ^ (i + 1) = 0) : hw (x + 2 ^ i) j = if j = i / 32 then hw x j + 2 ^ (i % 32) else hw x j := by
  obtain ⟨y, rfl⟩ : ∃ y, x = 2 ^ (i + 1) * y := ⟨x / 2 ^ (i + 1), by have := Nat.div_add_mod x (2 ^ (i + 1)); omega⟩
  unfold hw dg
  rw [h_pow]
  rcases Nat.lt_trichotomy j (i / 32) with h | h | h
  · rw [if_neg (by omega)]
    obtain ⟨d, hd⟩ : ∃ d, i = 32 * j + (32 + d) := ⟨i - 32 * j - 32, by omega⟩
    have e : 2 ^ i = 2 ^ (32 * j) * (4294967296 * 2 ^ d) := by
      conv => lhs; rw [hd]
      rw [Nat.pow_add, Nat.pow_add]
    rw [e, Nat.add_mul_div_left _ _ (Nat.pow_pos (by decide)), Nat.add_mul_mod_self_left]
  · subst h
    rw [if_pos rfl]
    have hi : 2 ^ i = 2 ^ (32 * (i / 32)) * 2 ^ (i % 32) := by rw [← Nat.pow_add]; congr 1; omega
    have e : 2 ^ (i + 1) * y = 2 ^ (32 * (i / 32)) * (2 ^ (i % 32) * (2 * y)) := by rw [Nat.pow_succ, hi]; ac_rfl
    rw [e]
    rw [hi]
    rw [← Nat.mul_add, Nat.mul_div_cancel_left _ (Nat.pow_pos (by decide)), Nat.mul_div_cancel_left _ (Nat.pow_pos (by decide))]
    obtain ⟨d, hd⟩ : ∃ d, 32 = i % 32 + (d + 1) := ⟨32 - i % 32 - 1, by omega⟩
    have e4 : (4294967296 : Nat) = 2 ^ (i % 32) * (2 * 2 ^ d) := by
      have : (4294967296 : Nat) = 2 ^ 32 := by decide
      rw [this]
      conv => lhs; rw [hd]
      rw [Nat.pow_add, Nat.pow_succ, Nat.mul_comm (2 ^ d) 2]
    rw [e4, show 2 ^ (i % 32) * (2 * y) + 2 ^ (i % 32) = 2 ^ (i % 32) * (2 * y + 1) by rw [Nat.mul_add, Nat.mul_one], Nat.mul_mod_mul_left, Nat.mul_mod_mul_left, Nat.mul_mod_mul_left]
    have hodd : (2 * y + 1) % (2 * 2 ^ d) = 2 * (y % 2 ^ d) + 1 := by
      rw [Nat.mod_mul, show (2 * y + 1) % 2 = 1 by omega, show (2 * y + 1) / 2 = y by omega]; omega
    rw [hodd, Nat.mul_add, Nat.mul_one]
  · rw [if_neg (by omega)]
    obtain ⟨d, hd⟩ : ∃ d, 32 * j = i + 1 + d := ⟨32 * j - i - 1, by omega⟩
    have e : 2 ^ (32 * j) = 2 ^ (i + 1) * 2 ^ d := by rw [hd, Nat.pow_add]
    rw [e, ← Nat.div_div_eq_div_mul, ← Nat.div_div_eq_div_mul]
    congr 2
    have hlt : 2 ^ i < 2 ^ (i + 1) := Nat.pow_lt_pow_right (by decide) (by omega)
    rw [Nat.mul_add_div (Nat.pow_pos (by decide)), Nat.div_eq_of_lt hlt, Nat.mul_div_cancel_left _ (Nat.pow_pos (by decide))]
    rfl
theorem qhi_mod (q i : Nat) : qhi q i % 2 ^ i = 0 := by unfold qhi; exact Nat.mul_mod_left _ _
end Go.Proofs.WM
