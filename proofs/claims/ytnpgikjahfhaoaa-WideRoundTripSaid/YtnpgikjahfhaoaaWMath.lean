/-
  Plain mathematics: numbers by their digits to a base.
-/
namespace Go.Proofs.WM

/-- Digit i of n to the base b. -/
def dg (b n i : Nat) : Nat := n / b ^ i % b

theorem dg_lt {b : Nat} (hb : 0 < b) (n i : Nat) : dg b n i < b := Nat.mod_lt _ hb
theorem dg_zero (b i : Nat) : dg b 0 i = 0 := by simp [dg]
theorem mod_succ (b n i : Nat) : n % b ^ (i + 1) = n % b ^ i + b ^ i * dg b n i := by
  unfold dg
  rw [Nat.pow_succ, Nat.mod_mul]
theorem div_step (b n i : Nat) : n / b ^ i = n / b ^ (i + 1) * b + dg b n i := by
  unfold dg
  rw [Nat.pow_succ, ← Nat.div_div_eq_div_mul]
  have := Nat.div_add_mod (n / b ^ i) b
  rw [Nat.mul_comm] at this
  exact this.symm
theorem dg_of_lt {b n i : Nat} (h : n < b ^ i) : dg b n i = 0 := by
  unfold dg
  rw [Nat.div_eq_of_lt h, Nat.zero_mod]
theorem dg_of_lt' {b n k i : Nat} (hb : 0 < b) (h : n < b ^ k) (hk : k ≤ i) : dg b n i = 0 :=
  dg_of_lt (Nat.lt_of_lt_of_le h (Nat.pow_le_pow_right hb hk))
/-- Equal digits make equal numbers. -/
theorem eq_of_dg {b : Nat} : ∀ (k n m : Nat), (∀ i, i < k → dg b n i = dg b m i) → n % b ^ k = m % b ^ k
  | 0, n, m, _ => by simp [Nat.mod_one]
  | k + 1, n, m, h => by
    rw [mod_succ, mod_succ, eq_of_dg k n m (fun i hi => h i (by omega)), h k (by omega)]
theorem dg_mod {b n k i : Nat} (hi : i < k) : dg b (n % b ^ k) i = dg b n i := by
  unfold dg
  obtain ⟨d, rfl⟩ : ∃ d, k = i + (d + 1) := ⟨k - i - 1, by omega⟩
  rw [Nat.pow_add, Nat.mod_mul_right_div_self, Nat.pow_succ, Nat.mul_comm (b ^ d) b, Nat.mod_mul_right_mod]

/-! ### Sums -/
/-- The carry into digit i of n + m. -/
def cy (b n m i : Nat) : Nat := (n % b ^ i + m % b ^ i) / b ^ i
theorem cy_zero (b n m : Nat) : cy b n m 0 = 0 := by simp [cy, Nat.mod_one]
theorem cy_le {b : Nat} (hb : 0 < b) (n m i : Nat) : cy b n m i ≤ 1 := by
  unfold cy
  have h1 := Nat.mod_lt n (Nat.pow_pos (n := i) hb)
  have h2 := Nat.mod_lt m (Nat.pow_pos (n := i) hb)
  have : (n % b ^ i + m % b ^ i) / b ^ i < 2 := Nat.div_lt_of_lt_mul (by omega)
  omega
theorem cy_succ {b : Nat} (hb : 0 < b) (n m i : Nat) : cy b n m (i + 1) = (dg b n i + dg b m i + cy b n m i) / b := by
  unfold cy
  rw [mod_succ, mod_succ, show n % b ^ i + b ^ i * dg b n i + (m % b ^ i + b ^ i * dg b m i) = (n % b ^ i + m % b ^ i) + b ^ i * (dg b n i + dg b m i) by rw [Nat.mul_add]; omega,
    Nat.pow_succ, ← Nat.div_div_eq_div_mul, Nat.add_mul_div_left _ _ (Nat.pow_pos hb), Nat.add_comm]
theorem add_div' {b : Nat} (hb : 0 < b) (n m i : Nat) : (n + m) / b ^ i = n / b ^ i + m / b ^ i + cy b n m i := by
  unfold cy
  have e1 := Nat.div_add_mod n (b ^ i)
  have e2 := Nat.div_add_mod m (b ^ i)
  have : n + m = (n % b ^ i + m % b ^ i) + b ^ i * (n / b ^ i + m / b ^ i) := by rw [Nat.mul_add]; omega
  have h := Nat.add_mul_div_left (n % b ^ i + m % b ^ i) (n / b ^ i + m / b ^ i) (Nat.pow_pos (n := i) hb)
  rw [← this] at h
  omega
theorem dg_add {b : Nat} (hb : 0 < b) (n m i : Nat) : dg b (n + m) i = (dg b n i + dg b m i + cy b n m i) % b := by
  unfold dg
  rw [add_div' hb]
  generalize cy b n m i = c
  rw [Nat.add_mod (n / b ^ i + m / b ^ i) c, Nat.add_mod (n / b ^ i) (m / b ^ i), ← Nat.add_mod ((n / b ^ i) % b + (m / b ^ i) % b) c]
theorem cy_top {b k n m : Nat} (h1 : n < b ^ k) (h2 : m < b ^ k) : cy b n m k = (n + m) / b ^ k := by
  unfold cy
  rw [Nat.mod_eq_of_lt h1, Nat.mod_eq_of_lt h2]

/-! ### Differences -/
/-- The borrow out of digit i of n - m. -/
def bw (b n m i : Nat) : Nat := if n % b ^ i < m % b ^ i then 1 else 0
theorem bw_zero (b n m : Nat) : bw b n m 0 = 0 := by simp [bw, Nat.mod_one]
theorem bw_le (b n m i : Nat) : bw b n m i ≤ 1 := by unfold bw; split <;> omega
theorem bw_succ {b : Nat} (hb : 0 < b) (n m i : Nat) : bw b n m (i + 1) = if dg b n i < dg b m i + bw b n m i then 1 else 0 := by
  unfold bw
  rw [mod_succ, mod_succ]
  have h1 := Nat.mod_lt n (Nat.pow_pos (n := i) hb)
  have h2 := Nat.mod_lt m (Nat.pow_pos (n := i) hb)
  generalize n % b ^ i = x at *
  generalize m % b ^ i = y at *
  generalize dg b n i = p at *
  generalize dg b m i = q at *
  generalize b ^ i = W at *
  by_cases hpq : p < q
  · have : W * p + W ≤ W * q := by have := Nat.mul_le_mul_left W (show p + 1 ≤ q by omega); rw [Nat.mul_add] at this; omega
    rw [if_pos (by omega), if_pos (by omega)]
  · by_cases hqp : q < p
    · have : W * q + W ≤ W * p := by have := Nat.mul_le_mul_left W (show q + 1 ≤ p by omega); rw [Nat.mul_add] at this; omega
      rw [if_neg (by omega), if_neg (by split <;> omega)]
    · obtain rfl : p = q := by omega
      by_cases hxy : x < y
      · rw [if_pos (by omega), if_pos (by rw [if_pos hxy]; omega)]
      · rw [if_neg (by omega), if_neg (by rw [if_neg hxy]; omega)]
/-- n - m, with b^k added if m is greater. -/
def subM (M n m : Nat) : Nat := (n + M - m) % M
theorem subM_of_le {M n m : Nat} (h : m ≤ n) (hn : n < M) : subM M n m = n - m := by
  unfold subM
  rw [show n + M - m = (n - m) + M by omega, Nat.add_mod_right, Nat.mod_eq_of_lt (by omega)]
theorem subM_lt {M : Nat} (hM : 0 < M) (n m : Nat) : subM M n m < M := Nat.mod_lt _ hM
theorem dg_subM {b k i n m : Nat} (hb : 0 < b) (hi : i < k) (hm : m < b ^ k) : dg b (subM (b ^ k) n m) i = (dg b n i + b - dg b m i - bw b n m i) % b := by
  unfold subM
  rw [dg_mod hi]
  obtain ⟨d, rfl⟩ : ∃ d, k = i + (d + 1) := ⟨k - i - 1, by omega⟩
  have hM : b ^ (i + (d + 1)) = b ^ i * (b * b ^ d) := by rw [Nat.pow_add, Nat.pow_succ, Nat.mul_comm (b ^ d) b]
  have hW : 0 < b ^ i := Nat.pow_pos hb
  have e1 := Nat.div_add_mod n (b ^ i)
  have e2 := Nat.div_add_mod m (b ^ i)
  have l1 := Nat.mod_lt n hW
  have l2 := Nat.mod_lt m hW
  have hq : m / b ^ i < b * b ^ d := Nat.div_lt_of_lt_mul (by rw [← hM]; exact hm)
  unfold dg bw
  generalize hx : n % b ^ i = x at *
  generalize hy : m % b ^ i = y at *
  generalize hp : n / b ^ i = p at *
  generalize hqq : m / b ^ i = q at *
  have hbig : (n + b ^ (i + (d + 1)) - m) / b ^ i = p + b * b ^ d - q - (if x < y then 1 else 0) := by
    rw [hM]
    generalize b ^ i = W at *
    generalize b * b ^ d = D at *
    have hqD : W * q + W ≤ W * D := by have := Nat.mul_le_mul_left W (show q + 1 ≤ D by omega); rw [Nat.mul_add] at this; omega
    split
    · have : n + W * D - m = (x + W - y) + W * (p + D - q - 1) := by
        rw [Nat.mul_sub, Nat.mul_sub, Nat.mul_add]; omega
      rw [this, Nat.add_mul_div_left _ _ hW, Nat.div_eq_of_lt (by omega)]
      omega
    · have : n + W * D - m = (x - y) + W * (p + D - q) := by
        rw [Nat.mul_sub, Nat.mul_add]; omega
      rw [this, Nat.add_mul_div_left _ _ hW, Nat.div_eq_of_lt (by omega)]
      omega
  rw [hbig]
  generalize hc : (if x < y then 1 else 0) = c
  have hc1 : c ≤ 1 := by rw [← hc]; split <;> omega
  -- modulo b
  have hp' := Nat.div_add_mod p b
  have hq' := Nat.div_add_mod q b
  have hpb := Nat.mod_lt p hb
  have hqb := Nat.mod_lt q hb
  have hqd : q / b < b ^ d := Nat.div_lt_of_lt_mul hq
  generalize p % b = p0 at *
  generalize q % b = q0 at *
  generalize p / b = p1 at *
  generalize q / b = q1 at *
  generalize b ^ d = D at *
  have hD : b * q1 + b ≤ b * D := by have := Nat.mul_le_mul_left b (show q1 + 1 ≤ D by omega); rw [Nat.mul_add] at this; omega
  have : p + b * D - q - c = (p0 + b - q0 - c) + b * (p1 + D - q1 - 1) := by
    rw [Nat.mul_sub, Nat.mul_sub, Nat.mul_add]; omega
  rw [this, Nat.add_mul_mod_self_left]

/-! ### Products: one row of the multiplication by hand -/
/-- The carry into digit i + j of x + f * y * b^i. -/
def my (b x f y i j : Nat) : Nat := (x % b ^ (i + j) + f * (y % b ^ j) * b ^ i) / b ^ (i + j)
theorem my_zero (b x f y i : Nat) : my b x f y i 0 = x % b ^ i / b ^ i := by
  simp [my, Nat.mod_one]
theorem my_zero' {b : Nat} (hb : 0 < b) (x f y i : Nat) : my b x f y i 0 = 0 := by
  rw [my_zero, Nat.div_eq_of_lt (Nat.mod_lt _ (Nat.pow_pos hb))]
theorem my_num {b : Nat} (x f y i j : Nat) : x % b ^ (i + (j + 1)) + f * (y % b ^ (j + 1)) * b ^ i =
    (x % b ^ (i + j) + f * (y % b ^ j) * b ^ i) + b ^ (i + j) * (f * dg b y j + dg b x (i + j)) := by
  rw [show i + (j + 1) = (i + j) + 1 by omega, mod_succ b x, mod_succ b y, Nat.mul_add, Nat.mul_add, Nat.add_mul]
  have : f * (b ^ j * dg b y j) * b ^ i = b ^ (i + j) * (f * dg b y j) := by rw [Nat.pow_add]; ac_rfl
  omega
theorem my_succ {b : Nat} (hb : 0 < b) (x f y i j : Nat) : my b x f y i (j + 1) = (f * dg b y j + dg b x (i + j) + my b x f y i j) / b := by
  unfold my
  rw [my_num, show i + (j + 1) = (i + j) + 1 by omega, Nat.pow_succ, ← Nat.div_div_eq_div_mul, Nat.add_mul_div_left _ _ (Nat.pow_pos hb), Nat.add_comm]
theorem dg_my {b : Nat} (hb : 0 < b) (x f y i j : Nat) : dg b (x + f * y * b ^ i) (i + j) = (f * dg b y j + dg b x (i + j) + my b x f y i j) % b := by
  have e : (x + f * y * b ^ i) / b ^ (i + j) = my b x f y i j + (x / b ^ (i + j) + f * (y / b ^ j)) := by
    unfold my
    have e1 := Nat.div_add_mod x (b ^ (i + j))
    have e2 := Nat.div_add_mod y (b ^ j)
    have : x + f * y * b ^ i = (x % b ^ (i + j) + f * (y % b ^ j) * b ^ i) + b ^ (i + j) * (x / b ^ (i + j) + f * (y / b ^ j)) := by
      have h2 : f * y * b ^ i = f * (y % b ^ j) * b ^ i + b ^ (i + j) * (f * (y / b ^ j)) := by
        have h3 : f * y = f * (b ^ j * (y / b ^ j)) + f * (y % b ^ j) := by rw [← Nat.mul_add, e2]
        rw [h3, Nat.add_mul, Nat.pow_add]
        have : f * (b ^ j * (y / b ^ j)) * b ^ i = b ^ i * b ^ j * (f * (y / b ^ j)) := by ac_rfl
        omega
      rw [Nat.mul_add, h2]
      omega
    rw [this, Nat.add_mul_div_left _ _ (Nat.pow_pos hb)]
  unfold dg
  rw [e]
  have h1 := Nat.div_add_mod (x / b ^ (i + j)) b
  have h2 := Nat.div_add_mod (y / b ^ j) b
  generalize my b x f y i j = c at *
  generalize x / b ^ (i + j) = p at *
  generalize y / b ^ j = q at *
  have : c + (p + f * q) = (f * (q % b) + p % b + c) + b * (p / b + f * (q / b)) := by
    have h3 : f * q = f * (b * (q / b)) + f * (q % b) := by rw [← Nat.mul_add, h2]
    have h4 : f * (b * (q / b)) = b * (f * (q / b)) := by ac_rfl
    rw [Nat.mul_add]
    omega
  rw [this, Nat.add_mul_mod_self_left]
theorem dg_my_low {b : Nat} (hb : 0 < b) (x f y i k : Nat) (hk : k < i) : dg b (x + f * y * b ^ i) k = dg b x k := by
  obtain ⟨d, rfl⟩ : ∃ d, i = k + (d + 1) := ⟨i - k - 1, by omega⟩
  unfold dg
  have : f * y * b ^ (k + (d + 1)) = b ^ k * (b * (f * y * b ^ d)) := by rw [Nat.pow_add, Nat.pow_succ]; ac_rfl
  rw [this, Nat.add_mul_div_left _ _ (Nat.pow_pos hb), Nat.add_mul_mod_self_left]
theorem my_top {b x f y i k : Nat} (hx : x < b ^ (i + k)) (hy : y < b ^ k) (hz : x + f * y * b ^ i < b ^ (i + k) * b) : my b x f y i k = dg b (x + f * y * b ^ i) (i + k) := by
  unfold my dg
  rw [Nat.mod_eq_of_lt hx, Nat.mod_eq_of_lt hy]
  exact (Nat.mod_eq_of_lt (Nat.div_lt_of_lt_mul hz)).symm

/-! ### Division by a digit -/
theorem ds_rest (n m i : Nat) (b : Nat) : (n / b ^ (i + 1) % m * b + dg b n i) % m = n / b ^ i % m := by
  rw [div_step b n i, Nat.add_mod, Nat.mod_mul_mod, ← Nat.add_mod]
theorem ds_quot {b m : Nat} (hb : 0 < b) (hm : 0 < m) (n i : Nat) : (n / b ^ (i + 1) % m * b + dg b n i) / m = dg b (n / m) i := by
  have e : n / m / b ^ i = n / b ^ i / m := by rw [Nat.div_div_eq_div_mul, Nat.div_div_eq_div_mul, Nat.mul_comm]
  unfold dg
  rw [e]
  have h := div_step b n i
  have hd : n / b ^ i % b < b := Nat.mod_lt _ hb
  unfold dg at h
  generalize n / b ^ i % b = d at *
  rw [h]
  have h2 := Nat.div_add_mod (n / b ^ (i + 1)) m
  have hr := Nat.mod_lt (n / b ^ (i + 1)) hm
  generalize n / b ^ (i + 1) = u at *
  generalize u % m = r at *
  generalize u / m = k at *
  have e3 : u * b + d = (r * b + d) + m * (k * b) := by
    rw [← h2, Nat.add_mul, Nat.mul_assoc]; omega
  rw [e3, Nat.add_mul_div_left _ _ hm, Nat.add_mul_mod_self_right]
  refine (Nat.mod_eq_of_lt (Nat.div_lt_of_lt_mul ?_)).symm
  have := Nat.mul_le_mul_right b (show r + 1 ≤ m by omega)
  rw [Nat.add_mul, Nat.one_mul] at this
  omega

/-! ### Words and half words -/
def wd (n i : Nat) : Nat := dg 18446744073709551616 n i
def hw (n i : Nat) : Nat := dg 4294967296 n i
def M256 : Nat := 115792089237316195423570985008687907853269984665640564039457584007913129639936
theorem wd_lt (n i : Nat) : wd n i < 18446744073709551616 := dg_lt (by decide) n i
theorem hw_lt (n i : Nat) : hw n i < 4294967296 := dg_lt (by decide) n i
theorem m_pow4 : M256 = 18446744073709551616 ^ 4 := by decide
theorem m_pow8 : M256 = 4294967296 ^ 8 := by decide
theorem m_pos : 0 < M256 := by decide
theorem hw_low (n i : Nat) : hw n (2 * i) = wd n i % 4294967296 := by
  unfold hw wd dg
  rw [Nat.pow_mul, show (4294967296 : Nat) ^ 2 = 18446744073709551616 by decide]
  omega
theorem hw_high (n i : Nat) : hw n (2 * i + 1) = wd n i / 4294967296 := by
  unfold hw wd dg
  rw [Nat.pow_succ, Nat.pow_mul, show (4294967296 : Nat) ^ 2 = 18446744073709551616 by decide, ← Nat.div_div_eq_div_mul]
  omega
theorem wd_of_hw (n i : Nat) : wd n i = hw n (2 * i) + 4294967296 * hw n (2 * i + 1) := by
  rw [hw_low, hw_high]; omega
theorem eq_of_wd {n m : Nat} (hn : n < M256) (hm : m < M256) (h : ∀ i, i < 4 → wd n i = wd m i) : n = m := by
  have := eq_of_dg 4 n m h
  rwa [← m_pow4, Nat.mod_eq_of_lt hn, Nat.mod_eq_of_lt hm] at this
theorem eq_of_hw {n m : Nat} (hn : n < M256) (hm : m < M256) (h : ∀ i, i < 8 → hw n i = hw m i) : n = m := by
  have := eq_of_dg 8 n m h
  rwa [← m_pow8, Nat.mod_eq_of_lt hn, Nat.mod_eq_of_lt hm] at this
theorem wd_zero (i : Nat) : wd 0 i = 0 := dg_zero _ i
theorem hw_zero (i : Nat) : hw 0 i = 0 := dg_zero _ i
/-- The number with four words. -/
def ofW (a b c d : Nat) : Nat := a + 18446744073709551616 * (b + 18446744073709551616 * (c + 18446744073709551616 * d))
theorem ofW_lt {a b c d : Nat} (ha : a < 18446744073709551616) (hb : b < 18446744073709551616) (hc : c < 18446744073709551616) (hd : d < 18446744073709551616) : ofW a b c d < M256 := by
  unfold ofW M256; omega
theorem wd_ofW {a b c d : Nat} (ha : a < 18446744073709551616) (hb : b < 18446744073709551616) (hc : c < 18446744073709551616) (hd : d < 18446744073709551616) :
    wd (ofW a b c d) 0 = a ∧ wd (ofW a b c d) 1 = b ∧ wd (ofW a b c d) 2 = c ∧ wd (ofW a b c d) 3 = d := by
  unfold wd dg ofW
  refine ⟨by omega, ?_, ?_, ?_⟩
  · rw [show (18446744073709551616 : Nat) ^ 1 = 18446744073709551616 by decide]; omega
  · rw [show (18446744073709551616 : Nat) ^ 2 = 18446744073709551616 * 18446744073709551616 by decide, ← Nat.div_div_eq_div_mul]; omega
  · rw [show (18446744073709551616 : Nat) ^ 3 = 18446744073709551616 * 18446744073709551616 * 18446744073709551616 by decide, ← Nat.div_div_eq_div_mul, ← Nat.div_div_eq_div_mul]; omega
theorem ofW_wd {n : Nat} (hn : n < M256) : ofW (wd n 0) (wd n 1) (wd n 2) (wd n 3) = n := by
  obtain ⟨h0, h1, h2, h3⟩ := wd_ofW (wd_lt n 0) (wd_lt n 1) (wd_lt n 2) (wd_lt n 3)
  refine eq_of_wd (ofW_lt (wd_lt n 0) (wd_lt n 1) (wd_lt n 2) (wd_lt n 3)) hn fun i hi => ?_
  match i, hi with
  | 0, _ => exact h0
  | 1, _ => exact h1
  | 2, _ => exact h2
  | 3, _ => exact h3
/-- A number is 0 just if its words are. -/
theorem zero_of_wd {n : Nat} (hn : n < M256) (h0 : wd n 0 = 0) (h1 : wd n 1 = 0) (h2 : wd n 2 = 0) (h3 : wd n 3 = 0) : n = 0 := by
  rw [← ofW_wd hn, h0, h1, h2, h3]; rfl
/-- The sign of a valid number. -/
def sg (neg : Bool) (n : Nat) : Bool := neg && n != 0
theorem sg_false (n : Nat) : sg false n = false := rfl
theorem sg_zero (b : Bool) : sg b 0 = false := by cases b <;> rfl
theorem sg_pos (b : Bool) {n : Nat} (h : n ≠ 0) : sg b n = b := by cases b <;> simp [sg, h]
theorem sg_sg (b : Bool) (n : Nat) : sg (sg b n) n = sg b n := by cases b <;> by_cases h : n = 0 <;> simp [sg, h]
end Go.Proofs.WM
