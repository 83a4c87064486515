/-
  Plain mathematics for layer 1 (num): no Go in sight. Specifications of division, products, roots and sums over the integers.
-/
namespace Go.Proofs.Ythipgmdjjmgppaa

/-- The least int, behind a name. -/
def imin : Int := -9223372036854775808

/-- What 'divide' hands back: quotient rounded down, remainder, error. -/
def divQ (a b : Int) : Int := if b = 0 then 0 else if a = imin ∧ b = -1 then 0 else a.fdiv b
def divR (a b : Int) : Int := if b = 0 then 0 else if a = imin ∧ b = -1 then 0 else a.fmod b
def divE (a b : Int) : Int := if b = 0 then 22 else if a = imin ∧ b = -1 then 21 else 0

theorem tdiv_fdiv_same (a b : Int) (hb : b ≠ 0) (h : a.tmod b = 0 ∨ ((a < 0) ↔ (b < 0))) : a.tdiv b = a.fdiv b ∧ a.tmod b = a.fmod b := by
  have e1 : a.tdiv b = a.fdiv b := by
    rw [Int.fdiv_eq_tdiv]
    rcases h with h | h
    · have hd : b ∣ a := Int.dvd_of_tmod_eq_zero h
      simp [hd]
    · by_cases hd : b ∣ a
      · simp [hd]
      · have ha : a ≠ 0 := fun e => hd (by simp [e])
        by_cases h0 : a < 0
        · have hb0 := h.1 h0
          simp [hd, Int.sign_eq_neg_one_of_neg hb0]; omega
        · have hb0 : ¬ b < 0 := fun x => h0 (h.2 x)
          simp [hd, Int.sign_eq_one_of_pos (show 0 < b by omega)]; omega
  refine ⟨e1, ?_⟩
  rw [Int.tmod_def, Int.fmod_def, e1]

theorem tdiv_fdiv_less (a b : Int) (hb : b ≠ 0) (h0 : a.tmod b ≠ 0) (h : ¬ ((a < 0) ↔ (b < 0))) : a.tdiv b - 1 = a.fdiv b ∧ a.tmod b + b = a.fmod b := by
  have hd : ¬ b ∣ a := fun hd => h0 (Int.tmod_eq_zero_of_dvd hd)
  have ha : a ≠ 0 := fun e => hd (by simp [e])
  have e1 : a.tdiv b - 1 = a.fdiv b := by
    rw [Int.fdiv_eq_tdiv]
    by_cases h1 : a < 0
    · have : ¬ b < 0 := fun x => h ⟨fun _ => x, fun _ => h1⟩
      simp [hd, Int.sign_eq_one_of_pos (show 0 < b by omega)]; omega
    · have hb0 : b < 0 := by
        rcases Int.lt_or_le b 0 with x | x
        · exact x
        · exact absurd ⟨fun y => absurd y h1, fun y => absurd y (by omega)⟩ h
      simp [hd, Int.sign_eq_neg_one_of_neg hb0]; omega
  refine ⟨e1, ?_⟩
  rw [Int.tmod_def, Int.fmod_def, ← e1, Int.mul_sub]
  omega


/-! ### Long division, bit by bit -/
theorem div_mod_of (n d q r : Nat) (hr : r < d) (h : n = d * q + r) : n / d = q ∧ n % d = r := by
  subst h
  constructor
  · rw [Nat.mul_add_div (by omega), Nat.div_eq_of_lt hr]; rfl
  · rw [Nat.mul_add_mod, Nat.mod_eq_of_lt hr]

theorem twice_yes (M d b : Nat) (hb : b < 2) (h : d ≤ 2 * (M % d) + b) (hd : 0 < d) : (2 * M + b) / d = 2 * (M / d) + 1 ∧ (2 * M + b) % d = 2 * (M % d) + b - d := by
  have h1 := Nat.mod_lt M hd
  have h2 := Nat.div_add_mod M d
  refine div_mod_of _ _ _ _ (by omega) ?_
  have : d * (2 * (M / d) + 1) = 2 * (d * (M / d)) + d := by rw [Nat.mul_add, Nat.mul_left_comm]; omega
  omega
theorem twice_no (M d b : Nat) (h : 2 * (M % d) + b < d) : (2 * M + b) / d = 2 * (M / d) ∧ (2 * M + b) % d = 2 * (M % d) + b := by
  have h2 := Nat.div_add_mod M d
  refine div_mod_of _ _ _ _ h ?_
  have : d * (2 * (M / d)) = 2 * (d * (M / d)) := by rw [Nat.mul_left_comm]
  omega

/-- The two words of a product. -/
def mulHi (a b : Nat) : Nat := a * b / 18446744073709551616
def mulLo (a b : Nat) : Nat := a * b % 18446744073709551616
theorem mul_words (a b : Nat) : mulHi a b * 18446744073709551616 + mulLo a b = a * b := by unfold mulHi mulLo; omega
theorem mulLo_le (a b : Nat) : mulLo a b ≤ 18446744073709551615 := by unfold mulLo; omega
theorem mulHi_le (a b : Nat) (ha : a ≤ 9223372036854775808) (hb : b ≤ 9223372036854775808) : mulHi a b ≤ 4611686018427387904 := by
  have : a * b ≤ 9223372036854775808 * 9223372036854775808 := Nat.mul_le_mul ha hb
  unfold mulHi; omega
/-- The quotient and the remainder of two words. -/
def dlQ (h l d : Nat) : Nat := (h * 18446744073709551616 + l) / d
def dlR (h l d : Nat) : Nat := (h * 18446744073709551616 + l) % d
theorem dlR_lt (h l d : Nat) (hd : h < d) : dlR h l d < d := Nat.mod_lt _ (by omega)
theorem dlQ_le (h l d : Nat) (hd : h < d) (hl : l ≤ 18446744073709551615) : dlQ h l d ≤ 18446744073709551615 := by
  unfold dlQ
  have : (h * 18446744073709551616 + l) / d < 18446744073709551616 := by
    rw [Nat.div_lt_iff_lt_mul (by omega)]
    have := Nat.mul_le_mul_left 18446744073709551616 (show h + 1 ≤ d from hd)
    omega
  omega

def dlM (h l k : Nat) : Nat := h * 2 ^ k + l / 2 ^ (64 - k)
theorem dlM_zero (h l : Nat) (hl : l ≤ 18446744073709551615) : dlM h l 0 = h := by
  unfold dlM; rw [Nat.div_eq_of_lt (by simp; omega)]; omega
theorem dlM_end (h l : Nat) : dlM h l 64 = h * 18446744073709551616 + l := by simp [dlM]
theorem dlM_succ (h l k : Nat) (hk : k < 64) : dlM h l (k + 1) = 2 * dlM h l k + l / 2 ^ (63 - k) % 2 := by
  unfold dlM
  have e1 : 64 - (k + 1) = 63 - k := by omega
  have e2 : (2 : Nat) ^ (64 - k) = 2 ^ (63 - k) * 2 := by rw [← Nat.pow_succ]; congr 1; omega
  have e3 : l / 2 ^ (64 - k) = l / 2 ^ (63 - k) / 2 := by rw [e2, Nat.div_div_eq_div_mul]
  rw [e1, e3, Nat.pow_succ]
  have : h * (2 ^ k * 2) = 2 * (h * 2 ^ k) := by rw [← Nat.mul_assoc]; omega
  omega
theorem dlM_bd (h l d k : Nat) (h0 : h < d) (hl : l ≤ 18446744073709551615) (hk : k < 64) : dlM h l k / d ≤ 9223372036854775807 := by
  have hT : l / 2 ^ (64 - k) < 2 ^ k := by
    rw [Nat.div_lt_iff_lt_mul (Nat.two_pow_pos _), ← Nat.pow_add]
    have : k + (64 - k) = 64 := by omega
    rw [this]; omega
  have hM : dlM h l k < d * 2 ^ k := by
    unfold dlM
    have : h * 2 ^ k + 2 ^ k ≤ d * 2 ^ k := by
      have := Nat.mul_le_mul_right (2 ^ k) (show h + 1 ≤ d from h0)
      rw [Nat.add_mul] at this
      omega
    omega
  have h1 : dlM h l k / d < 2 ^ k := Nat.div_lt_of_lt_mul hM
  have h2 : 2 ^ k ≤ 2 ^ 63 := Nat.pow_le_pow_right (by omega) (by omega)
  omega


/-! ### MulDiv: the exact quotient by its magnitude -/
theorem fdiv_nat_pos (n d : Nat) : ((n : Int)).fdiv (d : Int) = ((n / d : Nat) : Int) := by
  rw [Int.fdiv_eq_ediv_of_nonneg _ (by omega)]; exact (Int.natCast_ediv n d).symm
theorem fdiv_nat_neg (n d : Nat) (hd : 0 < d) : (-(n : Int)).fdiv (d : Int) = -((n / d : Nat) : Int) - (if n % d = 0 then 0 else 1) := by
  rw [Int.fdiv_eq_ediv_of_nonneg _ (by omega)]
  have h2 := Nat.div_add_mod n d
  have h3 := Nat.mod_lt n hd
  have e : ((d : Int) * ((n / d : Nat) : Int)) = ((d * (n / d) : Nat) : Int) := (Int.natCast_mul _ _).symm
  by_cases hz : n % d = 0
  · rw [if_pos hz]
    refine Int.ediv_eq_of_eq_mul_right (by omega) ?_
    rw [Int.sub_zero, Int.mul_neg, e]; omega
  · rw [if_neg hz]
    have : (-(n : Int)) = (((d - n % d : Nat) : Nat) : Int) + (d : Int) * (-((n / d : Nat) : Int) - 1) := by
      rw [Int.mul_sub, Int.mul_neg, e]; omega
    rw [this, Int.add_mul_ediv_left _ _ (by omega), Int.ediv_eq_zero_of_lt (by omega) (by omega)]
    omega

/-- The sign of the quotient 'a * b / c', as the program has it. -/
def mdNeg (a b c : Int) : Bool := (decide (a < 0) != decide (b < 0)) != decide (c < 0)
theorem md_val (a b c : Int) (hc : c ≠ 0) : (a * b).fdiv c =
    if mdNeg a b c then -((a.natAbs * b.natAbs / c.natAbs : Nat) : Int) - (if a.natAbs * b.natAbs % c.natAbs = 0 then 0 else 1) else ((a.natAbs * b.natAbs / c.natAbs : Nat) : Int) := by
  have hd : 0 < c.natAbs := by omega
  rw [← fdiv_nat_neg _ _ hd, ← fdiv_nat_pos, Int.natCast_mul]
  unfold mdNeg
  have nn : ∀ x y : Int, (-x).fdiv (-y) = x.fdiv y := Int.neg_fdiv_neg
  have ea : (a.natAbs : Int) = if a < 0 then -a else a := by split <;> omega
  have eb : (b.natAbs : Int) = if b < 0 then -b else b := by split <;> omega
  have ec : (c.natAbs : Int) = if c < 0 then -c else c := by split <;> omega
  rw [ea, eb, ec]
  by_cases h1 : a < 0 <;> by_cases h2 : b < 0 <;> by_cases h3 : c < 0 <;> simp [h1, h2, h3, nn, Int.neg_mul, Int.mul_neg]

def mdOk (a b c : Int) : Bool := decide (-9223372036854775808 ≤ (a * b).fdiv c) && decide ((a * b).fdiv c ≤ 9223372036854775807)
def mdQ (a b c : Int) : Int := if c = 0 then 0 else if mdOk a b c then (a * b).fdiv c else 0
def mdE (a b c : Int) : Int := if c = 0 then 22 else if mdOk a b c then 0 else 21

end Go.Proofs.Ythipgmdjjmgppaa
