/-
  A magnitude times ten and a digit, by half words: plain mathematics for the parsing of numbers.
-/
import Derived.Test.YtnpgikjahfhaoaaWDig
namespace Go.Proofs.WD
open Go Go.Proofs.WM

/-- The carry into half word j of 10 x + c. -/
def kc (x c j : Nat) : Nat := (10 * (x % 4294967296 ^ j) + c) / 4294967296 ^ j
theorem kc_zero (x c : Nat) : kc x c 0 = c := by unfold kc; rw [Nat.pow_zero, Nat.mod_one, Nat.div_one]; omega
theorem kc_num (x c j : Nat) : (10 * (x % 4294967296 ^ (j + 1)) + c) / 4294967296 ^ j = 10 * hw x j + kc x c j := by
  unfold kc hw
  rw [mod_succ]
  have e : 10 * (x % 4294967296 ^ j + 4294967296 ^ j * dg 4294967296 x j) + c = (10 * (x % 4294967296 ^ j) + c) + 4294967296 ^ j * (10 * dg 4294967296 x j) := by
    rw [Nat.mul_add, Nat.mul_left_comm 10]; omega
  rw [e, Nat.add_mul_div_left _ _ (Nat.pow_pos (by decide))]; omega
theorem kc_succ (x c j : Nat) : kc x c (j + 1) = (10 * hw x j + kc x c j) / 4294967296 := by
  rw [← kc_num]
  unfold kc
  rw [Nat.pow_succ, ← Nat.div_div_eq_div_mul]
theorem hw_ten (x c j : Nat) : hw (10 * x + c) j = (10 * hw x j + kc x c j) % 4294967296 := by
  rw [← kc_num]
  show (10 * x + c) / 4294967296 ^ j % 4294967296 = _
  have e : 10 * x + c = (10 * (x % 4294967296 ^ (j + 1)) + c) + 4294967296 ^ j * (4294967296 * (10 * (x / 4294967296 ^ (j + 1)))) := by
    have h := Nat.div_add_mod x (4294967296 ^ (j + 1))
    have e2 : 4294967296 ^ j * (4294967296 * (10 * (x / 4294967296 ^ (j + 1)))) = 10 * (4294967296 ^ (j + 1) * (x / 4294967296 ^ (j + 1))) := by
      rw [← Nat.mul_assoc, ← Nat.pow_succ, Nat.mul_left_comm]
    rw [e2]
    omega
  rw [e, Nat.add_mul_div_left _ _ (Nat.pow_pos (by decide)), Nat.add_mul_mod_self_left]
theorem kc_lt (x c j : Nat) (hc : c < 10) : kc x c j < 10 := by
  unfold kc
  have hp : 0 < 4294967296 ^ j := Nat.pow_pos (by decide)
  rw [Nat.div_lt_iff_lt_mul hp]
  have := Nat.mod_lt x hp
  omega
theorem kc_top (x c : Nat) (hx : x < M256) : (kc x c 8 = 0 ↔ 10 * x + c < M256) := by
  unfold kc
  rw [← m_pow8, Nat.mod_eq_of_lt hx, Nat.div_eq_zero_iff]
  have := m_pos
  omega
theorem valL_step (s : ByteArray) (k : Nat) (h : k < s.size) : valL (s.data.toList.take (k + 1)) = 10 * valL (s.data.toList.take k) + (s[k].toNat - 48) := by
  rw [take_snoc s k h, valL_snoc]
theorem valL_all (s : ByteArray) : valL (s.data.toList.take s.size) = valL s.data.toList := by
  rw [List.take_of_length_le (by rw [← Lib.size_eq]; omega)]
/-- What the program's decimal reports. -/
def decB (l : List UInt8) : Bool := allDig l && (l == [48] || (!l.isEmpty && l.head? != some 48))
theorem decB_good (l : List UInt8) (h : ¬ l = []) : (decB (body l) = true ∧ ¬ l = [45, 48]) ↔ goodB l = true := by
  unfold decB goodB natB
  constructor
  · rintro ⟨h1, h2⟩
    rw [Bool.and_eq_true] at h1
    obtain ⟨hd, ho⟩ := h1
    by_cases h48 : l = [48]
    · subst h48; decide
    · rcases Bool.or_eq_true _ _ ▸ ho with x | x
      · exfalso
        have hb : body l = [48] := by simpa using x
        unfold body at hb
        split at hb
        · rename_i hm
          cases l with
          | nil => exact h rfl
          | cons c t =>
            simp at hm hb
            subst hm
            exact h2 (by rw [hb])
        · exact h48 hb
      · rw [hd]; simp only [Bool.and_true, Bool.or_eq_true]; right; simpa using x
  · intro hg
    rcases Bool.or_eq_true _ _ ▸ hg with x | x
    · have : l = [48] := by simpa using x
      subst this; decide
    · rw [Bool.and_eq_true] at x
      refine ⟨by rw [x.2, x.1]; simp, ?_⟩
      intro e
      subst e
      exact absurd x.1 (by decide)
theorem decB_dig (l : List UInt8) (h : decB l = true) : allDig l = true := by
  unfold decB at h
  rw [Bool.and_eq_true] at h
  exact h.1
end Go.Proofs.WD
