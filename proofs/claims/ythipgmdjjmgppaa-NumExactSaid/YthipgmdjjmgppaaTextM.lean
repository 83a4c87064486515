/-
  Decimal digits of a natural number, from the last one on: plain mathematics for Text.
-/
import Derived.Test.YthipgmdjjmgppaaParse
namespace Go.Proofs.Ythipgmdjjmgppaa
open Go.RowKit

/-- The last k digits of m. -/
def lowD (m : Nat) : Nat → List UInt8
  | 0 => []
  | k + 1 => UInt8.ofNat (48 + m / 10 ^ k % 10) :: lowD m k
theorem lowD_length (m k : Nat) : (lowD m k).length = k := by
  induction k with
  | zero => rfl
  | succ k ih => simp [lowD, ih]
/-- How many digits m has, at most f + 1. -/
def lenD : Nat → Nat → Nat
  | 0, _ => 1
  | f + 1, m => if m < 10 then 1 else lenD f (m / 10) + 1
/-- k digits are those of m. -/
def IsLen (m k : Nat) : Prop := 1 ≤ k ∧ m / 10 ^ k = 0 ∧ (k = 1 ∨ m / 10 ^ (k - 1) ≠ 0)
theorem isLen_unique (m k l : Nat) (h : IsLen m k) (h' : IsLen m l) : k = l := by
  have mono : ∀ a b : Nat, a ≤ b → m / 10 ^ a = 0 → m / 10 ^ b = 0 := fun a b hab h0 => by
    have : m < 10 ^ a := by
      rcases Nat.lt_or_ge m (10 ^ a) with x | x
      · exact x
      · have := Nat.div_pos x (Nat.pow_pos (by decide)); omega
    exact Nat.div_eq_of_lt (Nat.lt_of_lt_of_le this (Nat.pow_le_pow_right (by decide) hab))
  rcases Nat.lt_trichotomy k l with x | x | x
  · rcases h'.2.2 with y | y
    · have := h.1; omega
    · exact absurd (mono k (l - 1) (by omega) h.2.1) y
  · exact x
  · rcases h.2.2 with y | y
    · have := h'.1; omega
    · exact absurd (mono l (k - 1) (by omega) h'.2.1) y
theorem lenD_isLen (f m : Nat) (h : m < 10 ^ (f + 1)) : IsLen m (lenD f m) := by
  induction f generalizing m with
  | zero => exact ⟨by simp [lenD], by simp [lenD]; simpa using h, .inl rfl⟩
  | succ f ih =>
    unfold lenD
    by_cases hm : m < 10
    · rw [if_pos hm]; exact ⟨by omega, by simp; exact hm, .inl rfl⟩
    · rw [if_neg hm]
      have h1 : m / 10 < 10 ^ (f + 1) := by rw [Nat.div_lt_iff_lt_mul (by decide)]; rw [Nat.pow_succ] at h; exact h
      obtain ⟨a, b, c⟩ := ih (m / 10) h1
      refine ⟨by omega, ?_, .inr ?_⟩
      · rw [Nat.pow_succ', ← Nat.div_div_eq_div_mul]; exact b
      · rw [Nat.add_sub_cancel]
        have e : lenD f (m / 10) = (lenD f (m / 10) - 1) + 1 := by omega
        rw [e, Nat.pow_succ', ← Nat.div_div_eq_div_mul]
        rcases c with c | c
        · rw [c]; simp; omega
        · exact c
def digs (m : Nat) : List UInt8 := lowD m (lenD 19 m)
def textL (n : Int) : List UInt8 := if n < 0 then 45 :: digs n.natAbs else digs n.natAbs
def textB (n : Int) : ByteArray := ⟨(textL n).toArray⟩
theorem digs_of (m k : Nat) (hm : m ≤ 9223372036854775808) (h : IsLen m k) : digs m = lowD m k := by
  unfold digs
  rw [isLen_unique m _ k (lenD_isLen 19 m (Nat.lt_of_le_of_lt hm (by decide))) h]

theorem valL_lowD (m k : Nat) : valL (lowD m k) = m % 10 ^ k := by
  have gen : ∀ (k a : Nat), (lowD m k).foldl (fun n c => 10 * n + (c.toNat - 48)) a = a * 10 ^ k + m % 10 ^ k := by
    intro k
    induction k with
    | zero => intro a; simp [lowD, Nat.mod_one]
    | succ k ih =>
      intro a
      unfold lowD
      rw [List.foldl_cons, ih]
      have e : (UInt8.ofNat (48 + m / 10 ^ k % 10)).toNat = 48 + m / 10 ^ k % 10 := by
        rw [UInt8.toNat_ofNat']; omega
      rw [e, Nat.add_sub_cancel_left, Nat.mod_pow_succ, Nat.pow_succ, Nat.add_mul, Nat.mul_comm (10 ^ k) 10, ← Nat.mul_assoc, Nat.mul_comm a 10, Nat.mul_comm (m / 10 ^ k % 10)]
      omega
  unfold valL
  rw [gen]; omega
theorem allDig_lowD (m k : Nat) : allDig (lowD m k) = true := by
  induction k with
  | zero => rfl
  | succ k ih =>
    unfold lowD
    unfold allDig at *
    rw [List.all_cons, ih]
    have e : (UInt8.ofNat (48 + m / 10 ^ k % 10)).toNat = 48 + m / 10 ^ k % 10 := by rw [UInt8.toNat_ofNat']; omega
    unfold dig
    rw [e]
    simp; omega
end Go.Proofs.Ythipgmdjjmgppaa
