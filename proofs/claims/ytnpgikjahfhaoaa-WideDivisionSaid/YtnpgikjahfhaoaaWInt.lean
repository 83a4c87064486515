/-
  Wide numbers as integers: what Add, Mul, Cmp and Div return, in words of integers.
-/
import Derived.Test.YtnpgikjahfhaoaaWOps3
import Derived.Test.YtnpgikjahfhaoaaWOps4
import Derived.Test.YtnpgikjahfhaoaaWOps5
import Derived.Test.YtnpgikjahfhaoaaWOps6
import Derived.Test.YtnpgikjahfhaoaaWOps8
namespace Go.Proofs.Ytnpgikjahfhaoaa
open Go.RowKit Go.Proofs.WM

/-- The integer. -/
def wv (s : Bool) (n : Nat) : Int := if s = true then -(n : Int) else n
def cS (z : Int) : Bool := decide (z < 0)
def cN (z : Int) : Nat := z.natAbs
theorem wv_false (n : Nat) : wv false n = n := rfl
theorem wv_true (n : Nat) : wv true n = -(n : Int) := rfl
theorem wv_c (z : Int) : wv (cS z) (cN z) = z := by
  unfold wv cS cN
  by_cases h : z < 0
  · rw [decide_eq_true h, if_pos rfl]; omega
  · rw [decide_eq_false h, if_neg (by decide)]; omega
theorem cN_wv (s : Bool) (n : Nat) : cN (wv s n) = n := by
  unfold cN wv
  cases s <;> simp
theorem cS_wv (s : Bool) (n : Nat) : cS (wv s n) = sg s n := by
  unfold cS wv
  cases s
  · rw [if_neg (by decide), sg_false]; exact decide_eq_false (by omega)
  · rw [if_pos rfl]
    by_cases h : n = 0
    · subst h; rfl
    · rw [sg_pos _ h]; exact decide_eq_true (by omega)
theorem wv_sg (s : Bool) (n : Nat) : wv (sg s n) n = wv s n := by
  have := wv_c (wv s n)
  rw [cS_wv, cN_wv] at this
  exact this
theorem wv_neg (t : Bool) (m : Nat) : wv (sg (!t) m) m = -wv t m := by
  rw [wv_sg]
  cases t <;> simp [wv]
theorem abs_wv (s : Bool) (n : Nat) : (wv s n).natAbs = n := cN_wv s n
theorem c_inj {s t : Bool} {n m : Nat} (h : wv s n = wv t m) : sg s n = sg t m ∧ n = m := by
  have h1 := cN_wv s n
  have h2 := cS_wv s n
  rw [h, cN_wv] at h1
  rw [h, cS_wv] at h2
  exact ⟨h2.symm, h1.symm⟩
/-- What an operation returns whose exact result is z. -/
def tupV (z : Int) : Value := if z.natAbs < M256 then .tuple #[.agg (widL (cS z) (cN z)), .int .i64 0] else .tuple #[.agg (widL false 0), .int .i64 21]
theorem tup_ok {z : Int} (h : z.natAbs < M256) : tupV z = .tuple #[.agg (widL (cS z) (cN z)), .int .i64 0] := if_pos h
theorem tup_over {z : Int} (h : ¬ z.natAbs < M256) : tupV z = .tuple #[.agg (widL false 0), .int .i64 21] := if_neg h
theorem tup_of {s : Bool} {n : Nat} {z : Int} (hz : z = wv s n) (h : n < M256) : tupV z = .tuple #[.agg (widL (sg s n) n), .int .i64 0] := by
  subst hz
  rw [tup_ok (by rw [abs_wv]; exact h), cS_wv, cN_wv]
theorem tup_ex (z : Int) : ∃ (S : Bool) (N : Nat) (E : Int), tupV z = .tuple #[.agg (widL S N), .int .i64 E] ∧ N < M256 ∧ (z.natAbs < M256 → S = cS z ∧ N = cN z ∧ E = 0) ∧ (¬ z.natAbs < M256 → S = false ∧ N = 0 ∧ E = 21) := by
  by_cases h : z.natAbs < M256
  · exact ⟨_, _, _, tup_ok h, h, fun _ => ⟨rfl, rfl, rfl⟩, fun x => absurd h x⟩
  · exact ⟨_, _, _, tup_over h, m_pos, fun x => absurd x h, fun _ => ⟨rfl, rfl, rfl⟩⟩
theorem addV_int (s t : Bool) (n m : Nat) (hn : n < M256) (hm : m < M256) : AddV s n t m = tupV (wv s n + wv t m) := by
  unfold AddV addS addN addE
  by_cases h : s = t
  · subst h
    have e : wv s n + wv s m = wv s (n + m) := by cases s <;> simp [wv]; omega
    by_cases ho : M256 ≤ n + m
    · rw [if_pos rfl, if_pos ho, if_pos rfl, if_pos ho, if_pos ⟨rfl, ho⟩, e, tup_over (by rw [abs_wv]; omega)]
    · rw [if_pos rfl, if_neg ho, if_pos rfl, if_neg ho, if_neg (show ¬ (s = s ∧ M256 ≤ n + m) from fun x => ho x.2), e, tup_of rfl (by omega)]
  · rw [if_neg h, if_neg h, if_neg (show ¬ (s = t ∧ M256 ≤ n + m) from fun x => h x.1)]
    by_cases hlt : n < m
    · rw [if_pos hlt, if_pos hlt, tup_of (s := t) (n := m - n) (by cases s <;> cases t <;> simp [wv] at h ⊢ <;> omega) (by omega)]
    · rw [if_neg hlt, if_neg hlt, tup_of (s := s) (n := n - m) (by cases s <;> cases t <;> simp [wv] at h ⊢ <;> omega) (by omega)]
theorem mulV_int (s t : Bool) (n m : Nat) : MulV s n t m = tupV (wv s n * wv t m) := by
  have e : wv s n * wv t m = wv (s != t) (n * m) := by
    cases s <;> cases t <;> simp [wv, Int.neg_mul, Int.mul_neg]
  unfold MulV mlS mlN mlE
  rw [e]
  by_cases h : M256 ≤ n * m
  · rw [if_pos h, if_pos h, if_pos h, tup_over (by rw [abs_wv]; omega)]
  · rw [if_neg h, if_neg h, if_neg h, tup_of rfl (by omega)]
theorem cmpW_int (s t : Bool) (n m : Nat) : (wv s n < wv t m ∧ cmpW s n t m = -1) ∨ (wv s n = wv t m ∧ cmpW s n t m = 0) ∨ (wv t m < wv s n ∧ cmpW s n t m = 1) := by
  have a := wv_sg s n
  have b := wv_sg t m
  have z0 : sg s n = true → n ≠ 0 := fun h e => by rw [e, sg_zero] at h; exact absurd h (by decide)
  have z1 : sg t m = true → m ≠ 0 := fun h e => by rw [e, sg_zero] at h; exact absurd h (by decide)
  have e : cmpW s n t m = if sg s n = true then (if sg t m = true then cmpN m n else -1) else (if sg t m = true then 1 else cmpN n m) := rfl
  rw [e]
  cases h : sg s n <;> cases k : sg t m <;> rw [h] at a <;> rw [k] at b <;> rw [← a, ← b] <;> simp only [Bool.false_eq_true, if_false, if_true, wv_false, wv_true]
  · unfold cmpN
    split
    · left; exact ⟨by omega, rfl⟩
    · split
      · right; right; exact ⟨by omega, rfl⟩
      · right; left; exact ⟨by omega, rfl⟩
  · have := z1 k; right; right; exact ⟨by omega, trivial⟩
  · have := z0 h; left; exact ⟨by omega, trivial⟩
  · unfold cmpN
    split
    · left; exact ⟨by omega, rfl⟩
    · split
      · right; right; exact ⟨by omega, rfl⟩
      · right; left; exact ⟨by omega, rfl⟩
/-- S, N and E are what an operation returns whose exact result is z. -/
def Res (z : Int) (S : Bool) (N : Nat) (E : Int) : Prop := tupV z = .tuple #[.agg (widL S N), .int .i64 E] ∧ N < M256 ∧ (z.natAbs < M256 → S = cS z ∧ N = cN z ∧ E = 0) ∧ (¬ z.natAbs < M256 → S = false ∧ N = 0 ∧ E = 21)
theorem Res.lt {z : Int} {S : Bool} {N : Nat} {E : Int} (h : Res z S N E) : N < M256 := h.2.1
theorem Res.cases {z : Int} {S : Bool} {N : Nat} {E : Int} (h : Res z S N E) : (E = 0 ∧ z.natAbs < M256 ∧ S = cS z ∧ N = cN z ∧ wv S N = z) ∨ (E = 21 ∧ M256 ≤ z.natAbs) := by
  by_cases hz : z.natAbs < M256
  · obtain ⟨h1, h2, h3⟩ := h.2.2.1 hz
    left
    exact ⟨h3, hz, h1, h2, by rw [h1, h2, wv_c]⟩
  · obtain ⟨_, _, h3⟩ := h.2.2.2 hz
    right
    exact ⟨h3, by omega⟩
theorem Res.same {z : Int} {S S' : Bool} {N N' : Nat} {E E' : Int} (h : Res z S N E) (h' : Res z S' N' E') : S = S' ∧ N = N' ∧ E = E' := by
  by_cases hz : z.natAbs < M256
  · obtain ⟨h1, h2, h3⟩ := h.2.2.1 hz
    obtain ⟨k1, k2, k3⟩ := h'.2.2.1 hz
    exact ⟨h1.trans k1.symm, h2.trans k2.symm, h3.trans k3.symm⟩
  · obtain ⟨h1, h2, h3⟩ := h.2.2.2 hz
    obtain ⟨k1, k2, k3⟩ := h'.2.2.2 hz
    exact ⟨h1.trans k1.symm, h2.trans k2.symm, h3.trans k3.symm⟩
theorem Res.of {z : Int} {s : Bool} {n : Nat} {S : Bool} {N : Nat} {E : Int} (h : Res z S N E) (hz : z = wv s n) (hn : n < M256) : S = sg s n ∧ N = n ∧ E = 0 := by
  subst hz
  obtain ⟨h1, h2, h3⟩ := h.2.2.1 (by rw [abs_wv]; exact hn)
  exact ⟨h1.trans (cS_wv s n), h2.trans (cN_wv s n), h3⟩
theorem res_ex (z : Int) : ∃ (S : Bool) (N : Nat) (E : Int), Res z S N E := by
  obtain ⟨S, N, E, h⟩ := tup_ex z
  exact ⟨S, N, E, h⟩
theorem add_res (s t : Bool) (n m : Nat) (hn : n < M256) (hm : m < M256) {S : Bool} {N : Nat} {E : Int} (h : Res (wv s n + wv t m) S N E) (w : World) :
    Calls Try.prog 24 #[.agg (widL s n), .agg (widL t m)] w (Gives (.tuple #[.agg (widL S N), .int .i64 E]) w) := by
  have hh := padd_wide s t n m w hn hm
  rw [addV_int s t n m hn hm, h.1] at hh
  exact hh
theorem sub_res (s t : Bool) (n m : Nat) (hn : n < M256) (hm : m < M256) {S : Bool} {N : Nat} {E : Int} (h : Res (wv s n - wv t m) S N E) (w : World) :
    Calls Try.prog 26 #[.agg (widL s n), .agg (widL t m)] w (Gives (.tuple #[.agg (widL S N), .int .i64 E]) w) := by
  have hh := psub_wide s t n m w hn hm
  rw [addV_int s _ n m hn hm, wv_neg, ← Int.sub_eq_add_neg, h.1] at hh
  exact hh
theorem mul_res (s t : Bool) (n m : Nat) (hn : n < M256) (hm : m < M256) {S : Bool} {N : Nat} {E : Int} (h : Res (wv s n * wv t m) S N E) (w : World) :
    Calls Try.prog 28 #[.agg (widL s n), .agg (widL t m)] w (Gives (.tuple #[.agg (widL S N), .int .i64 E]) w) := by
  have hh := pmul_wide s t n m w hn hm
  rw [mulV_int, h.1] at hh
  exact hh
/-- The quotient and the remainder: the remainder is 0 or has the sign of the divisor, and is less in magnitude. -/
theorem divV_int (s t : Bool) (n m : Nat) (hn : n < M256) (hm : m < M256) (h0 : m ≠ 0) : ∃ q r : Int, DivV s n t m = .tuple #[.agg (widL (cS q) (cN q)), .agg (widL (cS r) (cN r)), .int .i64 0] ∧ wv s n = q * wv t m + r ∧ cN q < M256 ∧ cN r < M256 ∧ (t = false → 0 ≤ r ∧ r < m) ∧ (t = true → -(m : Int) < r ∧ r ≤ 0) := by
  refine ⟨wv (s != t) (dvQ s n t m), wv t (dvR s n t m), ?_, ?_, ?_, ?_, ?_, ?_⟩
  · unfold DivV
    rw [if_neg h0, cS_wv, cN_wv, cS_wv, cN_wv]
  · have hdm := Nat.div_add_mod n m
    have hlt := Nat.mod_lt n (show m > 0 by omega)
    unfold dvQ dvR
    by_cases h : (s != t) = true ∧ n % m ≠ 0
    · rw [if_pos h, if_pos h]
      have hn' : (n : Int) = (m : Int) * ((n / m : Nat) : Int) + ((n % m : Nat) : Int) := by rw [← Int.natCast_mul, ← Int.natCast_add, hdm]
      have hc : ((m - n % m : Nat) : Int) = (m : Int) - ((n % m : Nat) : Int) := by omega
      generalize n / m = Q at *
      generalize n % m = R at *
      have hmul : (m : Int) * (Q : Int) = (Q : Int) * m := Int.mul_comm _ _
      cases s <;> cases t <;> simp only [wv, bne_self_eq_false, Bool.false_eq_true, false_and, if_true, if_false, Bool.true_bne, Bool.false_bne, Bool.not_false, true_and] at h ⊢
      · rw [hn', hc, Int.neg_mul_neg, Int.natCast_add, Int.add_mul]; omega
      · rw [hn', hc, Int.neg_mul, Int.natCast_add, Int.add_mul]; omega
    · rw [if_neg h, if_neg h]
      have hn' : (n : Int) = (m : Int) * ((n / m : Nat) : Int) + ((n % m : Nat) : Int) := by rw [← Int.natCast_mul, ← Int.natCast_add, hdm]
      have hz : (s != t) = true → n % m = 0 := fun x => Classical.byContradiction fun y => h ⟨x, y⟩
      generalize n / m = Q at *
      generalize n % m = R at *
      have hmul : (m : Int) * (Q : Int) = (Q : Int) * m := Int.mul_comm _ _
      cases s <;> cases t <;> simp only [wv, bne_self_eq_false, Bool.false_eq_true, if_true, if_false, Bool.true_bne, Bool.false_bne, Bool.not_false, forall_const] at hz ⊢
      · omega
      · rw [Int.neg_mul_neg]; omega
      · rw [Int.neg_mul]; omega
      · rw [Int.mul_neg]; omega
  · rw [cN_wv]
    unfold dvQ
    split
    · rename_i h
      have h1 : m ≠ 1 := fun e => h.2 (by rw [e, Nat.mod_one])
      have h2 : n / m ≤ n / 2 := Nat.div_le_div_left (by omega) (by decide)
      have h3 : M256 = 2 * (M256 / 2) := by decide
      omega
    · exact Nat.lt_of_le_of_lt (Nat.div_le_self _ _) hn
  · rw [cN_wv]
    have := Nat.mod_lt n (show m > 0 by omega)
    unfold dvR
    split <;> omega
  · intro ht
    subst ht
    have := Nat.mod_lt n (show m > 0 by omega)
    rw [wv_false]
    unfold dvR
    split
    · rename_i h; omega
    · omega
  · intro ht
    subst ht
    have := Nat.mod_lt n (show m > 0 by omega)
    rw [wv_true]
    unfold dvR
    split
    · rename_i h; omega
    · omega
/-- A remainder is 0 just where the divisor divides. -/
theorem rem_zero {q r b a : Int} (h : a = q * b + r) (hr : r.natAbs < b.natAbs) : r = 0 ↔ b ∣ a := by
  constructor
  · intro h0
    subst h0
    rw [h, Int.add_zero]
    exact ⟨q, Int.mul_comm _ _⟩
  · intro hd
    have hd2 : b ∣ r := by
      have : r = a - q * b := by omega
      rw [this]
      exact Int.dvd_sub hd ⟨q, Int.mul_comm _ _⟩
    have := Int.natAbs_dvd_natAbs.2 hd2
    rcases Nat.eq_zero_or_pos r.natAbs with x | x
    · omega
    · have := Nat.le_of_dvd x this; omega
end Go.Proofs.Ytnpgikjahfhaoaa
