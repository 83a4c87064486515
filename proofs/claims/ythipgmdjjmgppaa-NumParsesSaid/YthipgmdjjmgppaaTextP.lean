/-
  Texts and their parsing: plain mathematics for the round trips of Text and Parse.
-/
import Derived.Test.YthipgmdjjmgppaaTextM
import Derived.Test.YthipgmdjjmgppaaParseR
namespace Go.Proofs.Ythipgmdjjmgppaa
open Go.RowKit

theorem lowD_snoc (k : Nat) : ∀ m : Nat, lowD m (k + 1) = lowD (m / 10) k ++ [UInt8.ofNat (48 + m % 10)] := by
  induction k with
  | zero => intro m; simp [lowD]
  | succ k ih =>
    intro m
    have e : lowD m (k + 1 + 1) = UInt8.ofNat (48 + m / 10 ^ (k + 1) % 10) :: lowD m (k + 1) := rfl
    have e2 : lowD (m / 10) (k + 1) = UInt8.ofNat (48 + m / 10 / 10 ^ k % 10) :: lowD (m / 10) k := rfl
    rw [e, e2, ih m, Nat.pow_succ', ← Nat.div_div_eq_div_mul]
    rfl
theorem foldl_gen (l : List UInt8) : ∀ a : Nat, l.foldl (fun n c => 10 * n + (c.toNat - 48)) a = a * 10 ^ l.length + valL l := by
  induction l with
  | nil => intro a; simp [valL]
  | cons c l ih =>
    intro a
    have h1 := ih (10 * a + (c.toNat - 48))
    have h2 := ih (10 * 0 + (c.toNat - 48))
    unfold valL
    rw [List.foldl_cons, List.foldl_cons, h1, h2, List.length_cons, Nat.pow_succ, Nat.mul_zero, Nat.zero_add, Nat.add_mul]
    have : 10 * a * 10 ^ l.length = a * (10 ^ l.length * 10) := by rw [Nat.mul_comm (10 ^ l.length) 10, ← Nat.mul_assoc, Nat.mul_comm a 10]
    omega
theorem valL_cons (c : UInt8) (l : List UInt8) : valL (c :: l) = (c.toNat - 48) * 10 ^ l.length + valL l := by
  have := foldl_gen l (10 * 0 + (c.toNat - 48))
  rw [Nat.mul_zero, Nat.zero_add] at this
  rw [← this]
  unfold valL
  rw [List.foldl_cons, Nat.mul_zero, Nat.zero_add]
theorem allDig_cons (c : UInt8) (l : List UInt8) (h : allDig (c :: l) = true) : 48 ≤ c.toNat ∧ c.toNat ≤ 57 ∧ allDig l = true := by
  unfold allDig at *
  rw [List.all_cons] at h
  simp [dig] at h
  exact ⟨h.1.1, h.1.2, by simpa [dig] using h.2⟩
theorem valL_lt (l : List UInt8) (h : allDig l = true) : valL l < 10 ^ l.length := by
  induction l with
  | nil => simp [valL]
  | cons c l ih =>
    obtain ⟨h1, h2, h3⟩ := allDig_cons c l h
    have := ih h3
    rw [valL_cons, List.length_cons, Nat.pow_succ]
    have : (c.toNat - 48) * 10 ^ l.length ≤ 9 * 10 ^ l.length := Nat.mul_le_mul_right _ (by omega)
    omega
theorem lowD_val (n : Nat) : ∀ l : List UInt8, l.length = n → allDig l = true → lowD (valL l) l.length = l := by
  induction n with
  | zero =>
    intro l hl _
    have : l = [] := List.eq_nil_of_length_eq_zero hl
    subst this; rfl
  | succ n ih =>
    intro l hl hd
    rcases List.eq_nil_or_concat l with rfl | ⟨t, c, rfl⟩
    · simp at hl
    · rw [List.concat_eq_append] at *
      have ht : t.length = n := by simpa using hl
      rw [allDig_snoc, Bool.and_eq_true] at hd
      have hc : 48 ≤ c.toNat ∧ c.toNat ≤ 57 := by have := hd.2; unfold dig at this; simpa using this
      rw [List.length_append, List.length_singleton, lowD_snoc, valL_snoc]
      have e1 : (10 * valL t + (c.toNat - 48)) / 10 = valL t := by omega
      have e2 : (10 * valL t + (c.toNat - 48)) % 10 = c.toNat - 48 := by omega
      rw [e1, e2, ih t ht hd.1]
      congr 2
      rw [show 48 + (c.toNat - 48) = c.toNat by omega]
      exact UInt8.ofNat_toNat
theorem natB_cons (l : List UInt8) (h : natB l = true) : ∃ c t, l = c :: t ∧ 49 ≤ c.toNat ∧ c.toNat ≤ 57 ∧ allDig l = true := by
  have hd := natB_dig l h
  cases l with
  | nil => simp [natB] at h
  | cons c t =>
    refine ⟨c, t, rfl, ?_, (allDig_cons c t hd).2.1, hd⟩
    have := (allDig_cons c t hd).1
    rcases Nat.lt_or_ge c.toNat 49 with x | x
    · have e : c.toNat = 48 := by omega
      have e' : c = 48 := UInt8.toNat_inj.1 e
      subst e'
      simp [natB] at h
    · exact x
theorem digs_val (l : List UInt8) (h : natB l = true) (hv : valL l ≤ 9223372036854775808) : digs (valL l) = l ∧ 0 < valL l := by
  obtain ⟨c, t, rfl, h1, h2, hd⟩ := natB_cons l h
  have hlt := valL_lt _ hd
  have hp : 10 ^ t.length ≤ valL (c :: t) := by
    rw [valL_cons]
    have : 1 * 10 ^ t.length ≤ (c.toNat - 48) * 10 ^ t.length := Nat.mul_le_mul_right _ (by omega)
    omega
  have hpos : 0 < 10 ^ t.length := Nat.pow_pos (by decide)
  refine ⟨?_, by omega⟩
  rw [digs_of _ (c :: t).length hv ⟨by simp, Nat.div_eq_of_lt hlt, .inr ?_⟩]
  · exact lowD_val _ _ rfl hd
  · rw [List.length_cons, Nat.add_sub_cancel]
    have := Nat.div_pos hp hpos
    omega

/-- What Parse accepts is the text of its result. -/
theorem par_back (l : List UInt8) (h : parE l = 0) : textL (parQ l) = l ∧ -1099511627776 ≤ parQ l ∧ parQ l ≤ 1099511627776 := by
  by_cases h1 : l = []
  · subst h1; exact absurd h (by decide)
  · by_cases h2 : l = [48]
    · subst h2; exact ⟨by decide, by decide, by decide⟩
    · have p := par_else l h1 h2
      cases hb : natB (body l)
      · have q := p.1 hb; rw [h] at q; exact absurd q.2 (by decide)
      · have hv : valL (body l) ≤ 1099511627776 := by
          by_cases hm : l.head? = some 45
          · have q := p.2.1 hb hm
            rw [h] at q
            have q := q.2
            unfold valE at q
            by_cases x : valL (body l) ≤ 1099511627776
            · exact x
            · rw [if_neg x] at q; exact absurd q (by decide)
          · have q := p.2.2 hb hm
            rw [h] at q
            have q := q.2
            unfold valE at q
            by_cases x : valL (body l) ≤ 1099511627776
            · exact x
            · rw [if_neg x] at q; exact absurd q (by decide)
        obtain ⟨d1, d2⟩ := digs_val (body l) hb (by omega)
        by_cases hm : l.head? = some 45
        · have q := p.2.1 hb hm
          rw [← q.1]
          unfold valQ
          rw [if_pos hv]
          refine ⟨?_, by omega, by omega⟩
          unfold textL
          rw [if_pos (by omega), Int.natAbs_neg, Int.natAbs_natCast, d1]
          unfold body
          rw [if_pos hm]
          cases l with
          | nil => exact absurd rfl h1
          | cons c t => simp at hm; subst hm; rfl
        · have q := p.2.2 hb hm
          rw [← q.1]
          unfold valQ
          rw [if_pos hv]
          refine ⟨?_, by omega, by omega⟩
          unfold textL
          rw [if_neg (by omega), Int.natAbs_natCast, d1]
          unfold body
          rw [if_neg hm]

theorem digs_head (M : Nat) (hM : 0 < M) (hm : M ≤ 9223372036854775808) : ∃ c t, digs M = c :: t ∧ 49 ≤ c.toNat ∧ c.toNat ≤ 57 ∧ valL (digs M) = M ∧ natB (digs M) = true := by
  have hL := lenD_isLen 19 M (Nat.lt_of_le_of_lt hm (by decide))
  unfold digs
  obtain ⟨k, hk⟩ : ∃ k, lenD 19 M = k + 1 := ⟨lenD 19 M - 1, by have := hL.1; omega⟩
  rw [hk] at hL ⊢
  have h0 : M / 10 ^ k / 10 = 0 := by rw [Nat.div_div_eq_div_mul, ← Nat.pow_succ]; exact hL.2.1
  have h1 : M / 10 ^ k ≠ 0 := by
    rcases hL.2.2 with x | x
    · have : k = 0 := by omega
      subst this; simp; omega
    · simpa using x
  have e : (UInt8.ofNat (48 + M / 10 ^ k % 10)).toNat = 48 + M / 10 ^ k := by rw [UInt8.toNat_ofNat']; omega
  have hv : valL (lowD M (k + 1)) = M := by
    rw [valL_lowD]
    refine Nat.mod_eq_of_lt ?_
    rcases Nat.lt_or_ge M (10 ^ (k + 1)) with x | x
    · exact x
    · have := Nat.div_pos x (Nat.pow_pos (by decide)); have := hL.2.1; omega
  refine ⟨_, _, rfl, by omega, by omega, hv, natB_of _ (by simp [lowD]) ?_ (allDig_lowD M (k + 1))⟩
  show ¬ some (UInt8.ofNat (48 + M / 10 ^ k % 10)) = some 48
  intro x
  injection x with x
  rw [x] at e
  have : (48 : UInt8).toNat = 48 := rfl
  omega

/-- Parse of a text. -/
theorem par_text (n : Int) (h1 : -9223372036854775808 ≤ n) (h2 : n ≤ 9223372036854775807) :
    parQ (textL n) = (if n < 0 then -valQ n.natAbs else valQ n.natAbs) ∧ parE (textL n) = valE n.natAbs := by
  by_cases h0 : n = 0
  · subst h0; exact ⟨by decide, by decide⟩
  · obtain ⟨c, t, hd, hc1, hc2, hv, hb⟩ := digs_head n.natAbs (by omega) (by omega)
    by_cases hn : n < 0
    · have e : textL n = 45 :: digs n.natAbs := by unfold textL; rw [if_pos hn]
      have hb' : body (textL n) = digs n.natAbs := by rw [e]; rfl
      have p := (par_else (textL n) (by rw [e]; simp) (by rw [e]; simp)).2.1 (by rw [hb']; exact hb) (by rw [e]; rfl)
      rw [if_pos hn, ← p.1, ← p.2, hb', hv]
      exact ⟨rfl, rfl⟩
    · have e : textL n = digs n.natAbs := by unfold textL; rw [if_neg hn]
      have hh : ¬ (textL n).head? = some 45 := by
        rw [e, hd]
        intro x
        injection x with x
        rw [x] at hc1
        exact absurd hc1 (by decide)
      have hb' : body (textL n) = digs n.natAbs := by unfold body; rw [if_neg hh, e]
      have p := (par_else (textL n) (by rw [e, hd]; simp) (by
        rw [e, hd]
        intro x
        injection x with x
        rw [x] at hc1
        exact absurd hc1 (by decide))).2.2 (by rw [hb']; exact hb) hh
      rw [if_neg hn, ← p.1, ← p.2, hb', hv]
      exact ⟨rfl, rfl⟩
theorem lenD_le (f m : Nat) : lenD f m ≤ f + 1 := by
  induction f generalizing m with
  | zero => simp [lenD]
  | succ f ih =>
    unfold lenD
    split
    · omega
    · have := ih (m / 10); omega
theorem textB_size (n : Int) : (textB n).size ≤ 21 := by
  show (textL n).toArray.size ≤ 21
  unfold textL digs
  have := lenD_le 19 n.natAbs
  split <;> simp [lowD_length] <;> omega
end Go.Proofs.Ythipgmdjjmgppaa
