/-
  Plain mathematics of layer 5: heads, what is read of bytes, and that reading undoes writing.
-/
import Derived.Lib.Strings
namespace Go.Proofs.YtandcacobahmbaaDoor.Cb

/-- The last n bytes of a number, the most significant one first. -/
def beL : Nat → Nat → List UInt8
  | _, 0 => []
  | v, n + 1 => beL (v / 256) n ++ [UInt8.ofNat (v % 256)]
def valB (l : List UInt8) : Nat := l.foldl (fun v c => 256 * v + c.toNat) 0
theorem valB_snoc (l : List UInt8) (c : UInt8) : valB (l ++ [c]) = 256 * valB l + c.toNat := by unfold valB; rw [List.foldl_append]; rfl
theorem beL_length : ∀ n v, (beL v n).length = n
  | 0, _ => rfl
  | n + 1, v => by rw [beL, List.length_append, beL_length n]; rfl
theorem valB_beL : ∀ n v, v < 256 ^ n → valB (beL v n) = v
  | 0, v, h => by rw [Nat.pow_zero] at h; obtain rfl : v = 0 := by omega
                  rfl
  | n + 1, v, h => by
    rw [beL, valB_snoc, valB_beL n _ (by rw [Nat.pow_succ] at h; omega), UInt8.toNat_ofNat_of_lt' (by show v % 256 < 256; omega)]
    omega
theorem valB_lt (l : List UInt8) : valB l < 256 ^ l.length := by
  obtain ⟨n, hn⟩ : ∃ n, l.length = n := ⟨_, rfl⟩
  rw [hn]
  induction n generalizing l with
  | zero => obtain rfl : l = [] := List.eq_nil_of_length_eq_zero hn
            exact Nat.one_pos
  | succ n ih =>
    rcases List.eq_nil_or_concat l with rfl | ⟨l', c, rfl⟩
    · simp at hn
    · rw [List.concat_eq_append, List.length_append] at hn
      have := ih l' (by simpa using hn)
      rw [List.concat_eq_append, valB_snoc, Nat.pow_succ]
      have := c.toNat_lt
      omega
/-- How many bytes follow the first one of a head. -/
def nOf (v : Nat) : Nat := if v < 24 then 0 else if v ≤ 255 then 1 else if v ≤ 65535 then 2 else if v ≤ 4294967295 then 4 else 8
/-- The lower five bits of the first byte. -/
def lowOf (v : Nat) : Nat := if v < 24 then v else if v ≤ 255 then 24 else if v ≤ 65535 then 25 else if v ≤ 4294967295 then 26 else 27
def headL (k v : Nat) : List UInt8 := UInt8.ofNat (32 * k + lowOf v) :: beL v (nOf v)
theorem lowOf_le (v : Nat) : lowOf v ≤ 27 := by unfold lowOf; repeat' split
                                                all_goals omega
theorem nOf_le (v : Nat) : nOf v ≤ 8 := by
  unfold nOf
  repeat' split
  all_goals omega
theorem headL_length (k v : Nat) : (headL k v).length = 1 + nOf v := by unfold headL; rw [List.length_cons, beL_length]; omega
theorem nOf_low (v : Nat) (h : 24 ≤ v) : 24 ≤ lowOf v ∧ 2 ^ (lowOf v - 24) = nOf v := by
  unfold lowOf nOf
  by_cases h1 : v ≤ 255
  · simp [h1, show ¬ v < 24 by omega]
  · by_cases h2 : v ≤ 65535
    · simp [h1, h2, show ¬ v < 24 by omega]
    · by_cases h3 : v ≤ 4294967295
      · simp [h1, h2, h3, show ¬ v < 24 by omega]
      · simp [h1, h2, h3, show ¬ v < 24 by omega]
theorem nOf_small (v : Nat) (h : v < 24) : lowOf v = v ∧ nOf v = 0 := by unfold lowOf nOf; rw [if_pos h, if_pos h]; exact ⟨rfl, rfl⟩
theorem nOf_pow (v : Nat) (h : 24 ≤ v) (h64 : v < 18446744073709551616) : v < 256 ^ nOf v := by
  unfold nOf
  rw [if_neg (by omega)]
  split
  · omega
  · split
    · omega
    · split
      · omega
      · omega
/-- The kind, the argument and the length of the head that a list begins with, if it is of one of two kinds; or the error. -/
def argF (one two : Nat) : List UInt8 → Nat × Nat × Nat × Int
  | [] => (0, 0, 0, 3)
  | c :: r =>
    if (c.toNat / 32 ≠ one ∧ c.toNat / 32 ≠ two) ∨ 27 < c.toNat % 32 then (0, 0, 0, 5)
    else if c.toNat % 32 < 24 then (c.toNat / 32, c.toNat % 32, 1, 0)
    else if r.length < 2 ^ (c.toNat % 32 - 24) then (0, 0, 0, 3)
    else if headL (c.toNat / 32) (valB (r.take (2 ^ (c.toNat % 32 - 24)))) ≠ c :: r.take (2 ^ (c.toNat % 32 - 24)) then (0, 0, 0, 5)
    else (c.toNat / 32, valB (r.take (2 ^ (c.toNat % 32 - 24))), 1 + 2 ^ (c.toNat % 32 - 24), 0)
theorem first_toNat {k v : Nat} (hk : k ≤ 7) : (UInt8.ofNat (32 * k + lowOf v)).toNat = 32 * k + lowOf v := by
  have := lowOf_le v
  exact UInt8.toNat_ofNat_of_lt' (by show _ < 256; omega)
theorem arg_head {one two k v : Nat} (hk : k = one ∨ k = two) (hk7 : k ≤ 7) (hv : v < 18446744073709551616) (rest : List UInt8) : argF one two (headL k v ++ rest) = (k, v, (headL k v).length, 0) := by
  have hl := lowOf_le v
  have ft := first_toNat (v := v) hk7
  unfold headL
  rw [List.cons_append, argF, ft, show (32 * k + lowOf v) / 32 = k by omega, show (32 * k + lowOf v) % 32 = lowOf v by omega]
  rw [if_neg (by omega)]
  by_cases h24 : v < 24
  · obtain ⟨e1, e2⟩ := nOf_small v h24
    rw [e1, e2, if_pos h24]; rfl
  · obtain ⟨e1, e2⟩ := nOf_low v (by omega)
    have hp := nOf_pow v (by omega) hv
    rw [if_neg (by omega), e2, if_neg (by rw [List.length_append, beL_length]; omega)]
    have ht : (beL v (nOf v) ++ rest).take (nOf v) = beL v (nOf v) := by
      rw [List.take_append_of_le_length (by rw [beL_length]; exact Nat.le_refl _), List.take_of_length_le (by rw [beL_length]; exact Nat.le_refl _)]
    rw [ht, valB_beL _ _ hp, if_neg (by simp [headL])]
    simp [beL_length, Nat.add_comm]
theorem arg_ok {one two : Nat} {l : List UInt8} {k v n : Nat} (h : argF one two l = (k, v, n, 0)) :
    (k = one ∨ k = two) ∧ n = (headL k v).length ∧ l.take n = headL k v ∧ n ≤ l.length ∧ v < 18446744073709551616 := by
  cases l with
  | nil => simp [argF] at h
  | cons c r =>
    rw [argF] at h
    have hc := c.toNat_lt
    split at h
    · simp at h
    · rename_i hk
      split at h
      · rename_i h24
        simp only [Prod.mk.injEq] at h
        obtain ⟨rfl, rfl, rfl, _⟩ := h
        obtain ⟨e1, e2⟩ := nOf_small _ h24
        have ec : headL (c.toNat / 32) (c.toNat % 32) = [c] := by
          unfold headL
          rw [e1, e2, show 32 * (c.toNat / 32) + c.toNat % 32 = c.toNat by omega, UInt8.ofNat_toNat]; rfl
        rw [ec]
        exact ⟨by omega, rfl, rfl, by simp, by omega⟩
      · split at h
        · simp at h
        · rename_i hr
          split at h
          · simp at h
          · rename_i hh
            simp only [Prod.mk.injEq] at h
            obtain ⟨rfl, rfl, rfl, _⟩ := h
            have hh : headL (c.toNat / 32) (valB (r.take (2 ^ (c.toNat % 32 - 24)))) = c :: r.take (2 ^ (c.toNat % 32 - 24)) := Decidable.not_not.1 hh
            rw [hh]
            have hlen : (r.take (2 ^ (c.toNat % 32 - 24))).length = 2 ^ (c.toNat % 32 - 24) := by rw [List.length_take]; omega
            have hb := valB_lt (r.take (2 ^ (c.toNat % 32 - 24)))
            rw [hlen] at hb
            have hle : 2 ^ (c.toNat % 32 - 24) ≤ 2 ^ 3 := Nat.pow_le_pow_right (by decide) (by omega)
            have hpw : 256 ^ (2 ^ (c.toNat % 32 - 24)) ≤ 256 ^ (2 ^ 3) := Nat.pow_le_pow_right (by decide) hle
            refine ⟨by omega, by rw [List.length_cons, hlen]; omega, by rw [Nat.add_comm, List.take_succ_cons], by rw [List.length_cons]; omega, Nat.lt_of_lt_of_le hb hpw⟩
theorem arg_cut {one two k v : Nat} (hk : k = one ∨ k = two) (hk7 : k ≤ 7) {m : Nat} (hm : m < (headL k v).length) : argF one two ((headL k v).take m) = (0, 0, 0, 3) := by
  cases m with
  | zero => rfl
  | succ m =>
    have hl := lowOf_le v
    have ft := first_toNat (v := v) hk7
    rw [headL_length] at hm
    unfold headL
    rw [List.take_succ_cons, argF, ft, show (32 * k + lowOf v) / 32 = k by omega, show (32 * k + lowOf v) % 32 = lowOf v by omega, if_neg (by omega)]
    by_cases h24 : v < 24
    · have := (nOf_small v h24).2
      omega
    · obtain ⟨e1, e2⟩ := nOf_low v (by omega)
      rw [if_neg (by omega), e2, if_pos (by rw [List.length_take, beL_length]; omega)]

/-! ### What the encodings are -/
def intE (n : Int) : List UInt8 := if n < 0 then headL 1 (-1 - n).toNat else headL 0 n.toNat
def textE (t : List UInt8) : List UInt8 := headL 2 t.length ++ t
def boolE (b : Bool) : List UInt8 := if b then [245] else [244]
def listE (n : Int) : List UInt8 := if n < 0 then [] else headL 4 n.toNat

/-! ### What is read: the value, how far the reader moves, the error -/
def intF (low high : Int) (l : List UInt8) : Int × Nat × Int :=
  if (argF 0 1 l).2.2.2 ≠ 0 then (0, 0, (argF 0 1 l).2.2.2)
  else if 9223372036854775808 ≤ (argF 0 1 l).2.1 then (0, 0, 5)
  else if (if (argF 0 1 l).1 = 1 then -1 - ((argF 0 1 l).2.1 : Int) else ((argF 0 1 l).2.1 : Int)) < low ∨ high < (if (argF 0 1 l).1 = 1 then -1 - ((argF 0 1 l).2.1 : Int) else ((argF 0 1 l).2.1 : Int)) then (0, 0, 9)
  else (if (argF 0 1 l).1 = 1 then -1 - ((argF 0 1 l).2.1 : Int) else ((argF 0 1 l).2.1 : Int), (argF 0 1 l).2.2.1, 0)
def textF (most : Int) (l : List UInt8) : List UInt8 × Nat × Int :=
  if (argF 2 2 l).2.2.2 ≠ 0 then ([], 0, (argF 2 2 l).2.2.2)
  else if most < ((argF 2 2 l).2.1 : Int) then ([], 0, 4)
  else if l.length - (argF 2 2 l).2.2.1 < (argF 2 2 l).2.1 then ([], 0, 3)
  else ((l.drop (argF 2 2 l).2.2.1).take (argF 2 2 l).2.1, (argF 2 2 l).2.2.1 + (argF 2 2 l).2.1, 0)
def boolF : List UInt8 → Bool × Nat × Int
  | [] => (false, 0, 3)
  | c :: _ => if c.toNat ≠ 244 ∧ c.toNat ≠ 245 then (false, 0, 5) else (c.toNat == 245, 1, 0)
def listF (most : Int) (l : List UInt8) : Int × Nat × Int :=
  if (argF 4 4 l).2.2.2 ≠ 0 then (0, 0, (argF 4 4 l).2.2.2)
  else if most < ((argF 4 4 l).2.1 : Int) then (0, 0, 4)
  else ((argF 4 4 l).2.1, (argF 4 4 l).2.2.1, 0)

theorem int_back {n low high : Int} (h1 : -9223372036854775808 ≤ n) (h2 : n ≤ 9223372036854775807) (hl : low ≤ n) (hh : n ≤ high) (rest : List UInt8) : intF low high (intE n ++ rest) = (n, (intE n).length, 0) := by
  unfold intF intE
  by_cases h : n < 0
  · rw [if_pos h, arg_head (Or.inr rfl) (by decide) (by omega)]
    simp only [ne_eq, not_true_eq_false, if_false, if_true]
    have e : -1 - ((-1 - n).toNat : Int) = n := by omega
    rw [e, if_neg (by omega), if_neg (by omega)]
  · rw [if_neg h, arg_head (Or.inl rfl) (by decide) (by omega)]
    simp only [ne_eq, not_true_eq_false, if_false, Nat.zero_ne_one]
    have e : (n.toNat : Int) = n := by omega
    rw [e, if_neg (by omega), if_neg (by omega)]
theorem text_back {t : List UInt8} {most : Int} (h : t.length < 18446744073709551616) (hm : (t.length : Int) ≤ most) (rest : List UInt8) : textF most (textE t ++ rest) = (t, (textE t).length, 0) := by
  unfold textF textE
  rw [List.append_assoc, arg_head (Or.inl rfl) (by decide) h]
  simp only [ne_eq, not_true_eq_false, if_false]
  rw [if_neg (by omega), if_neg (by rw [List.length_append, List.length_append]; omega), List.drop_append_of_le_length (Nat.le_refl _), List.drop_length, List.nil_append, List.take_append_of_le_length (Nat.le_refl _), List.take_length, List.length_append]
theorem bool_back (b : Bool) (rest : List UInt8) : boolF (boolE b ++ rest) = (b, (boolE b).length, 0) := by cases b <;> rfl
theorem list_back {n most : Int} (h0 : 0 ≤ n) (h2 : n ≤ 9223372036854775807) (hm : n ≤ most) (rest : List UInt8) : listF most (listE n ++ rest) = (n, (listE n).length, 0) := by
  unfold listF listE
  rw [if_neg (show ¬ n < 0 by omega), arg_head (Or.inl rfl) (by decide) (by omega)]
  simp only [ne_eq, not_true_eq_false, if_false]
  have e : (n.toNat : Int) = n := by omega
  rw [e, if_neg (by omega)]

/-! ### What was read has exactly the bytes of its encoding; after an error nothing moves; beginnings -/
theorem arg_err {one two : Nat} {l : List UInt8} (h : (argF one two l).2.2.2 ≠ 0) : argF one two l = (0, 0, 0, (argF one two l).2.2.2) := by
  cases l with
  | nil => rfl
  | cons c r =>
    rw [argF] at h ⊢
    split at h
    · rename_i x; rw [if_pos x]
    · rename_i x
      rw [if_neg x]
      split at h
      · exact absurd rfl h
      · rename_i y
        rw [if_neg y]
        split at h
        · rename_i z; rw [if_pos z]
        · rename_i z
          rw [if_neg z]
          split at h
          · rename_i u; rw [if_pos u]
          · exact absurd rfl h
theorem arg_parts {one two : Nat} {l : List UInt8} (h : ¬ (argF one two l).2.2.2 ≠ 0) : ∃ k v n, argF one two l = (k, v, n, 0) := by
  obtain ⟨k, v, n, e⟩ : ∃ k v n, argF one two l = (k, v, n, (argF one two l).2.2.2) := ⟨_, _, _, rfl⟩
  have h0 : (argF one two l).2.2.2 = 0 := Decidable.not_not.1 h
  rw [h0] at e
  exact ⟨k, v, n, e⟩
theorem int_once {low high x : Int} {l : List UInt8} {n : Nat} (h : intF low high l = (x, n, 0)) : l.take n = intE x ∧ n = (intE x).length ∧ n ≤ l.length ∧ low ≤ x ∧ x ≤ high ∧ -9223372036854775808 ≤ x ∧ x ≤ 9223372036854775807 := by
  unfold intF at h
  split at h
  · rename_i e; simp only [Prod.mk.injEq] at h; exact absurd h.2.2 e
  · rename_i e
    obtain ⟨k, v, m, ha⟩ := arg_parts e
    rw [ha] at h
    obtain ⟨hk, hn, ht, hl, hv⟩ := arg_ok ha
    split at h
    · simp at h
    · rename_i h63
      change ¬ 9223372036854775808 ≤ v at h63
      rcases hk with rfl | rfl
      · simp only [Nat.zero_ne_one, if_false] at h
        split at h
        · simp at h
        · rename_i hr
          simp only [Prod.mk.injEq] at h
          obtain ⟨rfl, rfl, _⟩ := h
          have e : intE (v : Int) = headL 0 v := by unfold intE; rw [if_neg (by omega)]; rfl
          rw [e]
          exact ⟨ht, hn, hl, by omega, by omega, by omega, by omega⟩
      · simp only [if_true] at h
        split at h
        · simp at h
        · rename_i hr
          simp only [Prod.mk.injEq] at h
          obtain ⟨rfl, rfl, _⟩ := h
          have e : intE (-1 - (v : Int)) = headL 1 v := by
            unfold intE
            rw [if_pos (by omega), show (-1 - (-1 - (v : Int))).toNat = v by omega]
          rw [e]
          exact ⟨ht, hn, hl, by omega, by omega, by omega, by omega⟩
theorem int_err {low high : Int} {l : List UInt8} (h : (intF low high l).2.2 ≠ 0) : (intF low high l).1 = 0 ∧ (intF low high l).2.1 = 0 := by
  unfold intF at h ⊢
  generalize (if (argF 0 1 l).1 = 1 then -1 - ((argF 0 1 l).2.1 : Int) else ((argF 0 1 l).2.1 : Int)) = X at h ⊢
  split at h
  · rename_i e; rw [if_pos e]; exact ⟨rfl, rfl⟩
  · rename_i e
    rw [if_neg e]
    split at h
    · rename_i e; rw [if_pos e]; exact ⟨rfl, rfl⟩
    · rename_i e
      rw [if_neg e]
      split at h
      · rename_i e; rw [if_pos e]; exact ⟨rfl, rfl⟩
      · exact absurd rfl h
theorem text_once {most : Int} {l t : List UInt8} {n : Nat} (h : textF most l = (t, n, 0)) : l.take n = textE t ∧ n = (textE t).length ∧ n ≤ l.length ∧ (t.length : Int) ≤ most := by
  unfold textF at h
  split at h
  · rename_i e; simp only [Prod.mk.injEq] at h; exact absurd h.2.2 e
  · rename_i e
    obtain ⟨k, v, m, ha⟩ := arg_parts e
    rw [ha] at h
    obtain ⟨hk, hn, ht, hl, hv⟩ := arg_ok ha
    obtain rfl : k = 2 := by omega
    split at h
    · simp at h
    · rename_i hm
      split at h
      · simp at h
      · rename_i hs
        simp only [Prod.mk.injEq] at h
        obtain ⟨rfl, rfl, _⟩ := h
        change ¬ most < (v : Int) at hm
        change ¬ l.length - m < v at hs
        have hlen : ((l.drop m).take v).length = v := by rw [List.length_take, List.length_drop]; omega
        show l.take (m + v) = textE ((l.drop m).take v) ∧ m + v = _ ∧ m + v ≤ l.length ∧ _
        unfold textE
        rw [hlen, ← ht]
        refine ⟨?_, ?_, by omega, by omega⟩
        · rw [List.take_add]
        · rw [List.length_append, hlen, List.length_take]; omega
theorem text_err {most : Int} {l : List UInt8} (h : (textF most l).2.2 ≠ 0) : (textF most l).1 = [] ∧ (textF most l).2.1 = 0 := by
  unfold textF at h ⊢
  split at h
  · rename_i e; rw [if_pos e]; exact ⟨rfl, rfl⟩
  · rename_i e
    rw [if_neg e]
    split at h
    · rename_i e; rw [if_pos e]; exact ⟨rfl, rfl⟩
    · rename_i e
      rw [if_neg e]
      split at h
      · rename_i e; rw [if_pos e]; exact ⟨rfl, rfl⟩
      · exact absurd rfl h
theorem bool_once {l : List UInt8} {b : Bool} {n : Nat} (h : boolF l = (b, n, 0)) : l.take n = boolE b ∧ n = (boolE b).length ∧ n ≤ l.length := by
  cases l with
  | nil => simp [boolF] at h
  | cons c r =>
    rw [boolF] at h
    split at h
    · simp at h
    · rename_i hc
      simp only [Prod.mk.injEq] at h
      obtain ⟨rfl, rfl, _⟩ := h
      by_cases e : c.toNat = 245
      · have : c = 245 := UInt8.toNat_inj.1 e
        subst this
        exact ⟨rfl, rfl, by simp⟩
      · have e4 : c.toNat = 244 := by omega
        have : c = 244 := UInt8.toNat_inj.1 e4
        subst this
        exact ⟨rfl, rfl, by simp⟩
theorem bool_err {l : List UInt8} (h : (boolF l).2.2 ≠ 0) : (boolF l).1 = false ∧ (boolF l).2.1 = 0 := by
  cases l with
  | nil => exact ⟨rfl, rfl⟩
  | cons c r =>
    rw [boolF] at h ⊢
    split at h
    · rename_i e; rw [if_pos e]; exact ⟨rfl, rfl⟩
    · exact absurd rfl h
theorem list_once {most x : Int} {l : List UInt8} {n : Nat} (h : listF most l = (x, n, 0)) : l.take n = listE x ∧ n = (listE x).length ∧ n ≤ l.length ∧ 0 ≤ x ∧ x ≤ most := by
  unfold listF at h
  split at h
  · rename_i e; simp only [Prod.mk.injEq] at h; exact absurd h.2.2 e
  · rename_i e
    obtain ⟨k, v, m, ha⟩ := arg_parts e
    rw [ha] at h
    obtain ⟨hk, hn, ht, hl, hv⟩ := arg_ok ha
    obtain rfl : k = 4 := by omega
    split at h
    · simp at h
    · rename_i hm
      simp only [Prod.mk.injEq] at h
      obtain ⟨rfl, rfl, _⟩ := h
      change ¬ most < (v : Int) at hm
      have e : listE (v : Int) = headL 4 v := by unfold listE; rw [if_neg (by omega)]; rfl
      rw [e]
      exact ⟨ht, hn, hl, by omega, by omega⟩
theorem list_err {most : Int} {l : List UInt8} (h : (listF most l).2.2 ≠ 0) : (listF most l).1 = 0 ∧ (listF most l).2.1 = 0 := by
  unfold listF at h ⊢
  split at h
  · rename_i e; rw [if_pos e]; exact ⟨rfl, rfl⟩
  · rename_i e
    rw [if_neg e]
    split at h
    · rename_i e; rw [if_pos e]; exact ⟨rfl, rfl⟩
    · exact absurd rfl h
theorem intE_pos (n : Int) : 0 < (intE n).length := by unfold intE; split <;> (rw [headL_length]; omega)
theorem int_cut {n low high : Int} {m : Nat} (hm : m < (intE n).length) : intF low high ((intE n).take m) = (0, 0, 3) := by
  unfold intF
  have e : argF 0 1 ((intE n).take m) = (0, 0, 0, 3) := by
    unfold intE at hm ⊢
    split at hm
    · rename_i h; rw [if_pos h]; exact arg_cut (Or.inr rfl) (by decide) hm
    · rename_i h; rw [if_neg h]; exact arg_cut (Or.inl rfl) (by decide) hm
  rw [e]; rfl
theorem list_cut {n most : Int} (h0 : 0 ≤ n) {m : Nat} (hm : m < (listE n).length) : listF most ((listE n).take m) = (0, 0, 3) := by
  unfold listF
  have e : argF 4 4 ((listE n).take m) = (0, 0, 0, 3) := by
    unfold listE at hm ⊢
    rw [if_neg (by omega)] at hm ⊢
    exact arg_cut (Or.inl rfl) (by decide) hm
  rw [e]; rfl
theorem int_nil (low high : Int) : intF low high [] = (0, 0, 3) := rfl
theorem int_k0 {low high : Int} {l : List UInt8} {v n : Nat} (ha : argF 0 1 l = (0, v, n, 0)) (h63 : ¬ 9223372036854775808 ≤ v) : intF low high l = if (v : Int) < low ∨ high < (v : Int) then (0, 0, 9) else ((v : Int), n, 0) := by
  unfold intF
  rw [ha, if_neg (by simp), if_neg h63]; rfl
theorem int_k1 {low high : Int} {l : List UInt8} {v n : Nat} (ha : argF 0 1 l = (1, v, n, 0)) (h63 : ¬ 9223372036854775808 ≤ v) : intF low high l = if -1 - (v : Int) < low ∨ high < -1 - (v : Int) then (0, 0, 9) else (-1 - (v : Int), n, 0) := by
  unfold intF
  rw [ha, if_neg (by simp), if_neg h63]; rfl
end Go.Proofs.YtandcacobahmbaaDoor.Cb
