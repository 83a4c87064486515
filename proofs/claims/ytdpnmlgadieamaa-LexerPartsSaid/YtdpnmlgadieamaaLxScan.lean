/-
  Plain mathematics of layer 7: the lexemes of a list of bytes, one by one and all of them.
-/
import Derived.Test.YtdpnmlgadieamaaLxMath
namespace Go.Proofs.Ytdpnmlgadieamaa.Lx

/-- What stands at the beginning: kind, text, number, how many bytes it takes (or where the error is), the error. -/
structure One where
  k : Int
  t : List UInt8
  n : Int
  u : Nat
  e : Int
def oneR : List UInt8 → One
  | [] => ⟨0, [], 0, 0, 5⟩
  | c :: r =>
    if letN c.toNat = true then (if (nmL (c :: r)).length ≤ 16 then ⟨1, nmL (c :: r), 0, (nmL (c :: r)).length, 0⟩ else ⟨0, [], 0, 0, 6⟩)
    else if digN c.toNat = true then (if parE (dgL (c :: r)) = 0 then ⟨2, dgL (c :: r), parQ (dgL (c :: r)), (dgL (c :: r)).length, 0⟩ else ⟨0, [], 0, 0, parE (dgL (c :: r))⟩)
    else if c.toNat = 34 then (if (tx [] 1 r).2.2 = true then ⟨3, (tx [] 1 r).1, 0, (tx [] 1 r).2.1, 0⟩ else ⟨0, [], 0, (tx [] 1 r).2.1, 5⟩)
    else if c.toNat = 45 ∧ gtB r = true then ⟨4, [45, 62], 0, 2, 0⟩
    else if markN c.toNat = true then ⟨4, [c], 0, 1, 0⟩
    else ⟨0, [], 0, 0, 5⟩
theorem oneR_cons (c : UInt8) (r : List UInt8) : oneR (c :: r) =
    (if letN c.toNat = true then (if (nmL (c :: r)).length ≤ 16 then ⟨1, nmL (c :: r), 0, (nmL (c :: r)).length, 0⟩ else ⟨0, [], 0, 0, 6⟩)
    else if digN c.toNat = true then (if parE (dgL (c :: r)) = 0 then ⟨2, dgL (c :: r), parQ (dgL (c :: r)), (dgL (c :: r)).length, 0⟩ else ⟨0, [], 0, 0, parE (dgL (c :: r))⟩)
    else if c.toNat = 34 then (if (tx [] 1 r).2.2 = true then ⟨3, (tx [] 1 r).1, 0, (tx [] 1 r).2.1, 0⟩ else ⟨0, [], 0, (tx [] 1 r).2.1, 5⟩)
    else if c.toNat = 45 ∧ gtB r = true then ⟨4, [45, 62], 0, 2, 0⟩
    else if markN c.toNat = true then ⟨4, [c], 0, 1, 0⟩
    else ⟨0, [], 0, 0, 5⟩) := rfl
/-- A lexeme. -/
structure Lex where
  k : Int
  t : List UInt8
  n : Int
  a : Nat
/-- The lexemes behind those that are there already. -/
def scR : Nat → List Lex → Nat → List UInt8 → List Lex × Int × Nat
  | 0, _, _, _ => ([], 0, 0)
  | _ + 1, acc, at_, [] => (acc ++ [⟨0, [], 0, at_⟩], 0, 0)
  | f + 1, acc, at_, c :: r =>
    if (oneR (c :: r)).e ≠ 0 then ([], (oneR (c :: r)).e, at_ + (oneR (c :: r)).u)
    else scR f (acc ++ [⟨(oneR (c :: r)).k, (oneR (c :: r)).t, (oneR (c :: r)).n, at_⟩])
      (at_ + (oneR (c :: r)).u + (((c :: r).drop (oneR (c :: r)).u).length - (skL false ((c :: r).drop (oneR (c :: r)).u)).length)) (skL false ((c :: r).drop (oneR (c :: r)).u))
def scanM (s : List UInt8) : List Lex × Int × Nat :=
  if 16384 < s.length then ([], 4, 16384) else scR (s.length + 1) [] (s.length - (skL false s).length) (skL false s)

/-! ### What holds of one lexeme -/
theorem letN_nm {c : Nat} (h : letN c = true) : nmN c = true := by unfold nmN; rw [h]; rfl
theorem letN_dig {c : Nat} (h : letN c = true) : digN c = false := by
  unfold letN at h
  unfold digN
  simp at h ⊢
  omega
theorem nmL_cons {c : UInt8} (h : letN c.toNat = true) (r : List UInt8) : nmL (c :: r) = c :: nmL r := by
  have hc : c.toNat ≠ 45 := fun e => by rw [e] at h; exact absurd h (by decide)
  conv => lhs; unfold nmL
  rw [if_pos ⟨letN_nm h, fun x => hc x.1⟩]
theorem dgL_cons {c : UInt8} (h : digN c.toNat = true) (r : List UInt8) : dgL (c :: r) = c :: dgL r := by
  conv => lhs; unfold dgL
  rw [if_pos h]
theorem parE_pos {l : List UInt8} (h : parE l ≠ 0) : parE l = 3 ∨ parE l = 5 ∨ parE l = 9 := by
  unfold parE at h ⊢
  unfold valE at h ⊢
  split
  · exact Or.inl rfl
  · split
    · rename_i h1 h2; rw [if_neg h1, if_pos h2] at h; exact absurd rfl h
    · split
      · exact Or.inr (Or.inl rfl)
      · split
        · rename_i h1 h2 h3 h4; rw [if_neg h1, if_neg h2, if_neg h3, if_pos h4] at h; exact absurd rfl h
        · exact Or.inr (Or.inr rfl)
/-- A lexeme takes at least one byte, and none beyond the list. -/
theorem one_used (l : List UInt8) (h : (oneR l).e = 0) : 1 ≤ (oneR l).u ∧ (oneR l).u ≤ l.length := by
  cases l with
  | nil => exact absurd h (by decide)
  | cons c r =>
    have t := tx_pos [] 1 r
    have hn := nmL_le (c :: r)
    have hd := dgL_le (c :: r)
    rw [oneR_cons] at h ⊢
    split
    · rename_i h1
      rw [if_pos h1] at h
      split
      · exact ⟨by rw [nmL_cons h1]; simp, hn⟩
      · rename_i h2; rw [if_neg h2] at h; exact absurd h (by decide)
    · rename_i h1
      rw [if_neg h1] at h
      split
      · rename_i h2
        rw [if_pos h2] at h
        split
        · exact ⟨by rw [dgL_cons h2]; simp, hd⟩
        · rename_i h3; rw [if_neg h3] at h; exact absurd h h3
      · rename_i h2
        rw [if_neg h2] at h
        split
        · rename_i h3
          rw [if_pos h3] at h
          split
          · rename_i h4
            exact ⟨Nat.le_trans (Nat.le_succ 1) (t.2.2 h4), by rw [List.length_cons]; have := t.2.1; show (tx [] 1 r).2.1 ≤ _; omega⟩
          · rename_i h4; rw [if_neg h4] at h; exact absurd (show (5 : Int) = 0 from h) (by decide)
        · rename_i h3
          rw [if_neg h3] at h
          split
          · rename_i h4
            refine ⟨by show 1 ≤ 2; decide, ?_⟩
            show 2 ≤ _
            cases r with
            | nil => exact absurd h4.2 (by decide)
            | cons d r => simp
          · rename_i h4
            rw [if_neg h4] at h
            split
            · exact ⟨Nat.le_refl _, by simp⟩
            · rename_i h5; rw [if_neg h5] at h; exact absurd h (by decide)
/-- What follows a lexeme, if it begins with a line feed or a space, changes nothing. -/
theorem one_app {z : UInt8} (hn : nmN z.toNat = false) (hd : digN z.toNat = false) (h62 : z.toNat ≠ 62) (m : List UInt8) (l : List UInt8) (h : (oneR l).e = 0) : oneR (l ++ z :: m) = oneR l := by
  cases l with
  | nil => exact absurd h (by decide)
  | cons c r =>
    have e1 := nmL_app z hn h62 m (c :: r)
    have e2 := dgL_app z hd m (c :: r)
    have e3 : gtB (r ++ z :: m) = gtB r := by
      cases r with
      | nil => exact beq_false_of_ne h62
      | cons b r => rfl
    have e4 := tx_app (z :: m) [] 1 r
    rw [List.cons_append] at e1 e2 ⊢
    rw [oneR_cons] at h
    rw [oneR_cons, oneR_cons, e1, e2, e3]
    by_cases h1 : letN c.toNat = true
    · rw [if_pos h1, if_pos h1]
    · rw [if_neg h1] at h
      rw [if_neg h1, if_neg h1]
      by_cases h2 : digN c.toNat = true
      · rw [if_pos h2, if_pos h2]
      · rw [if_neg h2] at h
        rw [if_neg h2, if_neg h2]
        by_cases h3 : c.toNat = 34
        · rw [if_pos h3] at h
          by_cases h4 : (tx [] 1 r).2.2 = true
          · rw [if_pos h3, if_pos h3, e4 h4]
          · rw [if_neg h4] at h
            exact absurd (show (5 : Int) = 0 from h) (by decide)
        · rw [if_neg h3, if_neg h3]
end Go.Proofs.Ytdpnmlgadieamaa.Lx
