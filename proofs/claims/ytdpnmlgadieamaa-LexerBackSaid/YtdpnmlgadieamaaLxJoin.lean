/-
  Plain mathematics of layer 7: two texts with a line feed between them; what Print writes is read again; offsets.
-/
import Derived.Test.YtdpnmlgadieamaaLxScan
namespace Go.Proofs.Ytdpnmlgadieamaa.Lx

theorem scR_nil (f : Nat) (acc : List Lex) (a : Nat) : scR (f + 1) acc a [] = (acc ++ [⟨0, [], 0, a⟩], 0, 0) := rfl
theorem scR_bad (f : Nat) (acc : List Lex) (a : Nat) {l : List UInt8} (h0 : l ≠ []) (h : (oneR l).e ≠ 0) : scR (f + 1) acc a l = ([], (oneR l).e, a + (oneR l).u) := by
  cases l with
  | nil => exact absurd rfl h0
  | cons c r => rw [scR, if_pos h]
/-- Where the next lexeme begins. -/
def nxA (a : Nat) (l : List UInt8) : Nat := a + (oneR l).u + ((l.drop (oneR l).u).length - (skL false (l.drop (oneR l).u)).length)
def nxL (l : List UInt8) : List UInt8 := skL false (l.drop (oneR l).u)
def nxX (a : Nat) (l : List UInt8) : Lex := ⟨(oneR l).k, (oneR l).t, (oneR l).n, a⟩
theorem scR_good (f : Nat) (acc : List Lex) (a : Nat) {l : List UInt8} (h0 : l ≠ []) (h : (oneR l).e = 0) : scR (f + 1) acc a l = scR f (acc ++ [nxX a l]) (nxA a l) (nxL l) := by
  cases l with
  | nil => exact absurd rfl h0
  | cons c r => rw [scR, if_neg (fun x => x h)]; rfl
theorem nxL_lt {l : List UInt8} (h : (oneR l).e = 0) : (nxL l).length < l.length := by
  have h1 := one_used l h
  have h2 := skL_le false (l.drop (oneR l).u)
  unfold nxL
  rw [List.length_drop] at h2
  omega
theorem nxA_eq (a : Nat) {l : List UInt8} (h : (oneR l).e = 0) : nxA a l + (nxL l).length = a + l.length := by
  have h1 := one_used l h
  have h2 := skL_le false (l.drop (oneR l).u)
  unfold nxA nxL
  rw [List.length_drop] at h2 ⊢
  omega
theorem nxA_lt (a : Nat) {l : List UInt8} (h : (oneR l).e = 0) : a + 1 ≤ nxA a l := by
  have h1 := one_used l h
  unfold nxA
  omega
/-- The fuel does not matter. -/
theorem scR_fuel : ∀ (f g : Nat) (acc : List Lex) (a : Nat) (l : List UInt8), l.length < f → l.length < g → scR f acc a l = scR g acc a l
  | 0, _, _, _, _, h, _ => absurd h (Nat.not_lt_zero _)
  | _, 0, _, _, _, _, h => absurd h (Nat.not_lt_zero _)
  | f + 1, g + 1, acc, a, l, h1, h2 => by
    by_cases h0 : l = []
    · subst h0; rfl
    · by_cases he : (oneR l).e = 0
      · have := nxL_lt he
        rw [scR_good _ _ _ h0 he, scR_good _ _ _ h0 he]
        exact scR_fuel f g _ _ _ (by omega) (by omega)
      · rw [scR_bad _ _ _ h0 he, scR_bad _ _ _ h0 he]
/-- What was there before stands before. -/
theorem scR_acc : ∀ (f : Nat) (acc : List Lex) (a : Nat) (l : List UInt8), l.length < f →
    ((scR f [] a l).2.1 = 0 → scR f acc a l = (acc ++ (scR f [] a l).1, 0, 0)) ∧ ((scR f [] a l).2.1 ≠ 0 → scR f acc a l = scR f [] a l)
  | 0, _, _, _, h => absurd h (Nat.not_lt_zero _)
  | f + 1, acc, a, l, h1 => by
    by_cases h0 : l = []
    · subst h0; exact ⟨fun _ => rfl, fun h => absurd rfl h⟩
    · by_cases he : (oneR l).e = 0
      · have := nxL_lt he
        rw [scR_good _ _ _ h0 he, scR_good _ _ _ h0 he]
        have i1 := scR_acc f (acc ++ [nxX a l]) (nxA a l) (nxL l) (by omega)
        have i2 := scR_acc f ([] ++ [nxX a l]) (nxA a l) (nxL l) (by omega)
        refine ⟨fun h => ?_, fun h => ?_⟩
        · by_cases h2 : (scR f [] (nxA a l) (nxL l)).2.1 = 0
          · rw [i1.1 h2, i2.1 h2]; simp
          · rw [i2.2 h2] at h; exact absurd h h2
        · by_cases h2 : (scR f [] (nxA a l) (nxL l)).2.1 = 0
          · rw [i2.1 h2] at h; exact absurd rfl h
          · rw [i1.2 h2, i2.2 h2]
      · rw [scR_bad _ _ _ h0 he, scR_bad _ _ _ h0 he]
        exact ⟨fun h => absurd h he, fun _ => rfl⟩
/-- A good end has place 0, and ends with the end. -/
theorem scR_end : ∀ (f : Nat) (acc : List Lex) (a : Nat) (l : List UInt8), l.length < f → (scR f acc a l).2.1 = 0 → (scR f acc a l).2.2 = 0 ∧ ∃ xs, (scR f acc a l).1 = acc ++ xs ++ [⟨0, [], 0, a + l.length⟩]
  | 0, _, _, _, h, _ => absurd h (Nat.not_lt_zero _)
  | f + 1, acc, a, l, h1, h => by
    by_cases h0 : l = []
    · subst h0; exact ⟨rfl, [], by rw [scR_nil, List.append_nil]; rfl⟩
    · by_cases he : (oneR l).e = 0
      · have := nxL_lt he
        rw [scR_good _ _ _ h0 he] at h ⊢
        obtain ⟨e1, xs, e2⟩ := scR_end f _ _ _ (by omega) h
        refine ⟨e1, nxX a l :: xs, ?_⟩
        rw [e2, nxA_eq a he]; simp
      · rw [scR_bad _ _ _ h0 he] at h; exact absurd h he

/-! ### Two texts -/
/-- Moved by d. -/
def mv (d : Nat) (x : Lex) : Lex := ⟨x.k, x.t, x.n, x.a + d⟩
theorem scR_move (d : Nat) : ∀ (f : Nat) (acc : List Lex) (a : Nat) (l : List UInt8), l.length < f → (scR f acc a l).2.1 = 0 → scR f (acc.map (mv d)) (a + d) l = ((scR f acc a l).1.map (mv d), 0, 0)
  | 0, _, _, _, h, _ => absurd h (Nat.not_lt_zero _)
  | f + 1, acc, a, l, h1, h => by
    by_cases h0 : l = []
    · subst h0; rw [scR_nil, scR_nil, List.map_append]; rfl
    · by_cases he : (oneR l).e = 0
      · have := nxL_lt he
        rw [scR_good _ _ _ h0 he] at h
        rw [scR_good _ _ _ h0 he, scR_good _ _ _ h0 he, ← scR_move d f _ _ _ (by omega) h, List.map_append]
        have e : nxA (a + d) l = nxA a l + d := by unfold nxA; omega
        rw [e]; rfl
      · rw [scR_bad _ _ _ h0 he] at h; exact absurd h he
/-- Behind the lexemes of the first text come those of the second one. -/
theorem scR_join (B : List UInt8) : ∀ (n : Nat) (acc : List Lex) (a : Nat) (l : List UInt8) (f g : Nat), l.length ≤ n → l.length < f → l.length + B.length + 1 < g → (scR f acc a l).2.1 = 0 →
    ∃ xs g', (scR f acc a l).1 = xs ++ [⟨0, [], 0, a + l.length⟩] ∧ (skL false B).length < g' ∧
      scR g acc (if l = [] then a + 1 + (B.length - (skL false B).length) else a) (if l = [] then skL false B else l ++ 10 :: B) = scR g' xs (a + l.length + 1 + (B.length - (skL false B).length)) (skL false B) := by
  have hB := skL_le false B
  intro n
  induction n with
  | zero =>
    intro acc a l f g hn hf hg h
    obtain rfl : l = [] := List.eq_nil_of_length_eq_zero (by omega)
    obtain ⟨f, rfl⟩ : ∃ k, f = k + 1 := ⟨f - 1, by simp at hf; omega⟩
    refine ⟨acc, g, rfl, by omega, ?_⟩
    rw [if_pos rfl, if_pos rfl]; rfl
  | succ n ih =>
    intro acc a l f g hn hf hg h
    by_cases h0 : l = []
    · subst h0
      obtain ⟨f, rfl⟩ : ∃ k, f = k + 1 := ⟨f - 1, by simp at hf; omega⟩
      refine ⟨acc, g, rfl, by simp at hg; omega, ?_⟩
      rw [if_pos rfl, if_pos rfl]; rfl
    · obtain ⟨f, rfl⟩ : ∃ k, f = k + 1 := ⟨f - 1, by omega⟩
      obtain ⟨g, rfl⟩ : ∃ k, g = k + 1 := ⟨g - 1, by omega⟩
      by_cases he : (oneR l).e = 0
      · have hu := one_used l he
        have hl := nxL_lt he
        rw [scR_good _ _ _ h0 he] at h ⊢
        obtain ⟨xs, g', e1, e2, e3⟩ := ih (acc ++ [nxX a l]) (nxA a l) (nxL l) f g (by omega) (by omega) (by omega) h
        refine ⟨xs, g', by rw [e1, nxA_eq a he], e2, ?_⟩
        have ho := one_app (z := 10) (by decide) (by decide) (by decide) B l he
        have hd : (l ++ 10 :: B).drop (oneR l).u = l.drop (oneR l).u ++ 10 :: B := List.drop_append_of_le_length hu.2
        rw [nxA_eq a he] at e3
        rw [if_neg h0, if_neg h0, ← e3, scR_good _ _ _ (by simp) (by rw [ho]; exact he)]
        have x1 : nxX a (l ++ 10 :: B) = nxX a l := by unfold nxX; rw [ho]
        have x2 : nxL (l ++ 10 :: B) = if nxL l = [] then skL false B else nxL l ++ 10 :: B := by
          unfold nxL; rw [ho, hd, skL_app]
        have x3 : nxA a (l ++ 10 :: B) = if nxL l = [] then nxA a l + 1 + (B.length - (skL false B).length) else nxA a l := by
          have hx : nxA a (l ++ 10 :: B) = a + (oneR l).u + ((l.drop (oneR l).u ++ 10 :: B).length - (nxL (l ++ 10 :: B)).length) := by unfold nxA nxL; rw [ho, hd]
          have hs := skL_le false (l.drop (oneR l).u)
          rw [hx, x2]
          unfold nxA
          by_cases hz : nxL l = []
          · rw [if_pos hz, if_pos hz]
            have : (skL false (l.drop (oneR l).u)).length = 0 := by show (nxL l).length = 0; rw [hz]; rfl
            rw [this, List.length_append, List.length_cons]; omega
          · rw [if_neg hz, if_neg hz, List.length_append, List.length_append]
            show _ + ((l.drop (oneR l).u).length + (10 :: B).length - ((skL false (l.drop (oneR l).u)).length + (10 :: B).length)) = _
            omega
        rw [x1, x2, x3]
      · rw [scR_bad _ _ _ h0 he] at h; exact absurd h he
/-- P7.6. -/
theorem scan_join {a b : List UInt8} (ha : (scanM a).2.1 = 0) (hb : (scanM b).2.1 = 0) (h : a.length + b.length < 16384) :
    ∃ xs, (scanM a).1 = xs ++ [⟨0, [], 0, a.length⟩] ∧ scanM (a ++ 10 :: b) = (xs ++ (scanM b).1.map (mv (a.length + 1)), 0, 0) := by
  have e1 : scanM a = scR (a.length + 1) [] (a.length - (skL false a).length) (skL false a) := if_neg (by omega)
  have e2 : scanM b = scR (b.length + 1) [] (b.length - (skL false b).length) (skL false b) := if_neg (by omega)
  have e3 : scanM (a ++ 10 :: b) = scR ((a ++ 10 :: b).length + 1) [] ((a ++ 10 :: b).length - (skL false (a ++ 10 :: b)).length) (skL false (a ++ 10 :: b)) := if_neg (by rw [List.length_append, List.length_cons]; omega)
  have l1 := skL_le false a
  have l2 := skL_le false b
  rw [e1] at ha ⊢
  rw [e2] at hb ⊢
  obtain ⟨xs, g', x1, x2, x3⟩ := scR_join b (skL false a).length [] (a.length - (skL false a).length) (skL false a) (a.length + 1) ((a ++ 10 :: b).length + 1) (Nat.le_refl _) (by omega) (by rw [List.length_append, List.length_cons]; omega) ha
  refine ⟨xs, by rw [x1, Nat.sub_add_cancel l1], ?_⟩
  have p : scR ((a ++ 10 :: b).length + 1) [] ((a ++ 10 :: b).length - (skL false (a ++ 10 :: b)).length) (skL false (a ++ 10 :: b)) =
      scR ((a ++ 10 :: b).length + 1) [] (if skL false a = [] then a.length - (skL false a).length + 1 + (b.length - (skL false b).length) else a.length - (skL false a).length) (if skL false a = [] then skL false b else skL false a ++ 10 :: b) := by
    rw [skL_app]
    by_cases hz : skL false a = []
    · rw [if_pos hz, if_pos hz, hz, List.length_append, List.length_cons]
      rw [show a.length + (b.length + 1) - (skL false b).length = a.length - ([] : List UInt8).length + 1 + (b.length - (skL false b).length) by simp; omega]
    · rw [if_neg hz, if_neg hz, List.length_append, List.length_append]
      rw [show a.length + (10 :: b).length - ((skL false a).length + (10 :: b).length) = a.length - (skL false a).length by omega]
  rw [e3, p, x3, Nat.sub_add_cancel l1]
  have m := scR_move (a.length + 1) (b.length + 1) [] (b.length - (skL false b).length) (skL false b) (by omega) hb
  have n := scR_acc (b.length + 1) xs (b.length - (skL false b).length + (a.length + 1)) (skL false b) (by omega)
  rw [show ([] : List Lex) = ([] : List Lex).map (mv (a.length + 1)) from rfl] at n
  rw [m] at n
  have := n.1 rfl
  rw [scR_fuel g' (b.length + 1) _ _ _ x2 (by omega), show a.length + 1 + (b.length - (skL false b).length) = b.length - (skL false b).length + (a.length + 1) by omega, this]
end Go.Proofs.Ytdpnmlgadieamaa.Lx
