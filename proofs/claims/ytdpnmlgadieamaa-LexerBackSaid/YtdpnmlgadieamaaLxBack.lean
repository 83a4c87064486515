/-
  Plain mathematics of layer 7: what Print writes is read again; where lexemes stand.
-/
import Derived.Test.YtdpnmlgadieamaaLxJoin
namespace Go.Proofs.Ytdpnmlgadieamaa.Lx

/-! ### Lexemes as Scan makes them -/
def GoodT (k : Int) (t : List UInt8) (n : Int) : Prop :=
  (k = 1 ∧ n = 0 ∧ t.length ≤ 16 ∧ (∃ c r, t = c :: r ∧ letN c.toNat = true) ∧ ∀ c ∈ t, nmN c.toNat = true) ∨
  (k = 2 ∧ n = parQ t ∧ parE t = 0 ∧ (∃ c r, t = c :: r) ∧ ∀ c ∈ t, digN c.toNat = true) ∨
  (k = 3 ∧ n = 0 ∧ ∀ c ∈ t, qcN c.toNat = true) ∨
  (k = 4 ∧ n = 0 ∧ (t = [45, 62] ∨ ∃ c, t = [c] ∧ markN c.toNat = true))
/-- How a lexeme is written. -/
def pcT (k : Int) (t : List UInt8) (n : Int) : List UInt8 := if k = 2 then textL n else if k = 3 then 34 :: (qb t ++ [34]) else t
theorem mark_not : ∀ c, c < 256 → markN c = true → letN c = false ∧ digN c = false ∧ c ≠ 34 ∧ c ≠ 35 ∧ blN c = false ∧ c < 128 := by decide +kernel
theorem let_not : ∀ c, c < 256 → letN c = true → c ≠ 34 ∧ c ≠ 35 ∧ blN c = false := by decide +kernel
theorem dig_not : ∀ c, c < 256 → digN c = true → letN c = false ∧ c ≠ 34 ∧ c ≠ 35 ∧ blN c = false := by decide +kernel
theorem one_good (l : List UInt8) (h : (oneR l).e = 0) : GoodT (oneR l).k (oneR l).t (oneR l).n := by
  cases l with
  | nil => exact absurd h (by decide)
  | cons c r =>
    rw [oneR_cons] at h ⊢
    by_cases h1 : letN c.toNat = true
    · rw [if_pos h1] at h ⊢
      by_cases h2 : (nmL (c :: r)).length ≤ 16
      · rw [if_pos h2]
        exact Or.inl ⟨rfl, rfl, h2, ⟨c, nmL r, nmL_cons h1 r, h1⟩, nmL_all _⟩
      · rw [if_neg h2] at h; exact absurd h (by decide)
    · rw [if_neg h1] at h ⊢
      by_cases h2 : digN c.toNat = true
      · rw [if_pos h2] at h ⊢
        by_cases h3 : parE (dgL (c :: r)) = 0
        · rw [if_pos h3]
          exact Or.inr (Or.inl ⟨rfl, rfl, h3, ⟨c, dgL r, dgL_cons h2 r⟩, dgL_all _⟩)
        · rw [if_neg h3] at h; exact absurd h h3
      · rw [if_neg h2] at h ⊢
        by_cases h3 : c.toNat = 34
        · rw [if_pos h3] at h ⊢
          by_cases h4 : (tx [] 1 r).2.2 = true
          · rw [if_pos h4]
            exact Or.inr (Or.inr (Or.inl ⟨rfl, rfl, tx_text [] 1 r fun x hx => by simp at hx⟩))
          · rw [if_neg h4] at h; exact absurd (show (5 : Int) = 0 from h) (by decide)
        · rw [if_neg h3] at h ⊢
          by_cases h4 : c.toNat = 45 ∧ gtB r = true
          · rw [if_pos h4]
            exact Or.inr (Or.inr (Or.inr ⟨rfl, rfl, Or.inl rfl⟩))
          · rw [if_neg h4] at h ⊢
            by_cases h5 : markN c.toNat = true
            · rw [if_pos h5]
              exact Or.inr (Or.inr (Or.inr ⟨rfl, rfl, Or.inr ⟨c, rfl, h5⟩⟩))
            · rw [if_neg h5] at h; exact absurd (show (5 : Int) = 0 from h) (by decide)
/-- What is written of a lexeme is that lexeme, and begins with no blank and no remark. -/
theorem one_print {k : Int} {t : List UInt8} {n : Int} (h : GoodT k t n) :
    oneR (pcT k t n) = ⟨k, t, n, (pcT k t n).length, 0⟩ ∧ ∃ c r, pcT k t n = c :: r ∧ c.toNat ≠ 35 ∧ blN c.toNat = false := by
  rcases h with ⟨rfl, rfl, hl, ⟨c, r, rfl, hc⟩, ha⟩ | ⟨rfl, rfl, he, ⟨c, r, rfl⟩, ha⟩ | ⟨rfl, rfl, ha⟩ | ⟨rfl, rfl, ht⟩
  · have e : pcT 1 (c :: r) 0 = c :: r := rfl
    have hn := let_not c.toNat c.toNat_lt hc
    rw [e]
    refine ⟨?_, c, r, rfl, hn.2.1, hn.2.2⟩
    have w := nmL_whole _ ha
    rw [oneR_cons, if_pos hc, w, if_pos hl]
  · have e : pcT 2 (c :: r) (parQ (c :: r)) = c :: r := (par_back _ he).1
    have hc : digN c.toNat = true := ha c (List.mem_cons_self ..)
    have hn := dig_not c.toNat c.toNat_lt hc
    rw [e]
    refine ⟨?_, c, r, rfl, hn.2.2.1, hn.2.2.2⟩
    have w := dgL_whole _ ha
    rw [oneR_cons, if_neg (by rw [hn.1]; decide), if_pos hc, w, if_pos he]
  · have e : pcT 3 t 0 = 34 :: (qb t ++ [34]) := rfl
    rw [e]
    refine ⟨?_, 34, _, rfl, by decide, by decide⟩
    have w := tx_qb [] t [] 1 ha
    rw [oneR_cons, if_neg (by decide), if_neg (by decide), if_pos (by decide), w, if_pos rfl, List.nil_append]
    congr 1
    simp; omega
  · rcases ht with rfl | ⟨c, rfl, hc⟩
    · exact ⟨rfl, 45, [62], rfl, by decide, by decide⟩
    · have e : pcT 4 [c] 0 = [c] := rfl
      have hn := mark_not c.toNat c.toNat_lt hc
      rw [e]
      refine ⟨?_, c, [], rfl, hn.2.2.2.1, hn.2.2.2.2.1⟩
      rw [oneR_cons, if_neg (by rw [hn.1]; decide), if_neg (by rw [hn.2.1]; decide), if_neg hn.2.2.1, if_neg (fun h => absurd h.2 (by decide)), if_pos hc]; rfl
/-- A lexeme is at least as long in the text as it is written. -/
theorem tx_used (o : List UInt8) (p : Nat) (l : List UInt8) : (tx o p l).2.2 = true → (qb (tx o p l).1).length + p + 1 = (tx o p l).2.1 + (qb o).length := by
  have qs : ∀ (o : List UInt8) (c : UInt8), (qb (o ++ [c])).length = (qb o).length + (if c.toNat = 10 then 2 else if c.toNat = 34 ∨ c.toNat = 92 then 2 else 1) := by
    intro o c
    induction o with
    | nil =>
      show (qb [c]).length = 0 + _
      unfold qb
      rw [List.length_append]
      split
      · rfl
      · split <;> rfl
    | cons d o ih =>
      rw [List.cons_append, qb, List.length_append, ih, qb, List.length_append]; omega
  refine tx_ways (P := fun o p l => (tx o p l).2.2 = true → (qb (tx o p l).1).length + p + 1 = (tx o p l).2.1 + (qb o).length) ?_ ?_ ?_ ?_ ?_ ?_ ?_ ?_ o p l
  · intro o p h; rw [tx_nil] at h; cases h
  · intro o p c r a _; rw [tx_quote _ _ _ a]; show (qb o).length + p + 1 = p + 1 + (qb o).length; omega
  · intro o p c r a b h; rw [tx_bad _ _ _ a b] at h; cases h
  · intro o p c r a b d ih h
    rw [tx_char _ _ _ a b d] at h ⊢
    have := ih h
    rw [qs, if_neg (fun e => by rw [e] at b; exact absurd b (by decide)), if_neg (by omega)] at this
    omega
  · intro o p c a h; rw [tx_end _ _ a] at h; cases h
  · intro o p c d r a b ih h
    rw [tx_esc _ _ _ a b] at h ⊢
    have := ih h
    rw [qs, if_neg (by omega), if_pos b] at this
    omega
  · intro o p c d r a b ih h
    rw [tx_line _ _ _ a b] at h ⊢
    have := ih h
    rw [qs, if_pos (by decide)] at this
    omega
  · intro o p c d r a b x y h; rw [tx_other _ _ _ a b x y] at h; cases h
theorem one_len (l : List UInt8) (h : (oneR l).e = 0) : (pcT (oneR l).k (oneR l).t (oneR l).n).length = (oneR l).u := by
  cases l with
  | nil => exact absurd h (by decide)
  | cons c r =>
    have tu := tx_used [] 1 r
    rw [oneR_cons] at h ⊢
    by_cases h1 : letN c.toNat = true
    · rw [if_pos h1] at h ⊢
      by_cases h2 : (nmL (c :: r)).length ≤ 16
      · rw [if_pos h2]; rfl
      · rw [if_neg h2] at h; exact absurd h (by decide)
    · rw [if_neg h1] at h ⊢
      by_cases h2 : digN c.toNat = true
      · rw [if_pos h2] at h ⊢
        by_cases h3 : parE (dgL (c :: r)) = 0
        · rw [if_pos h3]
          show (textL (parQ (dgL (c :: r)))).length = _
          rw [(par_back _ h3).1]
        · rw [if_neg h3] at h; exact absurd h h3
      · rw [if_neg h2] at h ⊢
        by_cases h3 : c.toNat = 34
        · rw [if_pos h3] at h ⊢
          by_cases h4 : (tx [] 1 r).2.2 = true
          · rw [if_pos h4]
            have := tu h4
            show (34 :: (qb (tx [] 1 r).1 ++ [34])).length = (tx [] 1 r).2.1
            rw [List.length_cons, List.length_append]
            show (qb (tx [] 1 r).1).length + 1 + 1 = _
            have e : (qb []).length = 0 := rfl
            omega
          · rw [if_neg h4] at h; exact absurd (show (5 : Int) = 0 from h) (by decide)
        · rw [if_neg h3] at h ⊢
          by_cases h4 : c.toNat = 45 ∧ gtB r = true
          · rw [if_pos h4]; rfl
          · rw [if_neg h4] at h ⊢
            by_cases h5 : markN c.toNat = true
            · rw [if_pos h5]; rfl
            · rw [if_neg h5] at h; exact absurd (show (5 : Int) = 0 from h) (by decide)
/-- The lexemes before the end are good, and take no more room than the text. -/
def lenP : List Lex → Nat
  | [] => 0
  | x :: r => (pcT x.k x.t x.n).length + 1 + lenP r
theorem scR_all : ∀ (f : Nat) (acc : List Lex) (a : Nat) (l : List UInt8), l.length < f → (scR f acc a l).2.1 = 0 →
    ∃ xs, (scR f acc a l).1 = acc ++ xs ++ [⟨0, [], 0, a + l.length⟩] ∧ (∀ x ∈ xs, GoodT x.k x.t x.n) ∧ lenP xs ≤ 2 * l.length
  | 0, _, _, _, h, _ => absurd h (Nat.not_lt_zero _)
  | f + 1, acc, a, l, h1, h => by
    by_cases h0 : l = []
    · subst h0; exact ⟨[], by rw [scR_nil, List.append_nil]; rfl, fun x hx => by simp at hx, Nat.le_refl _⟩
    · by_cases he : (oneR l).e = 0
      · have hl := nxL_lt he
        have hu := one_used l he
        have hle := one_len l he
        have h2 : (nxL l).length ≤ l.length - (oneR l).u := by have := skL_le false (l.drop (oneR l).u); rw [List.length_drop] at this; exact this
        rw [scR_good _ _ _ h0 he] at h ⊢
        obtain ⟨xs, e2, hg, hs⟩ := scR_all f _ _ _ (by omega) h
        refine ⟨nxX a l :: xs, ?_, ?_, ?_⟩
        · rw [e2, nxA_eq a he]; simp
        · intro x hx
          rcases List.mem_cons.1 hx with rfl | hx
          · exact one_good l he
          · exact hg x hx
        · show (pcT (oneR l).k (oneR l).t (oneR l).n).length + 1 + lenP xs ≤ _
          omega
      · rw [scR_bad _ _ _ h0 he] at h; exact absurd h he

/-! ### What Print writes -/
def jn : List Lex → List UInt8
  | [] => []
  | [x] => pcT x.k x.t x.n
  | x :: y :: r => pcT x.k x.t x.n ++ 32 :: jn (y :: r)
theorem jn_len : ∀ xs : List Lex, (jn xs).length ≤ lenP xs
  | [] => Nat.le_refl _
  | [x] => by unfold jn lenP; omega
  | x :: y :: r => by
    have := jn_len (y :: r)
    rw [jn, lenP, List.length_append, List.length_cons]; omega
theorem jn_head : ∀ (xs : List Lex), xs ≠ [] → (∀ x ∈ xs, GoodT x.k x.t x.n) → ∃ c r, jn xs = c :: r ∧ c.toNat ≠ 35 ∧ blN c.toNat = false
  | [], h, _ => absurd rfl h
  | [x], _, h => (one_print (h x (List.mem_cons_self ..))).2
  | x :: y :: r, _, h => by
    obtain ⟨c, q, e, h1, h2⟩ := (one_print (h x (List.mem_cons_self ..))).2
    exact ⟨c, _, by rw [jn, e]; rfl, h1, h2⟩
/-- Two lexemes that agree but for their places. -/
def AlikeL : List Lex → List Lex → Prop
  | [], [] => True
  | x :: r, y :: q => x.k = y.k ∧ x.t = y.t ∧ x.n = y.n ∧ AlikeL r q
  | _, _ => False
theorem scR_print : ∀ (xs : List Lex) (f : Nat) (acc : List Lex) (a : Nat), (∀ x ∈ xs, GoodT x.k x.t x.n) → (jn xs).length < f →
    ∃ ys, scR f acc a (jn xs) = (acc ++ ys ++ [⟨0, [], 0, a + (jn xs).length⟩], 0, 0) ∧ AlikeL xs ys
  | [], f, acc, a, _, h => by
    obtain ⟨f, rfl⟩ : ∃ k, f = k + 1 := ⟨f - 1, by simp [jn] at h; omega⟩
    exact ⟨[], by rw [List.append_nil]; rfl, trivial⟩
  | [x], f, acc, a, hg, h => by
    obtain ⟨o, c, r, e, -, -⟩ := one_print (hg x (List.mem_cons_self ..))
    have ej : jn [x] = pcT x.k x.t x.n := rfl
    rw [ej] at h ⊢
    obtain ⟨f, rfl⟩ : ∃ k, f = k + 2 := ⟨f - 2, by rw [e] at h; simp at h; omega⟩
    have he : (oneR (pcT x.k x.t x.n)).e = 0 := by rw [o]
    have hx : nxX a (pcT x.k x.t x.n) = ⟨x.k, x.t, x.n, a⟩ := by unfold nxX; rw [o]
    have hl : nxL (pcT x.k x.t x.n) = [] := by unfold nxL; rw [o, List.drop_length]; rfl
    have hA := nxA_eq a he
    rw [hl] at hA
    rw [scR_good _ _ _ (by rw [e]; simp) he, hl, hx, scR_nil, show nxA a (pcT x.k x.t x.n) = a + (pcT x.k x.t x.n).length from hA]
    exact ⟨[⟨x.k, x.t, x.n, a⟩], rfl, rfl, rfl, rfl, trivial⟩
  | x :: y :: q, f, acc, a, hg, h => by
    obtain ⟨o, c, r, e, -, -⟩ := one_print (hg x (List.mem_cons_self ..))
    obtain ⟨d, z, ez, h35, hbl⟩ := jn_head (y :: q) (by simp) fun w hw => hg w (List.mem_cons_of_mem _ hw)
    have ej : jn (x :: y :: q) = pcT x.k x.t x.n ++ 32 :: jn (y :: q) := rfl
    rw [ej] at h ⊢
    obtain ⟨f, rfl⟩ : ∃ k, f = k + 1 := ⟨f - 1, by rw [e] at h; simp at h; omega⟩
    have he : (oneR (pcT x.k x.t x.n)).e = 0 := by rw [o]
    have ho := one_app (z := 32) (by decide) (by decide) (by decide) (jn (y :: q)) _ he
    rw [o] at ho
    have he2 : (oneR (pcT x.k x.t x.n ++ 32 :: jn (y :: q))).e = 0 := by rw [ho]
    have hx : nxX a (pcT x.k x.t x.n ++ 32 :: jn (y :: q)) = ⟨x.k, x.t, x.n, a⟩ := by unfold nxX; rw [ho]
    have hl : nxL (pcT x.k x.t x.n ++ 32 :: jn (y :: q)) = jn (y :: q) := by
      unfold nxL
      rw [ho, List.drop_left]
      rw [skL, if_neg (by decide), if_pos (by decide)]
      exact skL_stop ez h35 hbl
    have hA := nxA_eq a he2
    rw [hl] at hA
    have hlen : (pcT x.k x.t x.n ++ 32 :: jn (y :: q)).length = (pcT x.k x.t x.n).length + (jn (y :: q)).length + 1 := by rw [List.length_append, List.length_cons]; omega
    obtain ⟨ys, e1, e2⟩ := scR_print (y :: q) f (acc ++ [⟨x.k, x.t, x.n, a⟩]) (nxA a (pcT x.k x.t x.n ++ 32 :: jn (y :: q))) (fun w hw => hg w (List.mem_cons_of_mem _ hw)) (by omega)
    rw [scR_good _ _ _ (by simp) he2, hl, hx, e1, hA]
    exact ⟨⟨x.k, x.t, x.n, a⟩ :: ys, by simp, rfl, rfl, rfl, e2⟩
/-- P7.5. -/
theorem scan_back {s : List UInt8} (h : (scanM s).2.1 = 0) (hs : s.length ≤ 3000) :
    ∃ xs ys, (scanM s).1 = xs ++ [⟨0, [], 0, s.length⟩] ∧ scanM (jn xs) = (ys ++ [⟨0, [], 0, (jn xs).length⟩], 0, 0) ∧ AlikeL xs ys ∧ (∀ x ∈ xs, GoodT x.k x.t x.n) ∧ lenP xs ≤ 6000 ∧ (jn xs).length ≤ 6000 := by
  have l1 := skL_le false s
  have e1 : scanM s = scR (s.length + 1) [] (s.length - (skL false s).length) (skL false s) := if_neg (by omega)
  rw [e1] at h ⊢
  obtain ⟨xs, x1, x2, x3⟩ := scR_all _ _ _ _ (by omega) h
  have hj := jn_len xs
  have e2 : scanM (jn xs) = scR ((jn xs).length + 1) [] ((jn xs).length - (skL false (jn xs)).length) (skL false (jn xs)) := if_neg (by omega)
  have hsk : skL false (jn xs) = jn xs := by
    by_cases hx : xs = []
    · subst hx; rfl
    · obtain ⟨c, r, e, h1, h2⟩ := jn_head xs hx x2
      exact skL_stop e h1 h2
  rw [hsk, Nat.sub_self] at e2
  obtain ⟨ys, y1, y2⟩ := scR_print xs ((jn xs).length + 1) [] 0 x2 (Nat.lt_succ_self _)
  refine ⟨xs, ys, ?_, ?_, y2, x2, by omega, by omega⟩
  · rw [x1, List.nil_append, Nat.sub_add_cancel l1]
  · rw [e2, y1, List.nil_append, Nat.zero_add]

/-! ### Where lexemes stand -/
def OffOk (s : List UInt8) : Nat → List Lex → Prop
  | _, [] => False
  | lo, [x] => lo ≤ s.length ∧ x.k = 0 ∧ x.t = [] ∧ x.n = 0 ∧ x.a = s.length
  | lo, x :: y :: r => lo ≤ x.a ∧ x.a < s.length ∧ (1 ≤ x.k ∧ x.k ≤ 4) ∧ (x.k = 3 → (s.drop x.a).head? = some 34) ∧ (x.k ≠ 3 → x.t.length ≤ s.length - x.a ∧ (s.drop x.a).take x.t.length = x.t) ∧ OffOk s (x.a + 1) (y :: r)
theorem one_stands (l : List UInt8) (h : (oneR l).e = 0) : (1 ≤ (oneR l).k ∧ (oneR l).k ≤ 4) ∧ ((oneR l).k = 3 → l.head? = some 34) ∧ ((oneR l).k ≠ 3 → l.take (oneR l).t.length = (oneR l).t ∧ (oneR l).t.length ≤ l.length) := by
  cases l with
  | nil => exact absurd h (by decide)
  | cons c r =>
    have hn := nmL_le (c :: r)
    have hd := dgL_le (c :: r)
    rw [oneR_cons] at h ⊢
    by_cases h1 : letN c.toNat = true
    · rw [if_pos h1] at h ⊢
      by_cases h2 : (nmL (c :: r)).length ≤ 16
      · rw [if_pos h2]; exact ⟨⟨by show (1 : Int) ≤ 1; decide, by show (1 : Int) ≤ 4; decide⟩, fun e => absurd (show (1 : Int) = 3 from e) (by decide), fun _ => ⟨nmL_take _, hn⟩⟩
      · rw [if_neg h2] at h; exact absurd h (by decide)
    · rw [if_neg h1] at h ⊢
      by_cases h2 : digN c.toNat = true
      · rw [if_pos h2] at h ⊢
        by_cases h3 : parE (dgL (c :: r)) = 0
        · rw [if_pos h3]; exact ⟨⟨by show (1 : Int) ≤ 2; decide, by show (2 : Int) ≤ 4; decide⟩, fun e => absurd (show (2 : Int) = 3 from e) (by decide), fun _ => ⟨dgL_take _, hd⟩⟩
        · rw [if_neg h3] at h; exact absurd h h3
      · rw [if_neg h2] at h ⊢
        by_cases h3 : c.toNat = 34
        · rw [if_pos h3] at h ⊢
          by_cases h4 : (tx [] 1 r).2.2 = true
          · rw [if_pos h4]
            exact ⟨⟨by show (1 : Int) ≤ 3; decide, by show (3 : Int) ≤ 4; decide⟩, fun _ => by rw [show c = 34 from UInt8.toNat_inj.1 h3]; rfl, fun e => absurd rfl e⟩
          · rw [if_neg h4] at h; exact absurd (show (5 : Int) = 0 from h) (by decide)
        · rw [if_neg h3] at h ⊢
          by_cases h4 : c.toNat = 45 ∧ gtB r = true
          · rw [if_pos h4]
            refine ⟨⟨by decide, by decide⟩, fun e => absurd e (by decide), fun _ => ?_⟩
            obtain rfl : c = 45 := UInt8.toNat_inj.1 h4.1
            cases r with
            | nil => exact absurd h4.2 (by decide)
            | cons d r =>
              obtain rfl : d = 62 := UInt8.toNat_inj.1 (beq_iff_eq.1 h4.2)
              exact ⟨rfl, by simp⟩
          · rw [if_neg h4] at h ⊢
            by_cases h5 : markN c.toNat = true
            · rw [if_pos h5]; exact ⟨⟨by show (1 : Int) ≤ 4; decide, by show (4 : Int) ≤ 4; decide⟩, fun e => absurd (show (4 : Int) = 3 from e) (by decide), fun _ => ⟨rfl, by simp⟩⟩
            · rw [if_neg h5] at h; exact absurd (show (5 : Int) = 0 from h) (by decide)
theorem OffOk.mono {s : List UInt8} : ∀ {l : List Lex} {a b : Nat}, a ≤ b → OffOk s b l → OffOk s a l
  | [], _, _, _, h => h
  | [_], _, _, hab, h => ⟨Nat.le_trans hab h.1, h.2⟩
  | _ :: _ :: _, _, _, hab, h => ⟨Nat.le_trans hab h.1, h.2⟩
theorem scR_off (s : List UInt8) : ∀ (f : Nat) (acc : List Lex) (a : Nat) (l : List UInt8), l.length < f → s.drop a = l → a + l.length = s.length → (scR f acc a l).2.1 = 0 → ∃ xs, (scR f acc a l).1 = acc ++ xs ∧ OffOk s a xs
  | 0, _, _, _, h, _, _, _ => absurd h (Nat.not_lt_zero _)
  | f + 1, acc, a, l, h1, hs, ha, h => by
    by_cases h0 : l = []
    · subst h0
      have ha : a = s.length := ha
      exact ⟨[⟨0, [], 0, a⟩], rfl, Nat.le_of_eq ha, rfl, rfl, rfl, ha⟩
    · by_cases he : (oneR l).e = 0
      · have hl := nxL_lt he
        have hu := one_used l he
        have st := one_stands l he
        have hA := nxA_eq a he
        have hlt := nxA_lt a he
        have hsk := skL_suffix false (l.drop (oneR l).u)
        rw [scR_good _ _ _ h0 he] at h ⊢
        have hs2 : s.drop (nxA a l) = nxL l := by
          have hle := skL_le false (l.drop (oneR l).u)
          unfold nxA nxL
          rw [Nat.add_assoc, ← List.drop_drop, hs, ← List.drop_drop]
          exact hsk
        obtain ⟨xs, e2, hg⟩ := scR_off s f _ _ _ (by omega) hs2 (by omega) h
        refine ⟨nxX a l :: xs, by rw [e2]; simp, ?_⟩
        have hpos : 0 < l.length := by omega
        match xs, hg with
        | [], hg => exact hg.elim
        | y :: r, hg =>
          refine ⟨Nat.le_refl _, by show a < _; omega, st.1, fun hk => ?_, fun hk => ?_, hg.mono hlt⟩
          · show (s.drop a).head? = _
            rw [hs]; exact st.2.1 hk
          · show _ ≤ s.length - a ∧ (s.drop a).take _ = _
            rw [hs]
            have := st.2.2 hk
            exact ⟨by have := this.2; show (oneR l).t.length ≤ _; omega, this.1⟩
      · rw [scR_bad _ _ _ h0 he] at h; exact absurd h he
theorem oneR_bad (l : List UInt8) (h0 : l ≠ []) (h : (oneR l).e ≠ 0) : ((oneR l).e = 5 ∨ (oneR l).e = 6 ∨ (oneR l).e = 9) ∧ (oneR l).u ≤ l.length := by
  cases l with
  | nil => exact absurd rfl h0
  | cons c r =>
    have t := (tx_pos [] 1 r).2.1
    rw [oneR_cons] at h ⊢
    by_cases h1 : letN c.toNat = true
    · rw [if_pos h1] at h ⊢
      by_cases h2 : (nmL (c :: r)).length ≤ 16
      · rw [if_pos h2] at h; exact absurd rfl h
      · rw [if_neg h2]; exact ⟨Or.inr (Or.inl rfl), Nat.zero_le _⟩
    · rw [if_neg h1] at h ⊢
      by_cases h2 : digN c.toNat = true
      · rw [if_pos h2] at h ⊢
        by_cases h3 : parE (dgL (c :: r)) = 0
        · rw [if_pos h3] at h; exact absurd rfl h
        · rw [if_neg h3]
          refine ⟨?_, Nat.zero_le _⟩
          show parE _ = 5 ∨ parE _ = 6 ∨ parE _ = 9
          rcases parE_pos h3 with e | e | e
          · rw [dgL_cons h2] at e
            unfold parE at e
            rw [if_neg (by simp)] at e
            split at e
            · exact absurd e (by decide)
            · split at e
              · exact absurd e (by decide)
              · unfold valE at e
                split at e <;> exact absurd e (by decide)
          · exact Or.inl e
          · exact Or.inr (Or.inr e)
      · rw [if_neg h2] at h ⊢
        by_cases h3 : c.toNat = 34
        · rw [if_pos h3] at h ⊢
          by_cases h4 : (tx [] 1 r).2.2 = true
          · rw [if_pos h4] at h; exact absurd rfl h
          · rw [if_neg h4]; exact ⟨Or.inl rfl, by show (tx [] 1 r).2.1 ≤ _; rw [List.length_cons]; omega⟩
        · rw [if_neg h3] at h ⊢
          by_cases h4 : c.toNat = 45 ∧ gtB r = true
          · rw [if_pos h4] at h; exact absurd rfl h
          · rw [if_neg h4] at h ⊢
            by_cases h5 : markN c.toNat = true
            · rw [if_pos h5] at h; exact absurd rfl h
            · rw [if_neg h5]; exact ⟨Or.inl rfl, Nat.zero_le _⟩
theorem scR_err : ∀ (f : Nat) (acc : List Lex) (a : Nat) (l : List UInt8), l.length < f → (scR f acc a l).2.1 ≠ 0 →
    (scR f acc a l).1 = [] ∧ ((scR f acc a l).2.1 = 5 ∨ (scR f acc a l).2.1 = 6 ∨ (scR f acc a l).2.1 = 9) ∧ (scR f acc a l).2.2 ≤ a + l.length
  | 0, _, _, _, h, _ => absurd h (Nat.not_lt_zero _)
  | f + 1, acc, a, l, h1, h => by
    by_cases h0 : l = []
    · subst h0; exact absurd rfl h
    · by_cases he : (oneR l).e = 0
      · have hl := nxL_lt he
        have hA := nxA_eq a he
        rw [scR_good _ _ _ h0 he] at h ⊢
        have := scR_err f _ _ _ (by omega) h
        rw [hA] at this
        exact this
      · rw [scR_bad _ _ _ h0 he]
        have := oneR_bad l h0 he
        exact ⟨rfl, this.1, by show a + _ ≤ _; omega⟩
/-- P7.7. -/
theorem scan_off {s : List UInt8} (hs : s.length ≤ 16384) : ((scanM s).2.1 = 0 → (scanM s).2.2 = 0 ∧ OffOk s 0 (scanM s).1) ∧
    ((scanM s).2.1 ≠ 0 → (scanM s).1 = [] ∧ ((scanM s).2.1 = 5 ∨ (scanM s).2.1 = 6 ∨ (scanM s).2.1 = 9) ∧ (scanM s).2.2 ≤ s.length) := by
  have l1 := skL_le false s
  have e1 : scanM s = scR (s.length + 1) [] (s.length - (skL false s).length) (skL false s) := if_neg (by omega)
  rw [e1]
  refine ⟨fun h => ?_, fun h => ?_⟩
  · obtain ⟨xs, x1, x2⟩ := scR_off s _ _ _ _ (by omega) (skL_suffix false s) (by omega) h
    rw [x1, List.nil_append]
    exact ⟨(scR_end _ _ _ _ (by omega) h).1, x2.mono (Nat.zero_le _)⟩
  · have := scR_err _ _ _ _ (by omega) h
    exact ⟨this.1, this.2.1, by have := this.2.2; omega⟩
end Go.Proofs.Ytdpnmlgadieamaa.Lx
