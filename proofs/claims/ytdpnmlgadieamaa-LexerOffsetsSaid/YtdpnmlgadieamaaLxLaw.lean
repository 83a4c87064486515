/-
  What the laws of layer 7 use: lengths, equal lists, the lexeme of a string, what Print writes.
-/
import Derived.Test.YtdpnmlgadieamaaLxAlive
namespace Go.Proofs.Ytdpnmlgadieamaa.Lx
open Go.RowKit

theorem eqI_refl (x : LexI) : eqI x x = true := by unfold eqI; simp
theorem sameBy_refl : ∀ l : List LexI, sameBy eqI l l = true
  | [] => rfl
  | x :: l => by rw [sameBy, eqI_refl, sameBy_refl l]; rfl
theorem scR_len : ∀ (f : Nat) (acc : List Lex) (a : Nat) (l : List UInt8), (scR f acc a l).1.length ≤ acc.length + l.length + 1
  | 0, _, _, _ => Nat.zero_le _
  | f + 1, acc, a, l => by
    by_cases h0 : l = []
    · subst h0; rw [scR_nil, List.length_append]; exact Nat.le_refl _
    · by_cases he : (oneR l).e = 0
      · have hl := nxL_lt he
        have := scR_len f (acc ++ [nxX a l]) (nxA a l) (nxL l)
        rw [scR_good _ _ _ h0 he]
        rw [List.length_append] at this
        have h1 : [nxX a l].length = 1 := rfl
        omega
      · rw [scR_bad _ _ _ h0 he]; exact Nat.zero_le _
theorem scan_len (s : List UInt8) : (scanM s).1.length ≤ s.length + 1 := by
  unfold scanM
  split
  · exact Nat.zero_le _
  · have h1 := scR_len (s.length + 1) [] (s.length - (skL false s).length) (skL false s)
    have h2 := skL_le false s
    have h3 : ([] : List Lex).length = 0 := rfl
    omega
theorem scan_err4 (s : List UInt8) : ((scanM s).2.1 = 4) ↔ 16384 < s.length := by
  by_cases h : 16384 < s.length
  · refine ⟨fun _ => h, fun _ => ?_⟩
    unfold scanM
    rw [if_pos h]
  · refine ⟨fun e => ?_, fun e => absurd e h⟩
    have o := scan_off (s := s) (by omega)
    by_cases h0 : (scanM s).2.1 = 0
    · rw [h0] at e; exact absurd e (by decide)
    · have := (o.2 h0).2.1
      rw [e] at this
      rcases this with x | x | x <;> exact absurd x (by decide)
/-- The string lexeme of a Text is that Text alone. -/
theorem scan_quote {t : List UInt8} (hq : qok t = true) (hl : t.length ≤ 8000) : scanM (qtV t) = ([⟨3, t, 0, 0⟩, ⟨0, [], 0, (qtV t).length⟩], 0, 0) := by
  have hg : GoodT 3 t 0 := Or.inr (Or.inr (Or.inl ⟨rfl, rfl, fun c hc => List.all_eq_true.1 hq c hc⟩))
  have e : qtV t = pcT 3 t 0 := if_pos hq
  obtain ⟨o, c, r, ec, h35, hbl⟩ := one_print hg
  have hb := qb_len t
  have hlen : (pcT 3 t 0).length ≤ 16384 := by
    show (34 :: (qb t ++ [34])).length ≤ _
    rw [List.length_cons, List.length_append]
    show _ + 1 + 1 ≤ _; omega
  rw [e]
  have hsk : skL false (pcT 3 t 0) = pcT 3 t 0 := skL_stop ec h35 hbl
  have h1 : scanM (pcT 3 t 0) = scR ((pcT 3 t 0).length + 1) [] 0 (pcT 3 t 0) := by
    unfold scanM
    rw [if_neg (by omega), hsk, Nat.sub_self]
  have he : (oneR (pcT 3 t 0)).e = 0 := by rw [o]
  have hx : nxX 0 (pcT 3 t 0) = ⟨3, t, 0, 0⟩ := by unfold nxX; rw [o]
  have hn : nxL (pcT 3 t 0) = [] := by unfold nxL; rw [o, List.drop_length]; rfl
  have hA := nxA_eq 0 he
  rw [hn] at hA
  have h0 : pcT 3 t 0 ≠ [] := by rw [ec]; simp
  obtain ⟨k, hk⟩ : ∃ k, (pcT 3 t 0).length = k + 1 := ⟨(pcT 3 t 0).length - 1, by rw [ec]; simp⟩
  rw [h1, scR_good _ _ _ h0 he, hx, hn]
  conv => lhs; rw [hk]
  rw [scR_nil, show nxA 0 (pcT 3 t 0) = (pcT 3 t 0).length by simpa using hA]; rfl
/-! ### What Print writes of the lexemes of a text -/
theorem pcO_good {x : Lex} (h : GoodT x.k x.t x.n) : pcO (toI x) = some (pcT x.k x.t x.n) := by
  obtain ⟨k, t, n, a⟩ := x
  rcases h with ⟨e, e2, _⟩ | ⟨e, e2, _⟩ | ⟨e, e2, hq⟩ | ⟨e, e2, _⟩
  · subst e; rfl
  · subst e; rfl
  · subst e
    exact if_pos (List.all_eq_true.2 hq)
  · subst e; rfl
theorem prF_no {x : LexI} (h : pcO x = none) (acc : List UInt8) (b : Bool) (l : List LexI) : prF acc b (x :: l) = prF acc b l := by rw [prF, h]
theorem prF_yes {x : LexI} {t : List UInt8} (h : pcO x = some t) (acc : List UInt8) (b : Bool) (l : List LexI) : prF acc b (x :: l) = prF (acc ++ (if b = true then [32] else []) ++ t) true l := by rw [prF, h]
theorem prF_nil (acc : List UInt8) (b : Bool) : prF acc b [] = acc := by rw [prF]
theorem prF_app : ∀ (l m : List LexI) (acc : List UInt8) (b : Bool), (∀ x ∈ m, pcO x = none) → prF acc b (l ++ m) = prF acc b l
  | [], [], acc, b, _ => rfl
  | [], x :: m, acc, b, h => by
    have := prF_app [] m acc b fun y hy => h y (List.mem_cons_of_mem _ hy)
    rw [List.nil_append] at this ⊢
    rw [prF_no (h x (List.mem_cons_self ..))]
    exact this
  | x :: l, m, acc, b, h => by
    rw [List.cons_append]
    cases hx : pcO x with
    | none => rw [prF_no hx, prF_no hx]; exact prF_app l m acc b h
    | some t => rw [prF_yes hx, prF_yes hx]; exact prF_app l m _ true h
theorem prF_jn : ∀ (xs : List Lex) (acc : List UInt8), xs ≠ [] → (∀ x ∈ xs, GoodT x.k x.t x.n) → prF acc true (xs.map toI) = acc ++ 32 :: jn xs
  | [], _, h, _ => absurd rfl h
  | [x], acc, _, h => by
    rw [List.map_cons, List.map_nil, prF_yes (pcO_good (h x (List.mem_cons_self ..))), prF_nil, jn]
    simp
  | x :: y :: q, acc, _, h => by
    have ih := prF_jn (y :: q) (acc ++ (if true = true then [32] else []) ++ pcT x.k x.t x.n) (by simp) fun z hz => h z (List.mem_cons_of_mem _ hz)
    rw [List.map_cons, prF_yes (pcO_good (h x (List.mem_cons_self ..))), ih, jn]
    simp
theorem pr_jn (xs : List Lex) (hg : ∀ x ∈ xs, GoodT x.k x.t x.n) (n : Nat) : prF [] false ((xs ++ [(⟨0, [], 0, n⟩ : Lex)]).map toI) = jn xs := by
  have he : ∀ x ∈ [(⟨0, [], 0, n⟩ : Lex)].map toI, pcO x = none := fun x hx => by
    have : x = toI ⟨0, [], 0, n⟩ := by simpa using hx
    rw [this]; rfl
  rw [List.map_append, prF_app _ _ _ _ he]
  cases xs with
  | nil => rfl
  | cons x q =>
    rw [List.map_cons, prF_yes (pcO_good (hg x (List.mem_cons_self ..)))]
    cases q with
    | nil => rw [List.map_nil, prF_nil, jn]; simp
    | cons y q =>
      rw [prF_jn (y :: q) _ (by simp) fun z hz => hg z (List.mem_cons_of_mem _ hz), jn]
      simp
theorem alike_same : ∀ (xs ys : List Lex), AlikeL xs ys → sameBy eqM (xs.map toI) (ys.map toI) = true ∧ xs.length = ys.length
  | [], [], _ => ⟨rfl, rfl⟩
  | [], _ :: _, h => h.elim
  | _ :: _, [], h => h.elim
  | x :: r, y :: q, h => by
    obtain ⟨h1, h2, h3, h4⟩ := h
    have ih := alike_same r q h4
    refine ⟨?_, by rw [List.length_cons, List.length_cons, ih.2]⟩
    rw [List.map_cons, List.map_cons, sameBy, ih.1]
    show eqM ⟨x.k, x.t, x.n, (x.a : Int)⟩ ⟨y.k, y.t, y.n, (y.a : Int)⟩ && true = true
    unfold eqM
    simp [h1, h2, h3]
theorem good_mild {x : Lex} (h : GoodT x.k x.t x.n) : In64 x.n := by
  rcases h with ⟨_, e, _⟩ | ⟨_, e, he, _⟩ | ⟨_, e, _⟩ | ⟨_, e, _⟩
  · rw [e]; constructor <;> decide
  · rw [e]
    have := (par_back _ he).2
    constructor <;> omega
  · rw [e]; constructor <;> decide
  · rw [e]; constructor <;> decide
theorem good_short {x : Lex} {xs : List Lex} (hx : x ∈ xs) (h : GoodT x.k x.t x.n) : x.t.length ≤ lenP xs := by
  have h1 : x.t.length ≤ (pcT x.k x.t x.n).length := by
    obtain ⟨k, t, n, a⟩ := x
    rcases h with ⟨e, e2, _⟩ | ⟨e, e2, he, _⟩ | ⟨e, e2, _⟩ | ⟨e, e2, _⟩
    · subst e; exact Nat.le_refl _
    · subst e
      show t.length ≤ (textL n).length
      rw [show n = parQ t from e2, (par_back _ he).1]; exact Nat.le_refl _
    · subst e
      have hq : ∀ l : List UInt8, l.length ≤ (qb l).length := fun l => by
        induction l with
        | nil => exact Nat.le_refl _
        | cons c l ih =>
          rw [qb, List.length_append, List.length_cons]
          split
          · show _ ≤ 2 + _; omega
          · split
            · show _ ≤ 2 + _; omega
            · show _ ≤ 1 + _; omega
      show t.length ≤ (34 :: (qb t ++ [34])).length
      have := hq t
      rw [List.length_cons, List.length_append]
      show _ ≤ _ + 1 + 1; omega
    · subst e; exact Nat.le_refl _
  have h2 : ∀ l : List Lex, x ∈ l → (pcT x.k x.t x.n).length ≤ lenP l := fun l hl => by
    induction l with
    | nil => simp at hl
    | cons y l ih =>
      rw [lenP]
      rcases List.mem_cons.1 hl with rfl | hl
      · omega
      · have := ih hl; omega
  exact Nat.le_trans h1 (h2 xs hx)
end Go.Proofs.Ytdpnmlgadieamaa.Lx
