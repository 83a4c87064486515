/-
  Lists of lexemes in rows of the call's own, and as slices (layer 7).
-/
import Derived.Test.YtdpnmlgadieamaaLxR5
namespace Go.Proofs.Ytdpnmlgadieamaa.Lx
open Go.RowKit

/-- The cells of a lexeme, of a list of lexemes. -/
def lexC (x : Lex) : List Value := [.int .i64 x.k, .string (toS x.t), .int .i64 x.n, .int .i64 (x.a : Int)]
def lexsC : List Lex → List Value
  | [] => []
  | x :: r => lexC x ++ lexsC r
theorem lexsC_app : ∀ l m : List Lex, lexsC (l ++ m) = lexsC l ++ lexsC m
  | [], _ => rfl
  | x :: l, m => by rw [List.cons_append, lexsC, lexsC, lexsC_app l m, List.append_assoc]
theorem lexsC_len : ∀ l : List Lex, (lexsC l).length = l.length * 4
  | [] => rfl
  | x :: l => by rw [lexsC, List.length_append, lexsC_len l, List.length_cons]; show 4 + _ = _; omega
/-- The lexemes l, in a row of the call's own. -/
def OwnL (w : World) (B : Nat) (v : Value) (l : List Lex) : Prop := w.ownsRow B 35 4 v l.length (lexsC l)
theorem OwnL.nil (w : World) (B : Nat) : OwnL w B (.slice none 0 0) [] := World.ownsRow_nil _ _ _ _
theorem OwnL.alloc {w : World} {B : Nat} {v : Value} {l : List Lex} (h : OwnL w B v l) (o : Obj) : OwnL (w.alloc o) B v l := World.ownsRow.alloc h o
theorem OwnL.lt {w : World} {B : Nat} {v : Value} {l : List Lex} (h : OwnL w B v l) : ∀ k, v.ownBlock = some k → B ≤ k := fun k hk => (World.ownsRow.lt h k hk).1
theorem own_below {w w' : World} {B n z : Nat} {T : TypeId} {v : Value} {xs : List Value} (h : w.ownsRow B T z v n xs) (hb : Below w.heap.size w w') : w'.ownsRow B T z v n xs :=
  h.kept (row := none) ⟨hb.os, hb.tape, hb.output, hb.size, fun k hk _ => hb.block k hk⟩ (by cases hv : v.ownBlock <;> simp)
theorem OwnL.below {w w' : World} {B : Nat} {v : Value} {l : List Lex} (h : OwnL w B v l) (hb : Below w.heap.size w w') : OwnL w' B v l := own_below h hb
theorem OwnL.snoc {w : World} {B : Nat} {v : Value} {l : List Lex} {x : Lex} (h : w.ownsRow B 35 4 v (l.length + 1) (lexsC l ++ lexC x)) : OwnL w B v (l ++ [x]) := by
  unfold OwnL
  rw [List.length_append, lexsC_app]
  show w.ownsRow B _ 4 v (l.length + 1) (lexsC l ++ (lexC x ++ []))
  rw [List.append_nil]; exact h
theorem info_lexz : (Try.prog.info? 35).map (fun i => (i.zero, i.size, i.bytes)) = some (some (.agg lx0), 4, 40) := by kernel_rfl
theorem news4 (W : World) (a b c d : Value) : ∀ j u, [a, b, c, d][j]? = some u → (W.alloc (.cells #[a, b, c, d] 35)).cell? ((⟨W.heap.size, 0, none⟩ : Addr).add j) = some u :=
  World.news_of_block (cs := #[a, b, c, d]) (t := 35) (fr := (0, 0)) (heap_alloc_new W _)
theorem news4_at (W : World) {g : Nat} (hg : W.heap.size = g) (a b c d : Value) : ∀ j u, [a, b, c, d][j]? = some u → (W.alloc (.cells #[a, b, c, d] 35)).cell? ((⟨g, 0, none⟩ : Addr).add j) = some u := by
  rw [← hg]
  exact news4 W a b c d
theorem ones4 (k n a : Int) (t : ByteArray) : ∀ u ∈ [Value.int .i64 k, .string t, .int .i64 n, .int .i64 a], u.oneCell' = true := fun u hu => by
  simp at hu
  rcases hu with rfl | rfl | rfl | rfl <;> rfl
theorem room4 {n : Nat} (h : n ≤ 1000000) : n + 1 ≤ maxLen ∧ (n + 1) * 40 ≤ 140737488355328 := ⟨by unfold maxLen; omega, by omega⟩
/-- A lexeme with whatever numbers. -/
structure LexI where
  k : Int
  t : List UInt8
  n : Int
  a : Int
def toI (x : Lex) : LexI := ⟨x.k, x.t, x.n, (x.a : Int)⟩
def In64 (z : Int) : Prop := -9223372036854775808 ≤ z ∧ z ≤ 9223372036854775807
/-- A slice of lexemes in memory. -/
structure LexAt (w : World) (b off c : Nat) (l : List LexI) : Prop where
  lt : b < w.heap.size
  cap : l.length ≤ c
  at_ : ∀ j x, l[j]? = some x → w.cell? ⟨b, off + j * 4, none⟩ = some (.int .i64 x.k) ∧ w.cell? ⟨b, off + j * 4 + 1, none⟩ = some (.string (toS x.t)) ∧ w.cell? ⟨b, off + j * 4 + 2, none⟩ = some (.int .i64 x.n) ∧ w.cell? ⟨b, off + j * 4 + 3, none⟩ = some (.int .i64 x.a)
def Lexs (w : World) (v : Value) (l : List LexI) : Prop := ∃ p c, v = .slice p l.length c ∧ l.length ≤ c ∧ (0 < l.length → ∃ b off, p = some ⟨b, off, none⟩ ∧ LexAt w b off c l)
theorem LexAt.below {w w' : World} {b off c : Nat} {l : List LexI} (h : LexAt w b off c l) (hb : Below w.heap.size w w') : LexAt w' b off c l :=
  ⟨Nat.lt_of_lt_of_le h.lt hb.size, h.cap, fun j x hj => ⟨(hb.cell h.lt).trans (h.at_ j x hj).1, (hb.cell h.lt).trans (h.at_ j x hj).2.1, (hb.cell h.lt).trans (h.at_ j x hj).2.2.1, (hb.cell h.lt).trans (h.at_ j x hj).2.2.2⟩⟩
theorem Lexs.below {w w' : World} {v : Value} {l : List LexI} (h : Lexs w v l) (hb : Below w.heap.size w w') : Lexs w' v l := by
  obtain ⟨p, c, hv, hlc, hc⟩ := h
  refine ⟨p, c, hv, hlc, fun h0 => ?_⟩
  obtain ⟨b, off, hp, hn⟩ := hc h0
  exact ⟨b, off, hp, hn.below hb⟩
theorem Lexs.open {w : World} {v : Value} {l : List LexI} (h : Lexs w v l) (h0 : 0 < l.length) : ∃ b off c, v = .slice (some ⟨b, off, none⟩) l.length c ∧ LexAt w b off c l := by
  obtain ⟨p, c, hv, hlc, hc⟩ := h
  obtain ⟨b, off, rfl, ha⟩ := hc h0
  exact ⟨b, off, c, hv, ha⟩
theorem Lexs.nil {w : World} {v : Value} {l : List LexI} (h : Lexs w v l) : ∃ p c, v = .slice p l.length c := by
  obtain ⟨p, c, hv, _⟩ := h
  exact ⟨p, c, hv⟩
theorem lexsC_at : ∀ (l : List Lex) (j : Nat) (x : Lex), l[j]? = some x → (lexsC l)[j * 4]? = some (.int .i64 x.k) ∧ (lexsC l)[j * 4 + 1]? = some (.string (toS x.t)) ∧ (lexsC l)[j * 4 + 2]? = some (.int .i64 x.n) ∧ (lexsC l)[j * 4 + 3]? = some (.int .i64 (x.a : Int))
  | [], _, _, h => by simp at h
  | y :: l, 0, x, h => by
    simp at h
    subst h
    exact ⟨rfl, rfl, rfl, rfl⟩
  | y :: l, j + 1, x, h => by
    have := lexsC_at l j x (by simpa using h)
    have e : ∀ i, (lexsC (y :: l))[(j + 1) * 4 + i]? = (lexsC l)[j * 4 + i]? := fun i => by
      rw [lexsC, List.getElem?_append_right (by show 4 ≤ _; omega)]
      show (lexsC l)[(j + 1) * 4 + i - 4]? = _
      congr 1; omega
    exact ⟨(e 0).trans this.1, (e 1).trans this.2.1, (e 2).trans this.2.2.1, (e 3).trans this.2.2.2⟩
theorem OwnL.lexs {w : World} {B : Nat} {v : Value} {l : List Lex} (h : OwnL w B v l) : Lexs w v (l.map toI) := by
  have h' := h
  have hm : (l.map toI).length = l.length := List.length_map _
  rcases h.2 with ⟨rfl, h0⟩ | ⟨g, cap, cur, rfl, hb, hg, hcap, hrest⟩
  · exact ⟨none, 0, by rw [hm, h0], by omega, fun h1 => by omega⟩
  · refine ⟨_, _, by rw [hm], by rw [hm]; exact hcap, fun _ => ⟨g, 0, rfl, (Array.getElem?_eq_some_iff.1 hg).1, by rw [hm]; exact hcap, fun j y hj => ?_⟩⟩
    rw [List.getElem?_map] at hj
    obtain ⟨x, hx, rfl⟩ := Option.map_eq_some_iff.1 hj
    have hl := lexsC_at l j x hx
    have hlt : j < l.length := (List.getElem?_eq_some_iff.1 hx).1
    simp only [Nat.zero_add]
    exact ⟨(h'.cellAt _ (by omega)).trans hl.1, (h'.cellAt _ (by omega)).trans hl.2.1, (h'.cellAt _ (by omega)).trans hl.2.2.1, (h'.cellAt _ (by omega)).trans hl.2.2.2⟩
end Go.Proofs.Ytdpnmlgadieamaa.Lx
