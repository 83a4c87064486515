/-
  Plain mathematics of layer 4: the pieces of a string between full stops; identifiers.
-/
import Derived.Test.YthfchgifkalfdaaIdRName
import Derived.Lib.OthersKept
namespace Go.Proofs.Ythfchgifkalfdaa.Id
open Go.RowKit

/-- The pieces of a list that ends with a full stop, behind what has been gathered. -/
def cutF : List UInt8 → List UInt8 → List (List UInt8)
  | _, [] => []
  | cur, c :: l => if c = 46 then cur :: cutF [] l else cutF (cur ++ [c]) l
def toB (l : List UInt8) : ByteArray := ⟨l.toArray⟩
theorem toB_data (s : ByteArray) : toB s.data.toList = s := Lib.mk_data s
theorem data_toB (l : List UInt8) : (toB l).data.toList = l := rfl
/-- The string with a full stop behind it. -/
def dotL (s : ByteArray) : List UInt8 := s.data.toList ++ [46]
def cuts (s : ByteArray) : List ByteArray := (cutF [] (dotL s)).map toB
def idOk (s : ByteArray) : Bool := decide (s.size ≤ 64) && decide ((cuts s).length ≤ 8) && (cuts s).all nameS
def splL (s : ByteArray) : List ByteArray := if idOk s = true then cuts s else []
def splE (s : ByteArray) : Int := if idOk s = true then 0 else 6

/-- What has been gathered from bg to pos. -/
def seg (T : List UInt8) (bg pos : Nat) : List UInt8 := (T.drop bg).take (pos - bg)
theorem seg_self (T : List UInt8) (p : Nat) : seg T p p = [] := by unfold seg; simp
theorem seg_snoc (T : List UInt8) (bg pos : Nat) (h : bg ≤ pos) (hp : pos < T.length) : seg T bg (pos + 1) = seg T bg pos ++ [T[pos]] := by
  unfold seg
  rw [show pos + 1 - bg = (pos - bg) + 1 by omega, List.take_succ_eq_append_getElem (by rw [List.length_drop]; omega)]
  congr 2
  rw [List.getElem_drop]
  congr 1
  omega
theorem cut_skip (T : List UInt8) (bg pos : Nat) (h : bg ≤ pos) (hp : pos < T.length) (hc : T[pos] ≠ 46) : cutF (seg T bg pos) (T.drop pos) = cutF (seg T bg (pos + 1)) (T.drop (pos + 1)) := by
  rw [List.drop_eq_getElem_cons hp, cutF, if_neg hc, seg_snoc T bg pos h hp]
theorem cut_dot (T : List UInt8) (bg pos : Nat) (hp : pos < T.length) (hc : T[pos] = 46) : cutF (seg T bg pos) (T.drop pos) = seg T bg pos :: cutF (seg T (pos + 1) (pos + 1)) (T.drop (pos + 1)) := by
  rw [List.drop_eq_getElem_cons hp, cutF, if_pos hc, seg_self]
theorem cut_skips (T : List UInt8) (bg pos : Nat) (h : bg ≤ pos) : ∀ K, pos + K ≤ T.length → (∀ j (hj : j < T.length), pos ≤ j → j < pos + K → T[j] ≠ 46) → cutF (seg T bg pos) (T.drop pos) = cutF (seg T bg (pos + K)) (T.drop (pos + K)) := by
  intro K
  induction K with
  | zero => intro _ _; rfl
  | succ K ih =>
    intro hl hn
    rw [ih (by omega) (fun j hj h1 h2 => hn j hj h1 (by omega)), cut_skip T bg (pos + K) (by omega) (by omega) (hn _ _ (by omega) (by omega))]
    rfl
theorem dot_length (s : ByteArray) : (dotL s).length = s.size + 1 := by unfold dotL; rw [List.length_append, len_data]; rfl
theorem dot_at (s : ByteArray) (j : Nat) (h : j < s.size) (h' : j < (dotL s).length) : (dotL s)[j] = s[j] := by
  have hh : j < (s.data.toList ++ [46]).length := h'
  show (s.data.toList ++ [46])[j]'hh = s[j]
  rw [List.getElem_append_left (by rw [len_data]; exact h)]; rfl
theorem dot_end (s : ByteArray) (h' : s.size < (dotL s).length) : (dotL s)[s.size] = 46 := by
  have hh : s.size < (s.data.toList ++ [46]).length := h'
  show (s.data.toList ++ [46])[s.size]'hh = 46
  rw [List.getElem_append_right (by rw [len_data]; exact Nat.le_refl _)]
  simp
theorem seg_extract (s : ByteArray) (bg pos : Nat) (h : pos ≤ s.size) : toB (seg (dotL s) bg pos) = s.extract bg pos := by
  rw [Lib.extract_eq]
  unfold toB seg dotL
  congr 2
  by_cases hb : bg ≤ s.size
  · rw [List.drop_append_of_le_length (by rw [len_data]; exact hb), List.take_append_of_le_length (by rw [List.length_drop, len_data]; omega)]
  · rw [show pos - bg = 0 by omega]; simp
/-- The pieces that were found, and the rest of the string. -/
def CutInv (s : ByteArray) (done : List ByteArray) (bg pos : Nat) : Prop :=
  bg ≤ pos ∧ pos ≤ s.size + 1 ∧ cuts s = done ++ (cutF (seg (dotL s) bg pos) ((dotL s).drop pos)).map toB
theorem CutInv.start (s : ByteArray) : CutInv s [] 0 0 := by
  refine ⟨Nat.le_refl _, Nat.zero_le _, ?_⟩
  rw [seg_self]; rfl
theorem CutInv.skip {s : ByteArray} {done : List ByteArray} {bg pos K : Nat} (h : CutInv s done bg pos) (hl : pos + K ≤ s.size) (hn : ∀ j (hj : j < s.size), pos ≤ j → j < pos + K → s[j] ≠ 46) : CutInv s done bg (pos + K) := by
  obtain ⟨h1, h2, h3⟩ := h
  refine ⟨by omega, by omega, ?_⟩
  rw [h3, cut_skips (dotL s) bg pos h1 K (by rw [dot_length]; omega) (fun j hj a b => by rw [dot_at s j (by omega) hj]; exact hn j (by omega) a b)]
theorem CutInv.dot {s : ByteArray} {done : List ByteArray} {bg pos : Nat} (h : CutInv s done bg pos) (hp : pos < s.size + 1) (hc : ∀ (hj : pos < s.size), s[pos] = 46) :
    CutInv s (done ++ [s.extract bg pos]) (pos + 1) (pos + 1) ∧ (∃ rest, cuts s = done ++ s.extract bg pos :: rest) := by
  obtain ⟨h1, h2, h3⟩ := h
  have hl : pos < (dotL s).length := by rw [dot_length]; exact hp
  have e : (dotL s)[pos] = 46 := by
    by_cases hj : pos < s.size
    · rw [dot_at s pos hj hl]; exact hc hj
    · obtain rfl : pos = s.size := by omega
      exact dot_end s hl
  rw [cut_dot (dotL s) bg pos hl e, List.map_cons, seg_extract s bg pos (by omega)] at h3
  exact ⟨⟨Nat.le_refl _, by omega, by rw [h3, List.append_assoc]; rfl⟩, ⟨_, h3⟩⟩
theorem CutInv.last {s : ByteArray} {done : List ByteArray} {bg pos : Nat} (h : CutInv s done bg pos) (hp : s.size + 1 ≤ pos) : cuts s = done := by
  obtain ⟨h1, h2, h3⟩ := h
  rw [List.drop_eq_nil_of_le (by rw [dot_length]; exact hp)] at h3
  rw [h3]
  simp [cutF]
theorem cuts_le (s : ByteArray) : (cuts s).length ≤ s.size + 1 := by
  have : ∀ (l cur : List UInt8), (cutF cur l).length ≤ l.length := by
    intro l
    induction l with
    | nil => intro cur; simp [cutF]
    | cons c l ih =>
      intro cur
      rw [cutF]
      split
      · have := ih []; simp; omega
      · have := ih (cur ++ [c]); simp; omega
  have h := this (dotL s) []
  rw [dot_length] at h
  unfold cuts
  rw [List.length_map]
  exact h
theorem id_long {s : ByteArray} (h : 64 < s.size) : idOk s = false := by
  unfold idOk; rw [decide_eq_false (by omega : ¬ s.size ≤ 64)]; rfl
theorem id_many {s : ByteArray} {done : List ByteArray} {x : ByteArray} (h : ∃ rest, cuts s = done ++ x :: rest) (hd : done.length = 8) : idOk s = false := by
  obtain ⟨r, h⟩ := h
  unfold idOk
  rw [decide_eq_false (by rw [h, List.length_append, List.length_cons]; omega : ¬ (cuts s).length ≤ 8), Bool.and_false]; rfl
theorem id_name {s : ByteArray} {done : List ByteArray} {x : ByteArray} (h : ∃ rest, cuts s = done ++ x :: rest) (hd : nameS x = false) : idOk s = false := by
  obtain ⟨r, h⟩ := h
  unfold idOk
  rw [show (cuts s).all nameS = false by rw [h, List.all_append, List.all_cons, hd, Bool.false_and, Bool.and_false], Bool.and_false]
theorem id_good {s : ByteArray} {done : List ByteArray} (h : cuts s = done) (h1 : s.size ≤ 64) (h2 : done.length ≤ 8) (h3 : done.all nameS = true) : idOk s = true := by
  unfold idOk
  rw [h, h3, decide_eq_true h1, decide_eq_true h2]; rfl
theorem spl_no {s : ByteArray} (h : idOk s = false) : splL s = [] ∧ splE s = 6 := by
  unfold splL splE; rw [h]; exact ⟨rfl, rfl⟩
theorem spl_ok {s : ByteArray} (h : idOk s = true) : splL s = cuts s ∧ splE s = 0 := by
  unfold splL splE; rw [h]; exact ⟨rfl, rfl⟩

/-! ### Memory of the call's own through a range over a string -/
theorem own_iterAt {w : World} {B e size n : Nat} {v : Value} {xs : List Value} {k : Nat} {s : ByteArray} {pos : Nat} (h : w.ownsRow B e size v n xs) (hk : w.heap[k]? = some (.stringIter s pos)) (pos' : Nat) : (w.iterAt k s pos').ownsRow B e size v n xs := by
  refine ⟨h.1, ?_⟩
  rcases h.2 with h0 | ⟨g, cap, cur, hv, hb, hg, rest⟩
  · exact .inl h0
  · refine .inr ⟨g, cap, cur, hv, hb, ?_, rest⟩
    rw [Lib.iterAt_other _ _ _ _ _ (fun e => by subst e; rw [hk] at hg; cases hg)]
    exact hg
theorem own_ne_iter {w : World} {B e size n : Nat} {v : Value} {xs : List Value} {k : Nat} {s : ByteArray} {pos : Nat} (h : w.ownsRow B e size v n xs) (hk : w.heap[k]? = some (.stringIter s pos)) : some k ≠ v.ownBlock := by
  rcases h.2 with ⟨rfl, _⟩ | ⟨g, cap, cur, rfl, hb, hg, rest⟩
  · simp [Value.ownBlock]
  · intro e
    simp only [Value.ownBlock, Option.some.injEq] at e
    subst e
    rw [hk] at hg
    cases hg
theorem own_below {W W' : World} {B e size n : Nat} {v : Value} {xs : List Value} (h : W.ownsRow B e size v n xs) (hb : Below W.heap.size W W') : W'.ownsRow B e size v n xs := by
  refine ⟨h.1, ?_⟩
  rcases h.2 with h0 | ⟨g, cap, cur, hv, hg, hh, rest⟩
  · exact .inl h0
  · exact .inr ⟨g, cap, cur, hv, hg, (hb.block _ (Array.getElem?_eq_some_iff.1 hh).1).trans hh, rest⟩
theorem iterPos_of {w : World} {k : Nat} {s : ByteArray} {p : Nat} (h : w.heap[k]? = some (.stringIter s p)) : w.iterPos k = p := by simp [World.iterPos, h]
theorem iter_lt {w : World} {k : Nat} {s : ByteArray} {p : Nat} (h : w.heap[k]? = some (.stringIter s p)) : k < w.heap.size := (Array.getElem?_eq_some_iff.1 h).1
end Go.Proofs.Ythfchgifkalfdaa.Id
