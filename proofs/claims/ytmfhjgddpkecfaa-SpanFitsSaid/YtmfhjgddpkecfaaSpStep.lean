/-
  Normal step by step (layer 8): insertion, shifting, joining; how long the lists grow.
-/
import Derived.Test.YtmfhjgddpkecfaaSpFit
namespace Go.Proofs.Ytmfhjgddpkecfaa.Sp

theorem drop_at {l : List Spn} {k : Nat} {y : Spn} (h : l[k]? = some y) : l.drop k = y :: l.drop (k + 1) := by
  obtain ⟨hlt, rfl⟩ := List.getElem?_eq_some_iff.1 h
  exact List.drop_eq_getElem_cons hlt
theorem take_at {l : List Spn} {k : Nat} {y : Spn} (h : l[k]? = some y) : l.take (k + 1) = l.take k ++ [y] := by
  rw [List.take_add_one, h]; rfl
theorem ins_next {x y : Spn} {acc : List Spn} {k : Nat} (hk : acc[k]? = some y) (h : y.1 < x.1) (e : ins x acc = acc.take k ++ ins x (acc.drop k)) : ins x acc = acc.take (k + 1) ++ ins x (acc.drop (k + 1)) := by
  rw [e, drop_at hk, ins, if_pos h, take_at hk, List.append_assoc]; rfl
theorem ins_stop {x y : Spn} {acc : List Spn} {k : Nat} (hk : acc[k]? = some y) (h : ¬ y.1 < x.1) (e : ins x acc = acc.take k ++ ins x (acc.drop k)) : ins x acc = acc.take k ++ x :: acc.drop k := by
  rw [e, drop_at hk, ins, if_neg h]
theorem ins_end {x : Spn} {acc : List Spn} (e : ins x acc = acc.take acc.length ++ ins x (acc.drop acc.length)) : ins x acc = acc.take acc.length ++ x :: acc.drop acc.length := by
  rw [e, List.drop_length, ins]
/-- The list while its elements are shifted: any y stands at the place. -/
def shL (acc : List Spn) (j : Nat) (y : Spn) : List Spn := acc.take j ++ y :: acc.drop j
theorem sh_len (acc : List Spn) {j : Nat} (y : Spn) (h : j ≤ acc.length) : (shL acc j y).length = acc.length + 1 := by
  unfold shL
  rw [List.length_append, List.length_cons, List.length_take, List.length_drop]; omega
theorem sh_start (acc : List Spn) (x : Spn) : acc ++ [x] = shL acc acc.length x := by
  unfold shL
  rw [List.take_length, List.drop_length]
theorem sh_get {acc : List Spn} {j : Nat} {y z : Spn} (h : j + 1 ≤ acc.length) (hz : acc[j]? = some z) : (shL acc (j + 1) y)[j]? = some z := by
  unfold shL
  rw [List.getElem?_append_left (by rw [List.length_take]; omega), List.getElem?_take, if_pos (by omega), hz]
theorem sh_set (acc : List Spn) {j : Nat} (y x : Spn) (h : j ≤ acc.length) : (shL acc j y).set j x = shL acc j x := by
  unfold shL
  have hl : (acc.take j).length = j := by rw [List.length_take]; omega
  rw [List.set_append_right _ _ (by omega), hl, Nat.sub_self, List.set_cons_zero]
theorem sh_step {acc : List Spn} {j : Nat} {y z : Spn} (h : j + 1 ≤ acc.length) (hz : acc[j]? = some z) : (shL acc (j + 1) y).set (j + 1) z = shL acc j z := by
  rw [sh_set acc y z h]
  unfold shL
  rw [take_at hz, drop_at hz, List.append_assoc]; rfl
/-- What joining makes of the spans that are joined so far and of the rest. -/
def joF (o r : List Spn) : List Spn := match o.reverse with
  | [] => joinL r
  | c :: d => d.reverse ++ jnA c r
theorem jo_snoc (d : List Spn) (c : Spn) (r : List Spn) : joF (d ++ [c]) r = d ++ jnA c r := by unfold joF; simp
theorem jo_start (x : Spn) (r : List Spn) : joF [] (x :: r) = joF [x] r := rfl
theorem jo_merge {d r : List Spn} {c x : Spn} (h : x.1 ≤ c.2) : joF (d ++ [c]) (x :: r) = joF (d ++ [(c.1, max c.2 x.2)]) r := by rw [jo_snoc, jo_snoc, jnA, if_pos h]
theorem jo_next {d r : List Spn} {c x : Spn} (h : ¬ x.1 ≤ c.2) : joF (d ++ [c]) (x :: r) = joF (d ++ [c] ++ [x]) r := by rw [jo_snoc, jo_snoc, jnA, if_neg h, List.append_assoc]; rfl
theorem jo_end (o : List Spn) : joF o [] = o := by
  rcases List.eq_nil_or_concat o with rfl | ⟨d, c, rfl⟩
  · rfl
  · rw [List.concat_eq_append, jo_snoc]; rfl
theorem set_last (d : List Spn) (c z : Spn) : (d ++ [c]).set d.length z = d ++ [z] := by
  rw [List.set_append_right _ _ (Nat.le_refl _), Nat.sub_self, List.set_cons_zero]
theorem get_last (d : List Spn) (c : Spn) : (d ++ [c])[d.length]? = some c := by
  rw [List.getElem?_append_right (Nat.le_refl _), Nat.sub_self]; rfl
theorem srt_skip {acc l : List Spn} {j : Nat} {x : Spn} {S : List Spn} (hj : l[j]? = some x) (h : x.2 ≤ x.1) (e : srtF acc (l.drop j) = S) : srtF acc (l.drop (j + 1)) = S := by
  rw [drop_at hj, srtF, if_pos h] at e; exact e
theorem srt_ins {acc l : List Spn} {j : Nat} {x : Spn} {S : List Spn} (hj : l[j]? = some x) (h : ¬ x.2 ≤ x.1) (e : srtF acc (l.drop j) = S) : srtF (ins x acc) (l.drop (j + 1)) = S := by
  rw [drop_at hj, srtF, if_neg h] at e; exact e
theorem srt_done {acc l : List Spn} {S : List Spn} (e : srtF acc (l.drop l.length) = S) : acc = S := by
  rw [List.drop_length, srtF] at e; exact e
/-! ### How many spans there are -/
def neN (l : List Spn) : Nat := (l.filter fun x => decide (x.1 < x.2)).length
theorem srt_ne : ∀ (l acc : List Spn), (srtF acc l).length = acc.length + neN l
  | [], acc => rfl
  | x :: l, acc => by
    rw [srtF]
    unfold neN
    split
    · rw [srt_ne l acc, List.filter_cons_of_neg (by simp; omega)]; rfl
    · rw [srt_ne l (ins x acc), ins_len, List.filter_cons_of_pos (by simp; omega), List.length_cons]
      show _ + 1 + neN l = _ + (neN l + 1); omega
theorem jn_len : ∀ (r : List Spn) (c : Spn), (jnA c r).length ≤ r.length + 1
  | [], _ => Nat.le_refl _
  | x :: r, c => by
    rw [jnA]
    split
    · have := jn_len r (c.1, max c.2 x.2); rw [List.length_cons]; omega
    · have := jn_len r x; rw [List.length_cons, List.length_cons]; omega
theorem norm_ne (l : List Spn) : (normL l).length ≤ neN l := by
  have h := srt_ne l []
  unfold normL
  rw [List.length_nil, Nat.zero_add] at h
  rw [← h]
  cases srtF [] l with
  | nil => exact Nat.le_refl _
  | cons x r => have := jn_len r x; rw [List.length_cons]; exact this
theorem ne_app (a b : List Spn) : neN (a ++ b) = neN a + neN b := by unfold neN; rw [List.filter_append, List.length_append]
theorem ne_two (x y : Spn) : neN [x, y] = (if x.1 < x.2 then 1 else 0) + (if y.1 < y.2 then 1 else 0) := by
  unfold neN
  by_cases h1 : x.1 < x.2 <;> by_cases h2 : y.1 < y.2 <;> simp [h1, h2]
theorem cut_ne : ∀ (l : List Spn) (y : Spn), y.1 < y.2 → Canon l → neN (cutL l y) ≤ l.length + 1 ∧ (∀ x r, l = x :: r → y.1 ≤ x.1 → neN (cutL l y) ≤ l.length)
  | [], _, _, _ => ⟨Nat.zero_le _, fun x r h => by cases h⟩
  | x :: r, y, hy, h => by
    have hx := canon_head h
    obtain ⟨i1, i2⟩ := cut_ne r y hy (canon_tail h)
    have e : neN (cutL (x :: r) y) = neN [(x.1, min x.2 y.1), (max x.1 y.2, x.2)] + neN (cutL r y) := by
      rw [← ne_app]; rfl
    rw [e, ne_two, List.length_cons]
    show (if x.1 < min x.2 y.1 then 1 else 0) + (if max x.1 y.2 < x.2 then 1 else 0) + neN (cutL r y) ≤ _ ∧ _
    have ht : y.1 < x.2 → neN (cutL r y) ≤ r.length := fun hlt => by
      cases r with
      | nil => exact Nat.le_refl _
      | cons z q => exact i2 z q rfl (by have := h.2.1; omega)
    refine ⟨?_, fun x' r' hr hle => ?_⟩
    · by_cases hlt : y.1 < x.2
      · have := ht hlt
        split <;> split <;> omega
      · rw [if_neg (show ¬ max x.1 y.2 < x.2 by omega)]
        split <;> omega
    · cases hr
      show (if x.1 < min x.2 y.1 then 1 else 0) + (if max x.1 y.2 < x.2 then 1 else 0) + neN (cutL r y) ≤ _
      rw [if_neg (show ¬ x.1 < min x.2 y.1 by omega)]
      by_cases hlt : y.1 < x.2
      · have := ht hlt
        split <;> omega
      · rw [if_neg (show ¬ max x.1 y.2 < x.2 by omega)]
        omega
theorem cut_len {l : List Spn} {y : Spn} (hy : y.1 < y.2) (h : Canon l) : (normL (cutL l y)).length ≤ l.length + 1 := Nat.le_trans (norm_ne _) (cut_ne l y hy h).1
theorem minF_len : ∀ (b l : List Spn), Canon l → (minF l b).length ≤ l.length + b.length
  | [], _, _ => Nat.le_refl _
  | y :: b, l, h => by
    rw [minF, List.length_cons]
    split
    · have := minF_len b l h; omega
    · have := minF_len b _ (norm_canon (cutL l y))
      have := cut_len (y := y) (by omega) h
      omega
theorem minus_len (a b : List Spn) : (minusL a b).length ≤ a.length + b.length := by
  have := minF_len b _ (norm_canon a)
  have := norm_len a
  unfold minusL; omega
end Go.Proofs.Ytmfhjgddpkecfaa.Sp
