/-
  Sets of integers as lists of spans (layer 8): plain mathematics.
-/
namespace Go.Proofs.Ytmfhjgddpkecfaa.Sp

abbrev Spn := Int × Int
def inS (x : Spn) (n : Int) : Prop := x.1 ≤ n ∧ n < x.2
def Mem (l : List Spn) (n : Int) : Prop := ∃ x ∈ l, inS x n
theorem mem_nil (n : Int) : ¬ Mem [] n := fun ⟨x, hx, _⟩ => by simp at hx
theorem mem_cons (x : Spn) (l : List Spn) (n : Int) : Mem (x :: l) n ↔ inS x n ∨ Mem l n := by
  constructor
  · rintro ⟨y, hy, h⟩
    rcases List.mem_cons.1 hy with rfl | hy
    · exact Or.inl h
    · exact Or.inr ⟨y, hy, h⟩
  · rintro (h | ⟨y, hy, h⟩)
    · exact ⟨x, List.mem_cons_self .., h⟩
    · exact ⟨y, List.mem_cons_of_mem _ hy, h⟩
theorem mem_app (l m : List Spn) (n : Int) : Mem (l ++ m) n ↔ Mem l n ∨ Mem m n := by
  induction l with
  | nil => exact ⟨Or.inr, fun h => h.elim (fun h => absurd h (mem_nil n)) id⟩
  | cons x l ih => rw [List.cons_append, mem_cons, mem_cons, ih, or_assoc]
theorem mem_one (x : Spn) (n : Int) : Mem [x] n ↔ inS x n := by
  rw [mem_cons]
  exact ⟨fun h => h.elim id (fun h => absurd h (mem_nil n)), Or.inl⟩
/-- The number is in one of the spans. -/
def hasB (l : List Spn) (n : Int) : Bool := l.any fun x => decide (x.1 ≤ n) && decide (n < x.2)
theorem has_iff (l : List Spn) (n : Int) : hasB l n = true ↔ Mem l n := by
  unfold hasB Mem inS
  simp
def Canon : List Spn → Prop
  | [] => True
  | [x] => x.1 < x.2
  | x :: y :: r => x.1 < x.2 ∧ x.2 < y.1 ∧ Canon (y :: r)
theorem canon_head {x : Spn} {r : List Spn} (h : Canon (x :: r)) : x.1 < x.2 := by
  cases r with
  | nil => exact h
  | cons y r => exact h.1
theorem canon_tail {x : Spn} {r : List Spn} (h : Canon (x :: r)) : Canon r := by
  cases r with
  | nil => trivial
  | cons y r => exact h.2.2
theorem canon_low : ∀ {r : List Spn} {x : Spn} {n : Int}, Canon (x :: r) → Mem r n → x.2 < n
  | [], _, n, _, h => absurd h (mem_nil n)
  | y :: r, x, n, h, hm => by
    have h1 := canon_head h.2.2
    rcases (mem_cons _ _ _).1 hm with h2 | h2
    · have := h.2.1; have := h2.1; omega
    · have := canon_low h.2.2 h2; have := h.2.1; omega
theorem canon_mem_low {r : List Spn} {x : Spn} {n : Int} (h : Canon (x :: r)) (hm : Mem (x :: r) n) : x.1 ≤ n := by
  have h1 := canon_head h
  rcases (mem_cons _ _ _).1 hm with h2 | h2
  · exact h2.1
  · have := canon_low h h2; omega
theorem canon_all : ∀ {l : List Spn}, Canon l → ∀ x ∈ l, x.1 < x.2
  | [], _, x, hx => by simp at hx
  | y :: r, h, x, hx => by
    rcases List.mem_cons.1 hx with rfl | hx
    · exact canon_head h
    · exact canon_all (canon_tail h) x hx
/-- Two lists in canonical form with the same integers are equal. -/
theorem canon_unique : ∀ {a b : List Spn}, Canon a → Canon b → (∀ n, Mem a n ↔ Mem b n) → a = b
  | [], [], _, _, _ => rfl
  | [], y :: q, _, hb, h => absurd ((h y.1).2 ((mem_cons _ _ _).2 (Or.inl ⟨Int.le_refl _, canon_head hb⟩))) (mem_nil _)
  | x :: r, [], ha, _, h => absurd ((h x.1).1 ((mem_cons _ _ _).2 (Or.inl ⟨Int.le_refl _, canon_head ha⟩))) (mem_nil _)
  | x :: r, y :: q, ha, hb, h => by
    have hx := canon_head ha
    have hy := canon_head hb
    have i1 : ∀ n, inS x n → Mem (y :: q) n := fun n hn => (h n).1 ((mem_cons _ _ _).2 (Or.inl hn))
    have i2 : ∀ n, inS y n → Mem (x :: r) n := fun n hn => (h n).2 ((mem_cons _ _ _).2 (Or.inl hn))
    have e1 : x.1 = y.1 := by
      have := canon_mem_low hb (i1 x.1 ⟨Int.le_refl _, hx⟩)
      have := canon_mem_low ha (i2 y.1 ⟨Int.le_refl _, hy⟩)
      omega
    have e2 : x.2 = y.2 := by
      rcases Int.lt_trichotomy x.2 y.2 with hlt | he | hgt
      · rcases (mem_cons _ _ _).1 (i2 x.2 ⟨by omega, hlt⟩) with h2 | h2
        · have := h2.2; omega
        · have := canon_low ha h2; omega
      · exact he
      · rcases (mem_cons _ _ _).1 (i1 y.2 ⟨by omega, hgt⟩) with h2 | h2
        · have := h2.2; omega
        · have := canon_low hb h2; omega
    have e : x = y := Prod.ext e1 e2
    subst e
    have ht : ∀ n, Mem r n ↔ Mem q n := fun n => by
      constructor
      · intro hm
        have hl := canon_low ha hm
        rcases (mem_cons _ _ _).1 ((h n).1 ((mem_cons _ _ _).2 (Or.inr hm))) with h2 | h2
        · have := h2.2; omega
        · exact h2
      · intro hm
        have hl := canon_low hb hm
        rcases (mem_cons _ _ _).1 ((h n).2 ((mem_cons _ _ _).2 (Or.inr hm))) with h2 | h2
        · have := h2.2; omega
        · exact h2
    rw [canon_unique (canon_tail ha) (canon_tail hb) ht]
theorem canon_none {a : List Spn} (h : Canon a) (hn : ∀ n, ¬ Mem a n) : a = [] := by
  cases a with
  | nil => rfl
  | cons x r => exact absurd ((mem_cons _ _ _).2 (Or.inl ⟨Int.le_refl _, canon_head h⟩)) (hn x.1)
/-- Canonical form, as the law asks for it. -/
def canonB : List Spn → Bool
  | [] => true
  | [x] => decide (x.1 < x.2)
  | x :: y :: r => decide (x.1 < x.2) && decide (x.2 < y.1) && canonB (y :: r)
theorem canonB_iff : ∀ l : List Spn, canonB l = true ↔ Canon l
  | [] => by simp [canonB, Canon]
  | [x] => by simp [canonB, Canon]
  | x :: y :: r => by
    rw [canonB, Canon, Bool.and_eq_true, Bool.and_eq_true, canonB_iff (y :: r), and_assoc]
    simp
/-! ### Normal -/
def ins (x : Spn) : List Spn → List Spn
  | [] => [x]
  | y :: r => if y.1 < x.1 then y :: ins x r else x :: y :: r
def srtF : List Spn → List Spn → List Spn
  | acc, [] => acc
  | acc, x :: r => if x.2 ≤ x.1 then srtF acc r else srtF (ins x acc) r
def jnA : Spn → List Spn → List Spn
  | c, [] => [c]
  | c, x :: r => if x.1 ≤ c.2 then jnA (c.1, max c.2 x.2) r else c :: jnA x r
def joinL : List Spn → List Spn
  | [] => []
  | x :: r => jnA x r
def normL (l : List Spn) : List Spn := joinL (srtF [] l)
def Srt (l : List Spn) : Prop := (∀ x ∈ l, x.1 < x.2) ∧ l.Pairwise (fun x y => x.1 ≤ y.1)
theorem ins_mem (x : Spn) : ∀ (l : List Spn) (y : Spn), y ∈ ins x l ↔ y = x ∨ y ∈ l
  | [], y => by simp [ins]
  | z :: l, y => by
    rw [ins]
    split
    · rw [List.mem_cons, ins_mem x l y, List.mem_cons]
      constructor
      · rintro (h | h | h)
        · exact Or.inr (Or.inl h)
        · exact Or.inl h
        · exact Or.inr (Or.inr h)
      · rintro (h | h | h)
        · exact Or.inr (Or.inl h)
        · exact Or.inl h
        · exact Or.inr (Or.inr h)
    · rw [List.mem_cons]
theorem ins_len (x : Spn) : ∀ l : List Spn, (ins x l).length = l.length + 1
  | [] => rfl
  | z :: l => by
    rw [ins]
    split
    · rw [List.length_cons, ins_len x l, List.length_cons]
    · rw [List.length_cons]
theorem ins_srt (x : Spn) (hx : x.1 < x.2) : ∀ {l : List Spn}, Srt l → Srt (ins x l)
  | [], _ => ⟨fun y hy => by rw [ins] at hy; rw [List.mem_singleton.1 hy]; exact hx, by rw [ins]; simp⟩
  | z :: l, h => by
    have hz := List.pairwise_cons.1 h.2
    have hl : Srt l := ⟨fun y hy => h.1 y (List.mem_cons_of_mem _ hy), hz.2⟩
    refine ⟨fun y hy => ?_, ?_⟩
    · rcases (ins_mem x _ y).1 hy with rfl | hy
      · exact hx
      · exact h.1 y hy
    · rw [ins]
      split
      · rename_i hlt
        refine List.pairwise_cons.2 ⟨fun y hy => ?_, (ins_srt x hx hl).2⟩
        rcases (ins_mem x l y).1 hy with rfl | hy
        · omega
        · exact hz.1 y hy
      · rename_i hge
        refine List.pairwise_cons.2 ⟨fun y hy => ?_, h.2⟩
        rcases List.mem_cons.1 hy with rfl | hy
        · omega
        · have := hz.1 y hy; omega
theorem srt_all : ∀ (l acc : List Spn), Srt acc → Srt (srtF acc l) ∧ (∀ n, Mem (srtF acc l) n ↔ Mem acc n ∨ Mem l n) ∧ (srtF acc l).length ≤ acc.length + l.length ∧ (∀ x ∈ srtF acc l, x ∈ acc ∨ x ∈ l)
  | [], acc, h => ⟨h, fun n => ⟨Or.inl, fun h => h.elim id (fun h => absurd h (mem_nil n))⟩, Nat.le_refl _, fun x hx => Or.inl hx⟩
  | x :: l, acc, h => by
    rw [srtF]
    split
    · rename_i he
      obtain ⟨h1, h2, h3, h4⟩ := srt_all l acc h
      refine ⟨h1, fun n => ?_, by rw [List.length_cons]; omega, fun y hy => (h4 y hy).imp id (List.mem_cons_of_mem _)⟩
      rw [h2, mem_cons]
      refine ⟨fun h => h.imp id Or.inr, fun h => h.imp id fun h => h.elim (fun h => ?_) id⟩
      have := h.1; have := h.2; omega
    · rename_i he
      obtain ⟨h1, h2, h3, h4⟩ := srt_all l (ins x acc) (ins_srt x (by omega) h)
      rw [ins_len] at h3
      refine ⟨h1, fun n => ?_, by rw [List.length_cons]; omega, fun y hy => ?_⟩
      · have hi : Mem (ins x acc) n ↔ inS x n ∨ Mem acc n := by
          constructor
          · rintro ⟨y, hy, hn⟩
            rcases (ins_mem x acc y).1 hy with rfl | hy
            · exact Or.inl hn
            · exact Or.inr ⟨y, hy, hn⟩
          · rintro (hn | ⟨y, hy, hn⟩)
            · exact ⟨x, (ins_mem x acc x).2 (Or.inl rfl), hn⟩
            · exact ⟨y, (ins_mem x acc y).2 (Or.inr hy), hn⟩
        rw [h2, hi, mem_cons, or_assoc]
        exact ⟨fun h => h.elim (fun h => Or.inr (Or.inl h)) (fun h => h.imp id Or.inr), fun h => h.elim (fun h => Or.inr (Or.inl h)) (fun h => h.imp id Or.inr)⟩
      · rcases h4 y hy with h5 | h5
        · rcases (ins_mem x acc y).1 h5 with rfl | h6
          · exact Or.inr (List.mem_cons_self ..)
          · exact Or.inl h6
        · exact Or.inr (List.mem_cons_of_mem _ h5)
theorem jn_all : ∀ (r : List Spn) (c : Spn), c.1 < c.2 → Srt r → (∀ x ∈ r, c.1 ≤ x.1) → (∃ d q, jnA c r = d :: q ∧ d.1 = c.1) ∧ Canon (jnA c r) ∧ (∀ n, Mem (jnA c r) n ↔ inS c n ∨ Mem r n) ∧ (jnA c r).length ≤ r.length + 1
  | [], c, hc, _, _ => ⟨⟨c, [], rfl, rfl⟩, hc, fun n => mem_cons _ _ _, Nat.le_refl _⟩
  | x :: r, c, hc, hs, hl => by
    have hp := List.pairwise_cons.1 hs.2
    have hr : Srt r := ⟨fun y hy => hs.1 y (List.mem_cons_of_mem _ hy), hp.2⟩
    have hx := hs.1 x (List.mem_cons_self ..)
    have hcx := hl x (List.mem_cons_self ..)
    rw [jnA]
    split
    · rename_i hle
      obtain ⟨⟨d, q, e1, e2⟩, h2, h3, h4⟩ := jn_all r (c.1, max c.2 x.2) (by show c.1 < max c.2 x.2; omega) hr (fun y hy => hl y (List.mem_cons_of_mem _ hy))
      refine ⟨⟨d, q, e1, e2⟩, h2, fun n => ?_, by rw [List.length_cons]; omega⟩
      rw [h3, mem_cons, ← or_assoc]
      have : inS (c.1, max c.2 x.2) n ↔ inS c n ∨ inS x n := by
        unfold inS
        show c.1 ≤ n ∧ n < max c.2 x.2 ↔ _
        omega
      rw [this]
    · rename_i hgt
      obtain ⟨⟨d, q, e1, e2⟩, h2, h3, h4⟩ := jn_all r x hx hr hp.1
      refine ⟨⟨c, _, rfl, rfl⟩, ?_, fun n => ?_, by rw [List.length_cons, List.length_cons]; omega⟩
      · rw [e1] at h2 ⊢
        exact ⟨hc, by rw [e2]; omega, h2⟩
      · rw [mem_cons, h3, mem_cons]
theorem srt_nil : Srt [] := ⟨fun x hx => by simp at hx, List.Pairwise.nil⟩
theorem norm_all (l : List Spn) : Canon (normL l) ∧ (∀ n, Mem (normL l) n ↔ Mem l n) ∧ (normL l).length ≤ l.length := by
  obtain ⟨h1, h2, h3, _⟩ := srt_all l [] srt_nil
  unfold normL
  generalize srtF [] l = s at h1 h2 h3
  have h2 : ∀ n, Mem s n ↔ Mem l n := fun n => (h2 n).trans ⟨fun h => h.elim (fun h => absurd h (mem_nil n)) id, Or.inr⟩
  rw [List.length_nil, Nat.zero_add] at h3
  cases s with
  | nil => exact ⟨trivial, h2, Nat.zero_le _⟩
  | cons x r =>
    have hp := List.pairwise_cons.1 h1.2
    obtain ⟨_, k2, k3, k4⟩ := jn_all r x (h1.1 x (List.mem_cons_self ..)) ⟨fun y hy => h1.1 y (List.mem_cons_of_mem _ hy), hp.2⟩ hp.1
    refine ⟨k2, fun n => ?_, Nat.le_trans k4 h3⟩
    rw [← h2, mem_cons]; exact k3 n
theorem norm_canon (l : List Spn) : Canon (normL l) := (norm_all l).1
theorem norm_mem (l : List Spn) (n : Int) : Mem (normL l) n ↔ Mem l n := (norm_all l).2.1 n
theorem norm_len (l : List Spn) : (normL l).length ≤ l.length := (norm_all l).2.2
/-- What is in canonical form and has the integers of l is what Normal returns of l. -/
theorem norm_is {a l : List Spn} (h : Canon a) (hm : ∀ n, Mem a n ↔ Mem l n) : a = normL l := canon_unique h (norm_canon l) fun n => (hm n).trans (norm_mem l n).symm
theorem norm_same {a : List Spn} (h : Canon a) : normL a = a := (norm_is h fun _ => Iff.rfl).symm
/-! ### Sets -/
def unionL (a b : List Spn) : List Spn := normL (a ++ b)
def crossL (a b : List Spn) : List Spn := a.flatMap fun x => b.map fun y => (max x.1 y.1, min x.2 y.2)
def interL (a b : List Spn) : List Spn := normL (crossL a b)
def cutL (l : List Spn) (y : Spn) : List Spn := l.flatMap fun x => [(x.1, min x.2 y.1), (max x.1 y.2, x.2)]
def minF : List Spn → List Spn → List Spn
  | l, [] => l
  | l, y :: r => if y.2 ≤ y.1 then minF l r else minF (normL (cutL l y)) r
def minusL (a b : List Spn) : List Spn := minF (normL a) b
theorem union_mem (a b : List Spn) (n : Int) : Mem (unionL a b) n ↔ Mem a n ∨ Mem b n := (norm_mem _ n).trans (mem_app a b n)
theorem cross_mem (a b : List Spn) (n : Int) : Mem (crossL a b) n ↔ Mem a n ∧ Mem b n := by
  unfold crossL Mem inS
  constructor
  · rintro ⟨z, hz, h1, h2⟩
    obtain ⟨x, hx, hz⟩ := List.mem_flatMap.1 hz
    obtain ⟨y, hy, rfl⟩ := List.mem_map.1 hz
    have h1 : max x.1 y.1 ≤ n := h1
    have h2 : n < min x.2 y.2 := h2
    exact ⟨⟨x, hx, by omega, by omega⟩, ⟨y, hy, by omega, by omega⟩⟩
  · rintro ⟨⟨x, hx, h1, h2⟩, ⟨y, hy, h3, h4⟩⟩
    exact ⟨_, List.mem_flatMap.2 ⟨x, hx, List.mem_map.2 ⟨y, hy, rfl⟩⟩, by show max x.1 y.1 ≤ n; omega, by show n < min x.2 y.2; omega⟩
theorem inter_mem (a b : List Spn) (n : Int) : Mem (interL a b) n ↔ Mem a n ∧ Mem b n := (norm_mem _ n).trans (cross_mem a b n)
theorem cut_mem (l : List Spn) (y : Spn) (n : Int) (_hy : y.1 < y.2) : Mem (cutL l y) n ↔ Mem l n ∧ ¬ inS y n := by
  unfold cutL Mem inS
  constructor
  · rintro ⟨z, hz, h1, h2⟩
    obtain ⟨x, hx, hz⟩ := List.mem_flatMap.1 hz
    rcases List.mem_cons.1 hz with rfl | hz
    · have h1 : x.1 ≤ n := h1
      have h2 : n < min x.2 y.1 := h2
      exact ⟨⟨x, hx, h1, by omega⟩, by omega⟩
    · rw [List.mem_singleton.1 hz] at h1 h2
      have h1 : max x.1 y.2 ≤ n := h1
      have h2 : n < x.2 := h2
      exact ⟨⟨x, hx, by omega, h2⟩, by omega⟩
  · rintro ⟨⟨x, hx, h1, h2⟩, h3⟩
    by_cases hc : n < y.1
    · exact ⟨_, List.mem_flatMap.2 ⟨x, hx, List.mem_cons_self ..⟩, h1, by show n < min x.2 y.1; omega⟩
    · exact ⟨_, List.mem_flatMap.2 ⟨x, hx, List.mem_cons_of_mem _ (List.mem_cons_self ..)⟩, by show max x.1 y.2 ≤ n; omega, h2⟩
theorem minF_all : ∀ (b l : List Spn), Canon l → Canon (minF l b) ∧ ∀ n, Mem (minF l b) n ↔ Mem l n ∧ ¬ Mem b n
  | [], l, h => ⟨h, fun n => ⟨fun h => ⟨h, mem_nil n⟩, And.left⟩⟩
  | y :: b, l, h => by
    rw [minF]
    split
    · rename_i he
      obtain ⟨h1, h2⟩ := minF_all b l h
      refine ⟨h1, fun n => ?_⟩
      rw [h2, mem_cons]
      refine and_congr_right fun _ => not_congr ⟨Or.inr, fun h => h.elim (fun h => ?_) id⟩
      have := h.1; have := h.2; omega
    · rename_i he
      obtain ⟨h1, h2⟩ := minF_all b (normL (cutL l y)) (norm_canon _)
      refine ⟨h1, fun n => ?_⟩
      rw [h2, norm_mem, cut_mem l y n (by omega), mem_cons, not_or, and_assoc]
theorem minus_canon (a b : List Spn) : Canon (minusL a b) := (minF_all b _ (norm_canon a)).1
theorem minus_mem (a b : List Spn) (n : Int) : Mem (minusL a b) n ↔ Mem a n ∧ ¬ Mem b n := by
  unfold minusL
  rw [(minF_all b _ (norm_canon a)).2, norm_mem]
theorem union_canon (a b : List Spn) : Canon (unionL a b) := norm_canon _
theorem inter_canon (a b : List Spn) : Canon (interL a b) := norm_canon _
end Go.Proofs.Ytmfhjgddpkecfaa.Sp
