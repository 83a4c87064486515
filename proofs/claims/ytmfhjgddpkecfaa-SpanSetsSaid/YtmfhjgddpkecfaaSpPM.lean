/-
  What the program of layer 8 computes (merging, the common part, gaps, the first fit) is what the definitions say: plain mathematics.
-/
import Derived.Test.YtmfhjgddpkecfaaSpStep
namespace Go.Proofs.Ytmfhjgddpkecfaa.Sp

theorem canon_srt : ∀ {l : List Spn}, Canon l → Srt l
  | [], _ => srt_nil
  | x :: r, h => ⟨canon_all h, List.pairwise_cons.2 ⟨fun y hy => by
      have h1 := canon_low h (n := y.1) ⟨y, hy, Int.le_refl _, canon_all (canon_tail h) y hy⟩
      have := canon_head h
      omega, (canon_srt (canon_tail h)).2⟩⟩
theorem canon_cons {x : Spn} {r : List Spn} (hx : x.1 < x.2) (hr : Canon r) (h : ∀ n, Mem r n → x.2 < n) : Canon (x :: r) := by
  cases r with
  | nil => exact hx
  | cons y r => exact ⟨hx, h y.1 ((mem_cons _ _ _).2 (Or.inl ⟨Int.le_refl _, canon_head hr⟩)), hr⟩
theorem canon_end : ∀ {l : List Spn}, Canon l → ∀ p ∈ l, ¬ Mem l p.2
  | [], _, p, hp => by simp at hp
  | x :: r, h, p, hp => fun hm => by
    have hx := canon_head h
    rcases List.mem_cons.1 hp with rfl | hp'
    · rcases (mem_cons _ _ _).1 hm with h1 | h1
      · have := h1.2; omega
      · have := canon_low h h1; omega
    · have hpp := canon_all (canon_tail h) p hp'
      have hl := canon_low h (n := p.1) ⟨p, hp', Int.le_refl _, hpp⟩
      rcases (mem_cons _ _ _).1 hm with h1 | h1
      · have := h1.2; omega
      · exact canon_end (canon_tail h) p hp' h1
/-! ### Merging -/
def mgL : List Spn → List Spn → List Spn
  | [], b => b
  | x :: a, [] => x :: a
  | x :: a, y :: b => if x.1 ≤ y.1 then x :: mgL a (y :: b) else y :: mgL (x :: a) b
termination_by a b => a.length + b.length
theorem mg_nil (b : List Spn) : mgL [] b = b := by rw [mgL]
theorem mg_nil2 (a : List Spn) : mgL a [] = a := by
  cases a with
  | nil => rw [mgL]
  | cons x a => rw [mgL]
theorem mg_le {x y : Spn} (a b : List Spn) (h : x.1 ≤ y.1) : mgL (x :: a) (y :: b) = x :: mgL a (y :: b) := by rw [mgL, if_pos h]
theorem mg_gt {x y : Spn} (a b : List Spn) (h : ¬ x.1 ≤ y.1) : mgL (x :: a) (y :: b) = y :: mgL (x :: a) b := by rw [mgL, if_neg h]
theorem mg_all : ∀ (a b : List Spn), Srt a → Srt b → Srt (mgL a b) ∧ ∀ z, z ∈ mgL a b ↔ z ∈ a ∨ z ∈ b
  | [], b, _, hb => by
    rw [mg_nil]
    exact ⟨hb, fun z => ⟨Or.inr, fun h => h.elim (fun h => by simp at h) id⟩⟩
  | x :: a, [], ha, _ => by
    rw [mg_nil2]
    exact ⟨ha, fun z => ⟨Or.inl, fun h => h.elim id (fun h => by simp at h)⟩⟩
  | x :: a, y :: b, ha, hb => by
    have pa := List.pairwise_cons.1 ha.2
    have pb := List.pairwise_cons.1 hb.2
    have ta : Srt a := ⟨fun z hz => ha.1 z (List.mem_cons_of_mem _ hz), pa.2⟩
    have tb : Srt b := ⟨fun z hz => hb.1 z (List.mem_cons_of_mem _ hz), pb.2⟩
    by_cases h : x.1 ≤ y.1
    · rw [mg_le a b h]
      obtain ⟨h1, h2⟩ := mg_all a (y :: b) ta hb
      refine ⟨⟨fun z hz => ?_, List.pairwise_cons.2 ⟨fun z hz => ?_, h1.2⟩⟩, fun z => ?_⟩
      · rcases List.mem_cons.1 hz with rfl | hz
        · exact ha.1 _ (List.mem_cons_self ..)
        · exact h1.1 z hz
      · rcases (h2 z).1 hz with hz | hz
        · exact pa.1 z hz
        · rcases List.mem_cons.1 hz with rfl | hz
          · exact h
          · have := pb.1 z hz; omega
      · rw [List.mem_cons, h2, List.mem_cons (a := z) (b := x), or_assoc]
    · rw [mg_gt a b h]
      obtain ⟨h1, h2⟩ := mg_all (x :: a) b ha tb
      refine ⟨⟨fun z hz => ?_, List.pairwise_cons.2 ⟨fun z hz => ?_, h1.2⟩⟩, fun z => ?_⟩
      · rcases List.mem_cons.1 hz with rfl | hz
        · exact hb.1 _ (List.mem_cons_self ..)
        · exact h1.1 z hz
      · rcases (h2 z).1 hz with hz | hz
        · rcases List.mem_cons.1 hz with rfl | hz
          · omega
          · have := pa.1 z hz; omega
        · exact pb.1 z hz
      · rw [List.mem_cons, h2, List.mem_cons (a := z) (b := y)]
        constructor
        · rintro (h | h | h)
          · exact Or.inr (Or.inl h)
          · exact Or.inl h
          · exact Or.inr (Or.inr h)
        · rintro (h | h | h)
          · exact Or.inr (Or.inl h)
          · exact Or.inl h
          · exact Or.inr (Or.inr h)
termination_by a b => a.length + b.length
theorem join_all {s : List Spn} (h : Srt s) : Canon (joinL s) ∧ ∀ n, Mem (joinL s) n ↔ Mem s n := by
  cases s with
  | nil => exact ⟨trivial, fun n => Iff.rfl⟩
  | cons x r =>
    have hp := List.pairwise_cons.1 h.2
    obtain ⟨_, k2, k3, _⟩ := jn_all r x (h.1 x (List.mem_cons_self ..)) ⟨fun y hy => h.1 y (List.mem_cons_of_mem _ hy), hp.2⟩ hp.1
    refine ⟨k2, fun n => ?_⟩
    rw [mem_cons]; exact k3 n
/-- Two lists in canonical form, merged and joined, are their union. -/
theorem mg_join (a b : List Spn) : joF [] (mgL (normL a) (normL b)) = unionL a b := by
  obtain ⟨h1, h2⟩ := mg_all _ _ (canon_srt (norm_canon a)) (canon_srt (norm_canon b))
  obtain ⟨h3, h4⟩ := join_all h1
  show joinL _ = normL _
  refine norm_is h3 fun n => ?_
  rw [h4, mem_app]
  constructor
  · rintro ⟨z, hz, hn⟩
    rcases (h2 z).1 hz with h | h
    · exact Or.inl ((norm_mem a n).1 ⟨z, h, hn⟩)
    · exact Or.inr ((norm_mem b n).1 ⟨z, h, hn⟩)
  · rintro (h | h)
    · obtain ⟨z, hz, hn⟩ := (norm_mem a n).2 h
      exact ⟨z, (h2 z).2 (Or.inl hz), hn⟩
    · obtain ⟨z, hz, hn⟩ := (norm_mem b n).2 h
      exact ⟨z, (h2 z).2 (Or.inr hz), hn⟩
theorem mg_half (l : List Spn) (k : Nat) : joF [] (mgL (normL (l.take k)) (normL (l.drop k))) = normL l := by
  rw [mg_join]
  show normL (l.take k ++ l.drop k) = _
  rw [List.take_append_drop]
/-- What one span adds to the spans that are joined so far. -/
def adF (o : List Spn) (x : Spn) : List Spn := match o.reverse with
  | [] => [x]
  | c :: d => if c.2 < x.1 then o ++ [x] else d.reverse ++ [(c.1, max c.2 x.2)]
theorem ad_nil (x : Spn) : adF [] x = [x] := rfl
theorem ad_next {d : List Spn} {c x : Spn} (h : c.2 < x.1) : adF (d ++ [c]) x = d ++ [c] ++ [x] := by unfold adF; simp [h]
theorem ad_merge {d : List Spn} {c x : Spn} (h : ¬ c.2 < x.1) : adF (d ++ [c]) x = d ++ [(c.1, max c.2 x.2)] := by unfold adF; simp [h]
theorem jo_ad (o r : List Spn) (x : Spn) : joF o (x :: r) = joF (adF o x) r := by
  rcases List.eq_nil_or_concat o with rfl | ⟨d, c, rfl⟩
  · exact jo_start x r
  · rw [List.concat_eq_append]
    by_cases h : c.2 < x.1
    · rw [ad_next h, jo_next (by omega)]
    · rw [ad_merge h, jo_merge (by omega)]
theorem ad_len (o : List Spn) (x : Spn) : (adF o x).length ≤ o.length + 1 := by
  rcases List.eq_nil_or_concat o with rfl | ⟨d, c, rfl⟩
  · exact Nat.le_refl _
  · rw [List.concat_eq_append]
    by_cases h : c.2 < x.1
    · rw [ad_next h, List.length_append]; exact Nat.le_refl _
    · rw [ad_merge h, List.length_append, List.length_append]
      show d.length + 1 ≤ d.length + 1 + 1
      omega
/-! ### The common part -/
def coL : List Spn → List Spn → List Spn
  | [], _ => []
  | _ :: _, [] => []
  | x :: a, y :: b => (if max x.1 y.1 < min x.2 y.2 then [(max x.1 y.1, min x.2 y.2)] else []) ++ (if x.2 < y.2 then coL a (y :: b) else coL (x :: a) b)
termination_by a b => a.length + b.length
theorem co_nil (b : List Spn) : coL [] b = [] := by rw [coL]
theorem co_nil2 (a : List Spn) : coL a [] = [] := by
  cases a with
  | nil => rw [coL]
  | cons x a => rw [coL]
theorem co_cons (x y : Spn) (a b : List Spn) : coL (x :: a) (y :: b) = (if max x.1 y.1 < min x.2 y.2 then [(max x.1 y.1, min x.2 y.2)] else []) ++ (if x.2 < y.2 then coL a (y :: b) else coL (x :: a) b) := by rw [coL]
theorem head_all {p q : Int} {r : List Spn} (hr : Canon r) (h : ∀ n, Mem r n → q < n) : Canon ((if p < q then [(p, q)] else []) ++ r) ∧ ∀ n, Mem ((if p < q then [(p, q)] else []) ++ r) n ↔ (p ≤ n ∧ n < q) ∨ Mem r n := by
  by_cases hpq : p < q
  · rw [if_pos hpq]
    exact ⟨canon_cons hpq hr h, fun n => mem_cons _ _ _⟩
  · rw [if_neg hpq]
    refine ⟨hr, fun n => ⟨Or.inr, fun h => h.elim (fun h => ?_) id⟩⟩
    omega
theorem co_all : ∀ (a b : List Spn), Canon a → Canon b → Canon (coL a b) ∧ ∀ n, Mem (coL a b) n ↔ Mem a n ∧ Mem b n
  | [], b, _, _ => by
    rw [co_nil]
    exact ⟨trivial, fun n => ⟨fun h => absurd h (mem_nil n), fun h => h.1⟩⟩
  | x :: a, [], _, _ => by
    rw [co_nil2]
    exact ⟨trivial, fun n => ⟨fun h => absurd h (mem_nil n), fun h => h.2⟩⟩
  | x :: a, y :: b, ha, hb => by
    have hx := canon_head ha
    have hy := canon_head hb
    rw [co_cons]
    by_cases h : x.2 < y.2
    · rw [if_pos h]
      obtain ⟨h1, h2⟩ := co_all a (y :: b) (canon_tail ha) hb
      obtain ⟨h3, h4⟩ := head_all (p := max x.1 y.1) (q := min x.2 y.2) h1 (fun n hn => by have := canon_low ha ((h2 n).1 hn).1; omega)
      refine ⟨h3, fun n => ?_⟩
      rw [h4, h2, mem_cons x, mem_cons y]
      constructor
      · rintro (hn | ⟨hn, hm⟩)
        · exact ⟨Or.inl ⟨by omega, by omega⟩, Or.inl ⟨by omega, by omega⟩⟩
        · exact ⟨Or.inr hn, hm⟩
      · rintro ⟨hn | hn, hm⟩
        · rcases hm with hm | hm
          · have := hn.1; have := hn.2; have := hm.1; have := hm.2
            exact Or.inl ⟨by omega, by omega⟩
          · have := canon_low hb hm
            have := hn.2
            omega
        · exact Or.inr ⟨hn, hm⟩
    · rw [if_neg h]
      obtain ⟨h1, h2⟩ := co_all (x :: a) b ha (canon_tail hb)
      obtain ⟨h3, h4⟩ := head_all (p := max x.1 y.1) (q := min x.2 y.2) h1 (fun n hn => by have := canon_low hb ((h2 n).1 hn).2; omega)
      refine ⟨h3, fun n => ?_⟩
      rw [h4, h2, mem_cons x, mem_cons y]
      constructor
      · rintro (hn | ⟨hn, hm⟩)
        · exact ⟨Or.inl ⟨by omega, by omega⟩, Or.inl ⟨by omega, by omega⟩⟩
        · exact ⟨hn, Or.inr hm⟩
      · rintro ⟨hn, hm | hm⟩
        · rcases hn with hn | hn
          · have := hn.1; have := hn.2; have := hm.1; have := hm.2
            exact Or.inl ⟨by omega, by omega⟩
          · have := canon_low ha hn
            have := hm.2
            omega
        · exact Or.inr ⟨hn, hm⟩
termination_by a b => a.length + b.length
theorem co_inter (a b : List Spn) : coL (normL a) (normL b) = interL a b := by
  obtain ⟨h1, h2⟩ := co_all _ _ (norm_canon a) (norm_canon b)
  exact canon_unique h1 (inter_canon a b) fun n => by rw [h2, inter_mem, norm_mem, norm_mem]
theorem co_len : ∀ (a b : List Spn), (coL a b).length ≤ a.length + b.length
  | [], b => by rw [co_nil]; exact Nat.zero_le _
  | x :: a, [] => by rw [co_nil2]; exact Nat.zero_le _
  | x :: a, y :: b => by
    have h1 := co_len a (y :: b)
    have h2 := co_len (x :: a) b
    rw [List.length_cons] at h1 h2
    rw [co_cons, List.length_append, List.length_cons, List.length_cons]
    split <;> split <;> simp only [List.length_cons, List.length_nil] <;> omega
termination_by a b => a.length + b.length
/-! ### Gaps -/
def gaL (e : Int) : Int → List Spn → List Spn
  | t, [] => if t < e then [(t, e)] else []
  | t, x :: r => (if t < min x.1 e then [(t, min x.1 e)] else []) ++ gaL e (max t x.2) r
theorem ga_all (e : Int) : ∀ (c : List Spn) (t : Int), Canon c → Canon (gaL e t c) ∧ ∀ n, Mem (gaL e t c) n ↔ (t ≤ n ∧ n < e) ∧ ¬ Mem c n
  | [], t, _ => by
    obtain ⟨h1, h2⟩ := head_all (p := t) (q := e) (r := []) trivial (fun n h => absurd h (mem_nil n))
    rw [List.append_nil] at h1 h2
    refine ⟨h1, fun n => (h2 n).trans ⟨fun h => h.elim (fun h => ⟨h, mem_nil n⟩) (fun h => absurd h (mem_nil n)), fun h => Or.inl h.1⟩⟩
  | x :: r, t, h => by
    have hx := canon_head h
    obtain ⟨h1, h2⟩ := ga_all e r (max t x.2) (canon_tail h)
    obtain ⟨h3, h4⟩ := head_all (p := t) (q := min x.1 e) h1 (fun n hn => by have := ((h2 n).1 hn).1; omega)
    refine ⟨h3, fun n => (h4 n).trans ?_⟩
    rw [h2, mem_cons]
    constructor
    · rintro (hn | ⟨hn, hm⟩)
      · refine ⟨by omega, ?_⟩
        rintro (hm | hm)
        · have := hm.1; omega
        · have := canon_low h hm; omega
      · refine ⟨by omega, ?_⟩
        rintro (hm | hm)
        · have := hm.2; omega
        · contradiction
    · rintro ⟨hn, hm⟩
      by_cases hc : n < x.1
      · exact Or.inl (by omega)
      · refine Or.inr ⟨?_, fun h => hm (Or.inr h)⟩
        by_cases hd : n < x.2
        · exact absurd (Or.inl ⟨by omega, hd⟩) hm
        · omega
theorem ga_is (l : List Spn) (t e : Int) : gaL e t (normL l) = minusL [(t, e)] l := by
  obtain ⟨h1, h2⟩ := ga_all e _ t (norm_canon l)
  exact canon_unique h1 (minus_canon _ _) fun n => by
    rw [h2, minus_mem, mem_one, norm_mem]; rfl
theorem ga_len (e : Int) : ∀ (c : List Spn) (t : Int), (gaL e t c).length ≤ c.length + 1
  | [], t => by
    rw [gaL]
    split <;> simp only [List.length_cons, List.length_nil] <;> omega
  | x :: r, t => by
    have := ga_len e r (max t x.2)
    rw [gaL, List.length_append, List.length_cons]
    split <;> simp only [List.length_cons, List.length_nil] <;> omega
/-- The difference by gaps, for spans of 64 bits. -/
theorem co_minus {a : List Spn} (b : List Spn) (ha : Ends (-9223372036854775808) 9223372036854775807 a) : coL (normL a) (minusL [(-9223372036854775808, 9223372036854775807)] b) = minusL a b := by
  obtain ⟨h1, h2⟩ := co_all _ _ (norm_canon a) (minus_canon [(-9223372036854775808, 9223372036854775807)] b)
  refine canon_unique h1 (minus_canon a b) fun n => ?_
  rw [h2, minus_mem, minus_mem, norm_mem, mem_one]
  refine and_congr_right fun hm => ⟨fun h => h.2, fun h => ⟨?_, h⟩⟩
  obtain ⟨x, hx, h3, h4⟩ := hm
  have := ha x hx
  show (-9223372036854775808 : Int) ≤ n ∧ n < 9223372036854775807
  omega
/-! ### The first fit -/
def bad (len : Int) (g : Spn) : Prop := g.2 ≠ 9223372036854775807 ∧ g.2 - g.1 < len
def fiL (len : Int) : List Spn → Option Int
  | [] => none
  | g :: r => if 4611686018427387904 ≤ g.1 then none else if g.2 = 9223372036854775807 ∨ len ≤ g.2 - g.1 then some g.1 else fiL len r
theorem fi_none (len : Int) : ∀ (G : List Spn), Canon G → fiL len G = none → ∀ p ∈ G, p.1 < 4611686018427387904 → bad len p
  | [], _, _, p, hp, _ => by simp at hp
  | g :: r, h, e, p, hp, hlt => by
    rw [fiL] at e
    have hg := canon_head h
    have hpg : g.1 ≤ p.1 := by
      rcases List.mem_cons.1 hp with rfl | hp
      · exact Int.le_refl _
      · have := canon_low h (n := p.1) ⟨p, hp, Int.le_refl _, canon_all (canon_tail h) p hp⟩
        omega
    rw [if_neg (by omega)] at e
    by_cases hc : g.2 = 9223372036854775807 ∨ len ≤ g.2 - g.1
    · rw [if_pos hc] at e; cases e
    · rw [if_neg hc] at e
      rcases List.mem_cons.1 hp with rfl | hp
      · exact ⟨fun h => hc (Or.inl h), by omega⟩
      · exact fi_none len r (canon_tail h) e p hp hlt
theorem fi_some (len : Int) : ∀ (G : List Spn) (t : Int), Canon G → fiL len G = some t → ∃ g ∈ G, g.1 = t ∧ t < 4611686018427387904 ∧ (g.2 = 9223372036854775807 ∨ len ≤ g.2 - g.1) ∧ ∀ p ∈ G, p.1 < t → bad len p
  | [], _, _, e => by cases e
  | g :: r, t, h, e => by
    rw [fiL] at e
    by_cases hb : 4611686018427387904 ≤ g.1
    · rw [if_pos hb] at e; cases e
    · rw [if_neg hb] at e
      by_cases hc : g.2 = 9223372036854775807 ∨ len ≤ g.2 - g.1
      · rw [if_pos hc] at e
        cases e
        refine ⟨g, List.mem_cons_self .., rfl, by omega, hc, fun p hp hlt => ?_⟩
        rcases List.mem_cons.1 hp with rfl | hp
        · omega
        · have := canon_low h (n := p.1) ⟨p, hp, Int.le_refl _, canon_all (canon_tail h) p hp⟩
          have := canon_head h
          omega
      · rw [if_neg hc] at e
        obtain ⟨g', hg', h1, h2, h3, h4⟩ := fi_some len r t (canon_tail h) e
        refine ⟨g', List.mem_cons_of_mem _ hg', h1, h2, h3, fun p hp hlt => ?_⟩
        rcases List.mem_cons.1 hp with rfl | hp
        · exact ⟨fun h => hc (Or.inl h), by omega⟩
        · exact h4 p hp hlt
theorem apart_iff {len s : Int} {l : List Spn} (hl : 1 ≤ len) : (∀ x ∈ normL l, Apart len s x) ↔ ∀ n, s ≤ n → n < s + len → ¬ Mem l n := by
  rw [apart_free hl]
  exact ⟨fun h n h1 h2 h3 => h n ((inter_mem _ _ n).2 ⟨h3, (mem_one _ n).2 ⟨h1, h2⟩⟩), fun h n hm => by
    obtain ⟨h1, h2⟩ := (inter_mem _ _ n).1 hm
    have h2 := (mem_one _ n).1 h2
    exact h n h2.1 h2.2 h1⟩
/-- A start within a gap that is too short is not free; nor is one within the set. -/
theorem not_free {len s u : Int} {l : List Spn} (hl : 1 ≤ len) (hs : -9223372036854775808 ≤ s ∧ s ≤ 9223372036854775807) (h1 : s ≤ u) (h2 : u < 9223372036854775807)
    (hb : ∀ p ∈ minusL [(s, 9223372036854775807)] l, p.1 ≤ u → bad len p) : ¬ ∀ n, u ≤ n → n < u + len → ¬ Mem l n := fun h => by
  have hu : ¬ Mem l u := h u (Int.le_refl _) (by omega)
  have hg : Mem (minusL [(s, 9223372036854775807)] l) u := (minus_mem _ _ u).2 ⟨(mem_one _ u).2 ⟨h1, h2⟩, hu⟩
  obtain ⟨p, hp, h3, h4⟩ := hg
  obtain ⟨h5, h6⟩ := hb p hp h3
  have he : Ends s 9223372036854775807 (minusL [(s, 9223372036854775807)] l) := minus_ends (fun x hx => by
    rw [List.mem_singleton.1 hx]
    exact ⟨⟨Int.le_refl _, hs.2⟩, ⟨hs.2, Int.le_refl _⟩⟩)
  have h7 := he p hp
  have h8 := canon_end (minus_canon _ _) p hp
  rw [minus_mem, mem_one] at h8
  have h9 : Mem l p.2 := Classical.byContradiction fun hn => h8 ⟨⟨h7.2.1, by show p.2 < 9223372036854775807; omega⟩, hn⟩
  exact h p.2 (by omega) (by omega) h9
theorem fi_is {l : List Spn} {s len : Int} (he : Ends (-9223372036854775808) 9223372036854775807 l) (hs : -9223372036854775808 ≤ s ∧ s ≤ 9223372036854775807) (hl : ¬ len < 1) :
    (∀ t, fiL len (minusL [(s, 9223372036854775807)] l) = some t → fitV l s len = t ∧ fitB l s len = true) ∧ (fiL len (minusL [(s, 9223372036854775807)] l) = none → fitV l s len = 0 ∧ fitB l s len = false) := by
  have hl1 : 1 ≤ len := by omega
  unfold fitV fitB
  rw [if_neg hl, if_neg hl]
  constructor
  · intro t e
    obtain ⟨g, hg, h1, h2, h3, h4⟩ := fi_some len _ t (minus_canon _ _) e
    have hgl := canon_all (minus_canon _ _) g hg
    have hin : ∀ n, g.1 ≤ n → n < g.2 → (s ≤ n ∧ n < 9223372036854775807) ∧ ¬ Mem l n := fun n k1 k2 => by
      have := (minus_mem _ _ n).1 ⟨g, hg, k1, k2⟩
      rw [mem_one] at this
      exact this
    have hst : s ≤ t := by have := (hin g.1 (Int.le_refl _) hgl).1.1; omega
    have hf : t = fitF len s (normL l) := by
      refine fit_is hl1 (norm_canon l) hst ((apart_iff hl1).2 fun n k1 k2 hm => ?_) fun u k1 k2 => ?_
      · by_cases hn : n < g.2
        · exact (hin n (by omega) hn).2 hm
        · rcases h3 with h3 | h3
          · obtain ⟨x, hx, h5, h6⟩ := hm
            have := he x hx
            omega
          · omega
      · refine Classical.byContradiction fun hn => ?_
        refine not_free hl1 hs k1 (by omega) (fun p hp hlt => h4 p hp (by omega)) ((apart_iff (l := l) hl1).1 fun x hx => Classical.byContradiction fun hx2 => hn ⟨x, hx, hx2⟩)
    have hf2 : fitS l s len = t := hf.symm
    rw [hf2, if_neg (by omega), if_neg (by omega)]
    exact ⟨rfl, rfl⟩
  · intro e
    have hb := fi_none len _ (minus_canon _ _) e
    obtain ⟨k1, k2, _, _⟩ := fit_all len hl1 (normL l) s (norm_canon l)
    have hbig : 4611686018427387904 ≤ fitS l s len := Classical.byContradiction fun hn => by
      have hlt : fitF len s (normL l) < 4611686018427387904 := by
        have : fitS l s len = fitF len s (normL l) := rfl
        omega
      exact not_free hl1 hs k1 (by omega) (fun p hp hle => hb p hp (by omega)) ((apart_iff hl1).1 k2)
    rw [if_pos hbig, if_pos hbig]
    exact ⟨rfl, rfl⟩
end Go.Proofs.Ytmfhjgddpkecfaa.Sp
