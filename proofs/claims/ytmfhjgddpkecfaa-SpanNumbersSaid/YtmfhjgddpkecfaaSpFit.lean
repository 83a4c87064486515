/-
  Totals of sets, and the first free interval (layer 8): plain mathematics.
-/
import Derived.Test.YtmfhjgddpkecfaaSpMath
namespace Go.Proofs.Ytmfhjgddpkecfaa.Sp

/-! ### How many integers a set has -/
def sumL : List Spn → Int
  | [] => 0
  | x :: r => x.2 - x.1 + sumL r
/-- How many of the k integers from lo on have a property. -/
def cnt (p : Int → Bool) : Int → Nat → Int
  | _, 0 => 0
  | lo, k + 1 => (if p lo = true then 1 else 0) + cnt p (lo + 1) k
theorem cnt_add (p q r s : Int → Bool) (h : ∀ n, (if p n = true then (1 : Int) else 0) + (if q n = true then 1 else 0) = (if r n = true then 1 else 0) + (if s n = true then 1 else 0)) : ∀ (k : Nat) (lo : Int), cnt p lo k + cnt q lo k = cnt r lo k + cnt s lo k
  | 0, _ => rfl
  | k + 1, lo => by
    have := h lo
    have ih := cnt_add p q r s h k (lo + 1)
    rw [cnt, cnt, cnt, cnt]; omega
theorem cnt_none : ∀ (k : Nat) (p : Int → Bool) (lo : Int), (∀ n, lo ≤ n → n < lo + k → p n = false) → cnt p lo k = 0
  | 0, _, _, _ => rfl
  | k + 1, p, lo, h => by
    rw [cnt, h lo (Int.le_refl _) (by omega), cnt_none k p (lo + 1) fun n h1 h2 => h n (by omega) (by omega)]; rfl
theorem cnt_all : ∀ (k : Nat) (p : Int → Bool) (lo : Int), (∀ n, lo ≤ n → n < lo + k → p n = true) → cnt p lo k = k
  | 0, _, _, _ => rfl
  | k + 1, p, lo, h => by
    rw [cnt, h lo (Int.le_refl _) (by omega), cnt_all k p (lo + 1) fun n h1 h2 => h n (by omega) (by omega)]
    rw [if_pos rfl]; omega
theorem cnt_split : ∀ (j k : Nat) (p : Int → Bool) (lo : Int), cnt p lo (j + k) = cnt p lo j + cnt p (lo + j) k
  | 0, k, p, lo => by rw [Nat.zero_add, cnt, show lo + ((0 : Nat) : Int) = lo by omega]; omega
  | j + 1, k, p, lo => by
    rw [show j + 1 + k = (j + k) + 1 by omega, cnt, cnt, cnt_split j k p (lo + 1), show lo + 1 + (j : Int) = lo + ((j + 1 : Nat) : Int) by omega]; omega
theorem cnt_congr : ∀ (k : Nat) (p q : Int → Bool) (lo : Int), (∀ n, lo ≤ n → n < lo + k → p n = q n) → cnt p lo k = cnt q lo k
  | 0, _, _, _, _ => rfl
  | k + 1, p, q, lo, h => by
    rw [cnt, cnt, h lo (Int.le_refl _) (by omega), cnt_congr k p q (lo + 1) fun n h1 h2 => h n (by omega) (by omega)]
theorem has_false {l : List Spn} {n : Int} (h : ¬ Mem l n) : hasB l n = false := by
  cases e : hasB l n
  · rfl
  · exact absurd ((has_iff l n).1 e) h
theorem sum_cnt : ∀ (l : List Spn) (lo : Int) (k : Nat), Canon l → (∀ x ∈ l, lo ≤ x.1 ∧ x.2 ≤ lo + k) → sumL l = cnt (hasB l) lo k
  | [], lo, k, _, _ => by rw [sumL, cnt_none]; intro n _ _; rfl
  | x :: r, lo, k, h, hb => by
    have hx := canon_head h
    have bx := hb x (List.mem_cons_self ..)
    obtain ⟨i, hi⟩ : ∃ i : Nat, x.1 = lo + i := ⟨(x.1 - lo).toNat, by omega⟩
    obtain ⟨j, hj⟩ : ∃ j : Nat, x.2 = x.1 + j := ⟨(x.2 - x.1).toNat, by omega⟩
    obtain ⟨m, hm⟩ : ∃ m : Nat, k = i + (j + m) := ⟨k - (i + j), by omega⟩
    have ih := sum_cnt r (lo + i + j) m (canon_tail h) fun y hy => by
      have h1 := hb y (List.mem_cons_of_mem _ hy)
      have h2 := canon_low h ⟨y, hy, Int.le_refl _, canon_all (canon_tail h) y hy⟩
      omega
    have c1 : cnt (hasB (x :: r)) lo i = 0 := cnt_none _ _ _ fun n h1 h2 => has_false fun hm => by
      have := canon_mem_low h hm; omega
    have c2 : cnt (hasB (x :: r)) (lo + i) j = j := cnt_all _ _ _ fun n h1 h2 => (has_iff _ _).2 ((mem_cons _ _ _).2 (Or.inl ⟨by omega, by omega⟩))
    have c3 : cnt (hasB (x :: r)) (lo + i + j) m = cnt (hasB r) (lo + i + j) m := cnt_congr _ _ _ _ fun n h1 h2 => by
      unfold hasB
      rw [List.any_cons, show decide (n < x.2) = false from decide_eq_false (by omega), Bool.and_false, Bool.false_or]
    rw [sumL, ih, hm, cnt_split, cnt_split, c1, c2, c3]; omega
theorem sum_nonneg : ∀ (l : List Spn), Canon l → 0 ≤ sumL l
  | [], _ => Int.le_refl _
  | x :: r, h => by
    have := canon_head h
    have := sum_nonneg r (canon_tail h)
    rw [sumL]; omega
theorem sum_le : ∀ (l : List Spn) (lo hi : Int), Canon l → lo ≤ hi → (∀ x ∈ l, lo ≤ x.1 ∧ x.2 ≤ hi) → sumL l ≤ hi - lo
  | [], lo, hi, _, h, _ => by rw [sumL]; omega
  | x :: r, lo, hi, h, _, hb => by
    have hx := canon_head h
    have bx := hb x (List.mem_cons_self ..)
    have := sum_le r x.2 hi (canon_tail h) bx.2 fun y hy => by
      have h1 := hb y (List.mem_cons_of_mem _ hy)
      have h2 := canon_low h ⟨y, hy, Int.le_refl _, canon_all (canon_tail h) y hy⟩
      omega
    rw [sumL]; omega
/-- All ends lie between two numbers. -/
def Ends (lo hi : Int) (l : List Spn) : Prop := ∀ x ∈ l, (lo ≤ x.1 ∧ x.1 ≤ hi) ∧ (lo ≤ x.2 ∧ x.2 ≤ hi)
/-- A canonical list whose integers lie below some span's ends: its ends do. -/
theorem canon_ends {a l : List Spn} {lo hi : Int} (h : Canon a) (hm : ∀ n, Mem a n → Mem l n) (he : Ends lo hi l) : Ends lo hi a := fun x hx => by
  have hlt := canon_all h x hx
  obtain ⟨y, hy, h1, _⟩ := hm x.1 ⟨x, hx, Int.le_refl _, hlt⟩
  obtain ⟨z, hz, _, h2⟩ := hm (x.2 - 1) ⟨x, hx, by omega, by omega⟩
  have := he y hy
  have := he z hz
  omega
theorem norm_ends {l : List Spn} {lo hi : Int} (he : Ends lo hi l) : Ends lo hi (normL l) := canon_ends (norm_canon l) (fun n h => (norm_mem l n).1 h) he
theorem union_ends {a b : List Spn} {lo hi : Int} (ha : Ends lo hi a) (hb : Ends lo hi b) : Ends lo hi (unionL a b) := norm_ends fun x hx => (List.mem_append.1 hx).elim (ha x) (hb x)
theorem inter_ends {a b : List Spn} {lo hi : Int} (ha : Ends lo hi a) : Ends lo hi (interL a b) := canon_ends (inter_canon a b) (fun n h => ((inter_mem a b n).1 h).1) ha
theorem minus_ends {a b : List Spn} {lo hi : Int} (ha : Ends lo hi a) : Ends lo hi (minusL a b) := canon_ends (minus_canon a b) (fun n h => ((minus_mem a b n).1 h).1) ha
/-- How many integers are in a list of spans, and what Total returns. -/
def sizeL (l : List Spn) : Int := sumL (normL l)
def totV (l : List Spn) : Int := if 9223372036854775807 < sizeL l then 9223372036854775807 else sizeL l
theorem size_cnt (l : List Spn) (lo : Int) (k : Nat) (he : Ends lo (lo + k) l) : sizeL l = cnt (hasB l) lo k := by
  unfold sizeL
  rw [sum_cnt (normL l) lo k (norm_canon l) fun x hx => by have := norm_ends he x hx; omega]
  refine cnt_congr _ _ _ _ fun n _ _ => ?_
  cases e : hasB l n
  · refine has_false fun h => ?_
    have := (has_iff _ _).2 ((norm_mem l n).1 h)
    rw [e] at this; exact absurd this (by decide)
  · exact (has_iff _ _).2 ((norm_mem l n).2 ((has_iff _ _).1 e))
/-- P8.5. -/
theorem size_union (a b : List Spn) (lo : Int) (k : Nat) (ha : Ends lo (lo + k) a) (hb : Ends lo (lo + k) b) :
    sizeL a + sizeL b = sizeL (unionL a b) + sizeL (interL a b) ∧ sizeL a = sizeL (interL a b) + sizeL (minusL a b) := by
  rw [size_cnt a lo k ha, size_cnt b lo k hb, size_cnt _ lo k (union_ends ha hb), size_cnt _ lo k (inter_ends ha), size_cnt _ lo k (minus_ends ha)]
  have hu : ∀ n, hasB (unionL a b) n = (hasB a n || hasB b n) := fun n => by
    rw [Bool.eq_iff_iff, has_iff, union_mem, Bool.or_eq_true, has_iff, has_iff]
  have hi : ∀ n, hasB (interL a b) n = (hasB a n && hasB b n) := fun n => by
    rw [Bool.eq_iff_iff, has_iff, inter_mem, Bool.and_eq_true, has_iff, has_iff]
  have hd : ∀ n, hasB (minusL a b) n = (hasB a n && !hasB b n) := fun n => by
    rw [Bool.eq_iff_iff, has_iff, minus_mem, Bool.and_eq_true, has_iff, Bool.not_eq_true', ← Bool.not_eq_true, has_iff]
  refine ⟨cnt_add _ _ _ _ (fun n => ?_) k lo, ?_⟩
  · rw [hu, hi]; cases hasB a n <;> cases hasB b n <;> rfl
  · have := cnt_add (hasB a) (fun _ => false) (hasB (interL a b)) (hasB (minusL a b)) (fun n => by rw [hi, hd]; cases hasB a n <;> cases hasB b n <;> rfl) k lo
    rw [cnt_none k (fun _ => false) lo fun _ _ _ => rfl] at this
    omega
theorem size_bounds {l : List Spn} {lo hi : Int} (h : lo ≤ hi) (he : Ends lo hi l) : 0 ≤ sizeL l ∧ sizeL l ≤ hi - lo :=
  ⟨sum_nonneg _ (norm_canon l), sum_le _ _ _ (norm_canon l) h fun x hx => by have := norm_ends he x hx; omega⟩
/-! ### The first free interval -/
def fitF (len : Int) : Int → List Spn → Int
  | s, [] => s
  | s, x :: r => if x.2 ≤ s ∨ (s < x.1 ∧ len ≤ x.1 - s) then fitF len s r else fitF len x.2 r
/-- The interval of this length that begins here shares nothing with the span. -/
def Apart (len s : Int) (x : Spn) : Prop := x.2 ≤ s ∨ s + len ≤ x.1
theorem fit_stay (len : Int) (hl : 1 ≤ len) : ∀ (r : List Spn) (s : Int), (∀ x ∈ r, Apart len s x) → fitF len s r = s
  | [], _, _ => rfl
  | x :: r, s, h => by
    have := h x (List.mem_cons_self ..)
    unfold Apart at this
    rw [fitF, if_pos (by omega)]
    exact fit_stay len hl r s fun y hy => h y (List.mem_cons_of_mem _ hy)
theorem fit_all (len : Int) (hl : 1 ≤ len) : ∀ (c : List Spn) (s : Int), Canon c → s ≤ fitF len s c ∧ (∀ x ∈ c, Apart len (fitF len s c) x) ∧ (∀ t, s ≤ t → t < fitF len s c → ∃ x ∈ c, ¬ Apart len t x) ∧ (fitF len s c = s ∨ ∃ x ∈ c, fitF len s c = x.2)
  | [], s, _ => ⟨Int.le_refl _, fun x hx => by simp at hx, fun t h1 h2 => by rw [fitF] at h2; omega, Or.inl rfl⟩
  | x :: r, s, h => by
    have hx := canon_head h
    rw [fitF]
    by_cases hc : x.2 ≤ s ∨ (s < x.1 ∧ len ≤ x.1 - s)
    · rw [if_pos hc]
      by_cases h2 : x.2 ≤ s
      · obtain ⟨k1, k2, k3, k4⟩ := fit_all len hl r s (canon_tail h)
        refine ⟨k1, fun y hy => ?_, fun t h3 h4 => ?_, k4.imp id fun ⟨y, hy, e⟩ => ⟨y, List.mem_cons_of_mem _ hy, e⟩⟩
        · rcases List.mem_cons.1 hy with rfl | hy
          · exact Or.inl (by omega)
          · exact k2 y hy
        · obtain ⟨y, hy, hn⟩ := k3 t h3 h4
          exact ⟨y, List.mem_cons_of_mem _ hy, hn⟩
      · have ha : ∀ y ∈ r, Apart len s y := fun y hy => by
          have h5 := canon_low h ⟨y, hy, Int.le_refl _, canon_all (canon_tail h) y hy⟩
          exact Or.inr (by omega)
        rw [fit_stay len hl r s ha]
        refine ⟨Int.le_refl _, fun y hy => ?_, fun t h3 h4 => by omega, Or.inl rfl⟩
        rcases List.mem_cons.1 hy with rfl | hy
        · exact Or.inr (by omega)
        · exact ha y hy
    · rw [if_neg hc]
      obtain ⟨k1, k2, k3, k4⟩ := fit_all len hl r x.2 (canon_tail h)
      refine ⟨by omega, fun y hy => ?_, fun t h3 h4 => ?_, Or.inr ?_⟩
      · rcases List.mem_cons.1 hy with rfl | hy
        · exact Or.inl k1
        · exact k2 y hy
      · by_cases h5 : t < x.2
        · exact ⟨x, List.mem_cons_self .., by unfold Apart; omega⟩
        · obtain ⟨y, hy, hn⟩ := k3 t (by omega) h4
          exact ⟨y, List.mem_cons_of_mem _ hy, hn⟩
      · rcases k4 with e | ⟨y, hy, e⟩
        · exact ⟨x, List.mem_cons_self .., e⟩
        · exact ⟨y, List.mem_cons_of_mem _ hy, e⟩
/-- The least start is the only one. -/
theorem fit_is {len s t : Int} {c : List Spn} (hl : 1 ≤ len) (h : Canon c) (h1 : s ≤ t) (h2 : ∀ x ∈ c, Apart len t x) (h3 : ∀ u, s ≤ u → u < t → ∃ x ∈ c, ¬ Apart len u x) : t = fitF len s c := by
  obtain ⟨k1, k2, k3, _⟩ := fit_all len hl c s h
  rcases Int.lt_trichotomy t (fitF len s c) with hlt | he | hgt
  · obtain ⟨x, hx, hn⟩ := k3 t h1 hlt
    exact absurd (h2 x hx) hn
  · exact he
  · obtain ⟨x, hx, hn⟩ := h3 _ k1 hgt
    exact absurd (k2 x hx) hn
/-- Where the search ends; none from 2^62 on. -/
def fitS (l : List Spn) (s len : Int) : Int := fitF len s (normL l)
def fitV (l : List Spn) (s len : Int) : Int := if len < 1 then 0 else if 4611686018427387904 ≤ fitS l s len then 0 else fitS l s len
def fitB (l : List Spn) (s len : Int) : Bool := if len < 1 then false else if 4611686018427387904 ≤ fitS l s len then false else true
/-- Free means that the interval shares nothing with the set. -/
theorem apart_free {len s : Int} {l : List Spn} (hl : 1 ≤ len) : (∀ x ∈ normL l, Apart len s x) ↔ ∀ n, ¬ Mem (interL l [(s, s + len)]) n := by
  constructor
  · intro h n hm
    obtain ⟨h1, h2⟩ := (inter_mem _ _ n).1 hm
    have h2 := (mem_one _ n).1 h2
    have h3 : s ≤ n := h2.1
    have h4 : n < s + len := h2.2
    obtain ⟨x, hx, h5, h6⟩ := (norm_mem l n).2 h1
    have := h x hx
    unfold Apart at this
    omega
  · intro h x hx
    have hlt := canon_all (norm_canon l) x hx
    unfold Apart
    by_cases hc : x.2 ≤ s ∨ s + len ≤ x.1
    · exact hc
    · exfalso
      have hn : ∀ n, inS x n → s ≤ n → n < s + len → False := fun n h1 h2 h3 =>
        h n ((inter_mem _ _ n).2 ⟨(norm_mem l n).1 ⟨x, hx, h1⟩, (mem_one _ n).2 ⟨h2, h3⟩⟩)
      by_cases hs : s ≤ x.1
      · exact hn x.1 ⟨Int.le_refl _, hlt⟩ hs (by omega)
      · exact hn s ⟨by omega, by omega⟩ (Int.le_refl _) (by omega)
theorem inter_nil_iff {len s : Int} {l : List Spn} (hl : 1 ≤ len) : interL l [(s, s + len)] = [] ↔ ∀ x ∈ normL l, Apart len s x := by
  rw [apart_free hl]
  exact ⟨fun e n h => by rw [e] at h; exact mem_nil n h, fun h => canon_none (inter_canon _ _) h⟩
end Go.Proofs.Ytmfhjgddpkecfaa.Sp
