/-
  A region that draws its order: each of its first operations is shown by itself, whatever was done before it; the rest is forced.
-/
import Derived.Orders
import Derived.Below
import Derived.Tactics
import Derived.Laws.Rows
namespace Go.Proofs.Reg
open Go.RowKit

section
variable {P : Program} {ops : Array Oper} {Q : Exit → Act → World → Prop}

def fillIn : Act → List (Option Tmp) → (Nat → Value) → Nat → Act
  | a, [], _, _ => a
  | a, d :: ds, xs, k => fillIn (a.put d (xs k)) ds xs (k + 1)
def upd (xs : Nat → Value) (i : Nat) (v : Value) : Nat → Value := fun j => if j = i then v else xs j
/-- No slot twice. -/
def distinct : List (Option Tmp) → Bool
  | [] => true
  | none :: ds => distinct ds
  | some d :: ds => !ds.contains (some d) && distinct ds
theorem distinct_cons {d : Option Tmp} {ds : List (Option Tmp)} (h : distinct (d :: ds) = true) : distinct ds = true ∧ ∀ e, d = some e → some e ∉ ds := by
  cases d with
  | none => exact ⟨h, fun e he => by simp at he⟩
  | some d =>
    unfold distinct at h
    simp only [Bool.and_eq_true, Bool.not_eq_true', List.contains_eq_mem, decide_eq_false_iff_not] at h
    exact ⟨h.2, fun e he => by cases he; exact h.1⟩
theorem fill_congr : ∀ (ds : List (Option Tmp)) (a : Act) (xs ys : Nat → Value) (k : Nat), (∀ j, k ≤ j → xs j = ys j) → fillIn a ds xs k = fillIn a ds ys k
  | [], _, _, _, _, _ => rfl
  | d :: ds, a, xs, ys, k, h => by
    unfold fillIn
    rw [h k (Nat.le_refl _), fill_congr ds _ xs ys (k + 1) (fun j hj => h j (by omega))]
theorem put_put (a : Act) (d : Option Tmp) (u v : Value) : (a.put d u).put d v = a.put d v := by
  cases d with
  | none => rfl
  | some d => simp [Act.put]
theorem fill_put : ∀ (ds : List (Option Tmp)) (a : Act) (xs : Nat → Value) (k : Nat) (e : Option Tmp) (v : Value), (∀ d, e = some d → some d ∉ ds) → (fillIn a ds xs k).put e v = fillIn (a.put e v) ds xs k
  | [], _, _, _, _, _, _ => rfl
  | d :: ds, a, xs, k, e, v, h => by
    unfold fillIn
    rw [fill_put ds _ xs (k + 1) e v (fun d' hd hm => h d' hd (List.mem_cons_of_mem _ hm)), Act.put_comm a (xs k) v (fun d' hd he => h d' he (by rw [hd]; exact List.mem_cons_self ..))]
theorem fill_upd : ∀ (ds : List (Option Tmp)) (a : Act) (xs : Nat → Value) (k i : Nat) (d : Option Tmp) (v : Value), distinct ds = true → ds[i]? = some d → fillIn a ds (upd xs (k + i) v) k = (fillIn a ds xs k).put d v
  | [], _, _, _, _, _, _, _, h => by simp at h
  | e :: ds, a, xs, k, 0, d, v, hn, h => by
    simp only [List.getElem?_cons_zero, Option.some.injEq] at h
    subst h
    have hn' := distinct_cons hn
    unfold fillIn
    rw [fill_put _ _ _ _ _ _ hn'.2, put_put, fill_congr ds _ (upd xs (k + 0) v) xs (k + 1) (fun j hj => by unfold upd; rw [if_neg (by omega)])]
    simp [upd]
  | e :: ds, a, xs, k, i + 1, d, v, hn, h => by
    have hn' := distinct_cons hn
    unfold fillIn
    have := fill_upd ds (a.put e (xs k)) xs (k + 1) i d v hn'.1 (by simpa using h)
    rw [show k + 1 + i = k + (i + 1) by omega] at this
    rw [← this]
    congr 1
    unfold upd
    rw [if_neg (by omega)]
theorem put_same (a : Act) (d : Tmp) : a.put (some d) (a.tmps.getD d undef) = a := by
  obtain ⟨t, df⟩ := a
  simp only [Act.put]
  congr 1
  apply Array.ext_getElem?
  intro j
  rw [Array.getElem?_setIfInBounds]
  by_cases h : d = j
  · subst h
    rw [if_pos rfl]
    by_cases hd : d < t.size
    · simp [hd]
    · simp [hd]
  · rw [if_neg h]
theorem fill_start (a : Act) : ∀ (ds : List (Option Tmp)) (k : Nat) (xs : Nat → Value), (∀ i d, ds[i]? = some (some d) → xs (k + i) = a.tmps.getD d undef) → fillIn a ds xs k = a
  | [], _, _, _ => rfl
  | d :: ds, k, xs, h => by
    unfold fillIn
    have e : a.put d (xs k) = a := by
      cases d with
      | none => rfl
      | some d => rw [show xs k = a.tmps.getD d undef from h 0 d rfl, put_same]
    rw [e]
    exact fill_start a ds (k + 1) xs fun i e he => by rw [show k + 1 + i = k + (i + 1) by omega]; exact h (i + 1) e (by simpa using he)

/-- What was there stays, but for rows that may have become what the list says. -/
structure Ext (rs : List ((Nat → Bool) × TypeId × Array Value)) (w w' : World) : Prop where
  os : w'.os = w.os
  tape : w'.tape = w.tape
  output : w'.output = w.output
  size : w.heap.size ≤ w'.heap.size
  block : ∀ k, k < w.heap.size → w'.heap[k]? = w.heap[k]? ∨ ∃ r ∈ rs, r.1 k = true ∧ w'.heap[k]? = some (.cells r.2.2 r.2.1 (0, 0))
theorem Ext.of {rs : List ((Nat → Bool) × TypeId × Array Value)} {w w' : World} (h : Below w.heap.size w w') : Ext rs w w' := ⟨h.os, h.tape, h.output, h.size, fun k hk => .inl (h.block k hk)⟩
theorem Ext.to {w w' : World} (h : Ext [] w w') : Below w.heap.size w w' := ⟨h.os, h.tape, h.output, h.size, fun k hk => by
  rcases h.block k hk with e | ⟨r, hr, _⟩
  · exact e
  · simp at hr⟩
/-- A row either stays or becomes what the list says. -/
theorem Ext.either {rs : List ((Nat → Bool) × TypeId × Array Value)} {w w' : World} (h : Ext rs w w') {g : Nat} {t : TypeId} {cs : Array Value} (hg : w.heap[g]? = some (.cells cs t (0, 0))) : w'.heap[g]? = some (.cells cs t (0, 0)) ∨ ∃ r ∈ rs, r.1 g = true ∧ w'.heap[g]? = some (.cells r.2.2 r.2.1 (0, 0)) := by
  rcases h.block g (Array.getElem?_eq_some_iff.1 hg).1 with e | e
  · exact .inl (e.trans hg)
  · exact .inr e
/-- A row that is not on the list stays. -/
theorem Ext.row {rs : List ((Nat → Bool) × TypeId × Array Value)} {w w' : World} (h : Ext rs w w') {g : Nat} {t : TypeId} {cs : Array Value} (hg : w.heap[g]? = some (.cells cs t (0, 0))) (hn : ∀ r ∈ rs, r.1 g = false) : w'.heap[g]? = some (.cells cs t (0, 0)) := by
  rcases h.block g (Array.getElem?_eq_some_iff.1 hg).1 with e | ⟨r, hr, he, _⟩
  · rw [e]; exact hg
  · rw [hn r hr] at he; simp at he
/-- What the list says of a row stays. -/
theorem Ext.done {rs : List ((Nat → Bool) × TypeId × Array Value)} {w w' : World} (h : Ext rs w w') {g : Nat} {t : TypeId} {cs : Array Value} (hg : w.heap[g]? = some (.cells cs t (0, 0))) (hn : ∀ r ∈ rs, r.1 g = true → r.2.1 = t ∧ r.2.2 = cs) : w'.heap[g]? = some (.cells cs t (0, 0)) := by
  rcases h.block g (Array.getElem?_eq_some_iff.1 hg).1 with e | ⟨r, hr, he, e⟩
  · rw [e]; exact hg
  · obtain ⟨h1, h2⟩ := hn r hr he
    rw [e, h1, h2]
theorem Ext.below {rs : List ((Nat → Bool) × TypeId × Array Value)} {w0 w w' : World} {B : Nat} (h : Ext rs w w') (hb : Below B w0 w) (hB : B ≤ w.heap.size) (hn : ∀ r ∈ rs, ∀ k, k < B → r.1 k = false) : Below B w0 w' :=
  hb.trans ⟨h.os, h.tape, h.output, h.size, fun k hk => by
    rcases h.block k (by omega) with e | ⟨r, hr, he, _⟩
    · exact e
    · rw [hn r hr k hk] at he; simp at he⟩

/-- Operation j can't come before operation i. -/
def reach (ops : Array Oper) : Nat → Nat → Nat → Bool
  | 0, _, _ => false
  | f + 1, j, i => match ops[j]? with
    | some o => o.after.any fun e => Region.binds .any e && (e.on == i || reach ops f e.on i)
    | none => false
def Down (ops : Array Oper) (listed : Array Bool) : Prop := ∀ j o, listed.getD j false = true → ops[j]? = some o → ∀ e ∈ o.after, Region.binds .any e = true → listed.getD e.on false = true
theorem reach_listed {listed : Array Bool} (hd : Down ops listed) : ∀ (f j i : Nat) (o : Oper), ops[j]? = some o → (∀ e ∈ o.after, Region.binds .any e = true → listed.getD e.on false = true) → reach ops f j i = true → listed.getD i false = true
  | 0, _, _, _, _, _, h => by simp [reach] at h
  | f + 1, j, i, o, ho, hj, h => by
    unfold reach at h
    rw [ho] at h
    simp only [Array.any_eq_true', Bool.and_eq_true, Bool.or_eq_true, beq_iff_eq] at h
    obtain ⟨e, he, hb, h⟩ := h
    have hl := hj e he hb
    rcases h with h | h
    · rw [← h]; exact hl
    · cases f with
      | zero => simp [reach] at h
      | succ f =>
        cases hoe : ops[e.on]? with
        | none => unfold reach at h; rw [hoe] at h; simp at h
        | some oe => exact reach_listed hd (f + 1) e.on i oe hoe (fun e' he' hb' => hd e.on oe hl hoe e' he' hb') h
/-- What is checked of a region once: slots, guards, edges. -/
def okRegion (ops : Array Oper) (ds : List (Option Tmp)) : Bool :=
  distinct ds && decide (ds.length ≤ ops.size) &&
  ((List.range ops.size).all fun i => match ops[i]? with
    | some o => (o.after.all fun e => !Region.binds .any e || decide (e.on < i)) && (decide (ds.length ≤ i) || (o.guard.isNone && some o.dst == ds[i]?)) &&
      (decide (i ≤ ds.length) || o.after.any fun e => Region.binds .any e && e.on + 1 == i) && (!decide (i = ds.length) || (List.range ds.length).all fun k => reach ops ops.size i k)
    | none => false)
theorem countP_lt {p q : Nat → Bool} : ∀ (l : List Nat) (a : Nat), (∀ x ∈ l, q x = true → p x = true) → a ∈ l → p a = true → q a = false → l.countP q < l.countP p
  | [], a, _, h, _, _ => by simp at h
  | x :: l, a, h, hm, hp, hq => by
    have hle : l.countP q ≤ l.countP p := List.countP_mono_left fun y hy => h y (List.mem_cons_of_mem _ hy)
    rw [List.countP_cons, List.countP_cons]
    rcases List.mem_cons.1 hm with e | e
    · subst e
      simp [hp, hq]
      omega
    · have := countP_lt l a (fun y hy => h y (List.mem_cons_of_mem _ hy)) e hp hq
      have hx := h x (List.mem_cons_self ..)
      cases hqx : q x
      · cases hpx : p x <;> simp <;> omega
      · rw [hx hqx]; simp; omega
theorem okRegion_at {ds : List (Option Tmp)} (h : okRegion ops ds = true) {i : Nat} {o : Oper} (ho : ops[i]? = some o) :
    (∀ e ∈ o.after, Region.binds .any e = true → e.on < i) ∧ (i < ds.length → o.guard = none ∧ some o.dst = ds[i]?) ∧ (ds.length < i → ∃ e ∈ o.after, Region.binds .any e = true ∧ e.on + 1 = i) ∧
      (i = ds.length → ∀ k, k < ds.length → reach ops ops.size i k = true) := by
  unfold okRegion at h
  simp only [Bool.and_eq_true, List.all_eq_true, List.mem_range] at h
  have hi := h.2 i (Array.getElem?_eq_some_iff.1 ho).1
  rw [ho] at hi
  simp only [Bool.and_eq_true, Bool.or_eq_true, Array.all_eq_true_iff_forall_mem, decide_eq_true_eq, Bool.not_eq_true', Array.any_eq_true', beq_iff_eq, Option.isNone_iff_eq_none, List.all_eq_true, List.mem_range, decide_eq_false_iff_not] at hi
  obtain ⟨⟨⟨h1, h2⟩, h3⟩, h4⟩ := hi
  refine ⟨fun e he hb => ?_, fun hlt => ?_, fun hlt => ?_, fun he => ?_⟩
  · rcases h1 e he with x | x
    · rw [hb] at x; simp at x
    · exact x
  · rcases h2 with x | x
    · omega
    · exact x
  · rcases h3 with x | x
    · omega
    · obtain ⟨e, he, hb, hx⟩ := x; exact ⟨e, he, hb, hx⟩
  · rcases h4 with x | x
    · exact absurd he x
    · exact x
theorem okRegion_ds {ds : List (Option Tmp)} (h : okRegion ops ds = true) : distinct ds = true ∧ ds.length ≤ ops.size := by
  unfold okRegion at h
  simp only [Bool.and_eq_true, decide_eq_true_eq] at h
  exact h.1

theorem getD_set {listed : Array Bool} {i j : Nat} (b : Bool) (hi : i < listed.size) : (listed.setIfInBounds i true).getD j b = if j = i then true else listed.getD j b := by
  simp only [Array.getD_eq_getD_getElem?, Array.getElem?_setIfInBounds]
  by_cases h : i = j
  · subst h
    simp [hi]
  · rw [if_neg h, if_neg (fun e => h e.symm)]
theorem getD_both {listed : Array Bool} {j : Nat} (h : j < listed.size) (b c : Bool) : listed.getD j b = listed.getD j c := by
  simp [Array.getD_eq_getD_getElem?, h]

/-- The forced rest. -/
theorem tail_any {ds : List (Option Tmp)} (hok : okRegion ops ds = true) : ∀ (fuel m : Nat) (listed : Array Bool) (a : Act) (w : World), ops.size - m ≤ fuel → ds.length ≤ m → m ≤ ops.size → listed.size = ops.size →
    (∀ j, j < ops.size → listed.getD j false = decide (j < m)) → wpList P ops Q (ops.toList.drop m) a w → wpAny P .any ops Q fuel listed a w := by
  intro fuel
  induction fuel with
  | zero =>
    intro m listed a w hf hm hms hs hl h
    obtain rfl : m = ops.size := by omega
    rw [List.drop_eq_nil_of_le (by simp)] at h
    refine ⟨?_, h⟩
    rw [List.eq_nil_iff_forall_not_mem]
    intro i hi
    obtain ⟨h0, o, ho, _⟩ := mem_ready.1 hi
    have hlt := (Array.getElem?_eq_some_iff.1 ho).1
    rw [getD_both (by omega) true false, hl i hlt] at h0
    simp at h0
    omega
  | succ fuel ih =>
    intro m listed a w hf hm hms hs hl h
    rcases Nat.eq_or_lt_of_le hms with he | hlt
    · subst he
      rw [List.drop_eq_nil_of_le (by simp)] at h
      refine ⟨fun _ => h, fun i hi => ?_⟩
      obtain ⟨h0, o, ho, _⟩ := mem_ready.1 hi
      have hlt := (Array.getElem?_eq_some_iff.1 ho).1
      rw [getD_both (by omega) true false, hl i hlt] at h0
      simp at h0
      omega
    · have hom : ops[m]? = some ops[m] := Array.getElem?_eq_getElem hlt
      have hready : m ∈ Region.ready .any ops listed := mem_ready.2 ⟨by rw [getD_both (by omega) true false, hl m hlt]; simp, ops[m], hom, fun e he hb => by
        have := (okRegion_at hok hom).1 e he hb
        rw [hl _ (by omega)]; simp; exact this⟩
      refine ⟨fun hn => by rw [hn] at hready; simp at hready, fun i hi => ?_⟩
      obtain ⟨h0, o, ho, hdep⟩ := mem_ready.1 hi
      have hilt := (Array.getElem?_eq_some_iff.1 ho).1
      rw [getD_both (by omega) true false, hl i hilt] at h0
      have him : m ≤ i := by simpa using h0
      have hie : i = m := by
        rcases Nat.eq_or_lt_of_le him with e | hgt
        · exact e.symm
        · obtain ⟨e, he, hb, hx⟩ := (okRegion_at hok ho).2.2.1 (by omega)
          have := hdep e he hb
          rw [hl _ (by omega)] at this
          simp at this
          omega
      subst hie
      rw [List.drop_eq_getElem_cons (by simpa using hlt)] at h
      have ho' : o = ops[i] := by rw [hom] at ho; exact (Option.some.inj ho).symm
      have hnext : ∀ a w, wpList P ops Q (ops.toList.drop (i + 1)) a w → wpAny P .any ops Q fuel (listed.setIfInBounds i true) a w := fun a w hh =>
        ih (i + 1) _ a w (by omega) (by omega) hlt (by simp [hs]) (fun j hj => by
          rw [getD_set _ (by omega)]
          by_cases hji : j = i
          · rw [if_pos hji, hji]; simp
          · rw [if_neg hji, hl j hj, decide_eq_decide]; omega) hh
      unfold wpOp
      rw [hom]
      simp only [wpList, Array.getElem_toList] at h
      dsimp only
      split
      · rename_i hw
        rw [if_pos hw] at h
        exact h.imp (Oper.wp_mono hnext) id
      · rename_i hw
        rw [if_neg hw] at h
        exact hnext _ _ h

/-- A new block's pointer. -/
def NewPtr (v : Value) (w w' : World) : Prop := v = .pointer (some ⟨w.heap.size, 0, none⟩) ∧ w.heap.size < w'.heap.size
def Apart (al : Nat → Bool) (n : Nat) (xs : Nat → Value) : Prop := ∀ i j, i < n → j < n → al i = true → al j = true → i ≠ j → xs i ≠ xs j
theorem region_free {ds : List (Option Tmp)} {id : Nat} {a0 : Act} {w0 : World} (rs : List ((Nat → Bool) × TypeId × Array Value)) (al : Nat → Bool) (hm : P.follows .mixedOrders = true) (hok : okRegion ops ds = true) (F : Nat → (Nat → Value) → World → Prop) (G : World → Prop)
    (hG : ∀ w w', G w → Ext rs w w' → G w') (hF : ∀ i xs w w', i < ds.length → F i xs w → Ext rs w w' → F i xs w') (hagree : ∀ i xs ys w, i < ds.length → F i xs w → (∀ j, (j = i ∨ reach ops ops.size i j = true) → xs j = ys j) → F i ys w) (h0 : G w0.drew)
    (hstep : ∀ i, i < ds.length → ∀ o, ops[i]? = some o → ∀ xs w, G w → (∀ j, j < ds.length → reach ops ops.size i j = true → F j xs w) →
      o.wp P (fillIn a0 ds xs 0) w (fun a' w' => ∃ v, a' = (fillIn a0 ds xs 0).put o.dst v ∧ F i (upd xs i v) w' ∧ Ext rs w w' ∧ (al i = true → NewPtr v w w')) Q)
    (hend : ∀ xs w, G w → Apart al ds.length xs → (∀ j, j < ds.length → F j xs w) → wpList P ops Q (ops.toList.drop ds.length) (fillIn a0 ds xs 0) w) :
    (Code.region id ops true).wp P Q a0 w0 := by
  refine wp_region_any hm ?_
  obtain ⟨hnd, hle⟩ := okRegion_ds hok
  have main : ∀ (fuel : Nat) (listed : Array Bool) (w : World) (xs : Nat → Value), (List.range ops.size).countP (fun j => !listed.getD j false) ≤ fuel → listed.size = ops.size → Down ops listed →
      (∀ j, ds.length ≤ j → listed.getD j false = false) → G w → (∀ j, j < ds.length → listed.getD j false = true → F j xs w) →
      (∀ j, j < ds.length → listed.getD j false = true → al j = true → ∃ g, xs j = .pointer (some ⟨g, 0, none⟩) ∧ g < w.heap.size) → (∀ i j, i < ds.length → j < ds.length → listed.getD i false = true → listed.getD j false = true → al i = true → al j = true → i ≠ j → xs i ≠ xs j) →
      wpAny P .any ops Q fuel listed (fillIn a0 ds xs 0) w := by
    intro fuel
    induction fuel with
    | zero =>
      intro listed w xs hf hs hd ht hg hx hfr hdi
      have hall : ∀ j, j < ops.size → listed.getD j false = true := fun j hj => by
        have := List.countP_eq_zero.1 (Nat.le_zero.1 hf) j (by simpa using hj)
        simpa using this
      have hds : ds.length = ops.size := by
        rcases Nat.lt_or_ge ds.length ops.size with x | x
        · have := hall _ x
          rw [ht _ (Nat.le_refl _)] at this
          simp at this
        · omega
      refine tail_any hok 0 ops.size listed _ w (by omega) hle (Nat.le_refl _) hs (fun j hj => by rw [hall j hj]; simp [hj]) ?_
      rw [← hds]
      exact hend xs w hg (fun i j hi hj => hdi i j hi hj (hall i (by omega)) (hall j (by omega))) fun j hj => hx j hj (hall j (by omega))
    | succ fuel ih =>
      intro listed w xs hf hs hd ht hg hx hfr hdi
      by_cases hall : ∀ j, j < ds.length → listed.getD j false = true
      · refine tail_any hok (fuel + 1) ds.length listed _ w ?_ (Nat.le_refl _) hle hs (fun j hj => ?_) (hend xs w hg (fun i j hi hj => hdi i j hi hj (hall i hi) (hall j hj)) fun j hj => hx j hj (hall j hj))
        · have h1 : (List.range ops.size).countP (fun j => decide (ds.length ≤ j)) ≤ (List.range ops.size).countP (fun j => !listed.getD j false) :=
            List.countP_mono_left fun j _ h => by simp at h; rw [ht j h]; rfl
          have h2 : ∀ (m n : Nat), (List.range m).countP (fun j => decide (n ≤ j)) = m - n := by
            intro m n
            induction m with
            | zero => simp
            | succ m ihm =>
              rw [List.range_succ, List.countP_append, ihm]
              simp [List.countP_cons]
              split <;> omega
          rw [h2] at h1
          omega
        · by_cases hj2 : j < ds.length
          · rw [hall j hj2]; simp [hj2]
          · rw [ht j (by omega)]; simp; omega
      · have hready : ∃ i, i ∈ Region.ready .any ops listed := by
          have : ∃ i, i < ds.length ∧ listed.getD i false = false := by
            refine Classical.byContradiction fun hno => hall fun j hj => ?_
            cases hj' : listed.getD j false
            · exact absurd ⟨j, hj, hj'⟩ hno
            · rfl
          obtain ⟨i, hi, hl⟩ := this
          have least : ∀ i, i < ops.size → listed.getD i false = false → ∃ k, k ∈ Region.ready .any ops listed := by
            intro i
            induction i using Nat.strongRecOn with
            | _ i ihi =>
              intro hi hl
              have hoi : ops[i]? = some ops[i] := Array.getElem?_eq_getElem hi
              by_cases hdep : ∀ e ∈ ops[i].after, Region.binds .any e = true → listed.getD e.on false = true
              · exact ⟨i, mem_ready.2 ⟨by rw [getD_both (by omega) true false, hl], _, hoi, hdep⟩⟩
              · simp only [Classical.not_forall] at hdep
                obtain ⟨e, he, hb, hne⟩ := hdep
                have := (okRegion_at hok hoi).1 e he hb
                exact ihi e.on this (by omega) (by simpa using hne)
          exact least i (by omega) hl
        refine ⟨fun hn => by obtain ⟨i, hi⟩ := hready; rw [hn] at hi; simp at hi, fun i hi => ?_⟩
        obtain ⟨hl, o, ho, hdep⟩ := mem_ready.1 hi
        have hilt := (Array.getElem?_eq_some_iff.1 ho).1
        rw [getD_both (by omega) true false] at hl
        have hid : i < ds.length := by
          rcases Nat.lt_trichotomy i ds.length with x | x | x
          · exact x
          · refine absurd (fun j hj => ?_) hall
            exact reach_listed hd ops.size i j o ho hdep ((okRegion_at hok ho).2.2.2 x j hj)
          · obtain ⟨e, he, hb, hx'⟩ := (okRegion_at hok ho).2.2.1 x
            have := hdep e he hb
            rw [ht _ (by omega)] at this
            simp at this
        obtain ⟨hgn, hdst⟩ := (okRegion_at hok ho).2.1 hid
        have hw := hstep i hid o ho xs w hg fun j hj hr => hx j hj (reach_listed hd ops.size i j o ho hdep hr)
        unfold wpOp
        rw [ho]
        simp only [Region.wanted, hgn, if_true]
        refine .inl (Oper.wp_mono (fun a' w' ha => ?_) hw)
        obtain ⟨v, rfl, hFv, hB, hnew⟩ := ha
        have hfill : (fillIn a0 ds xs 0).put o.dst v = fillIn a0 ds (upd xs i v) 0 := by
          have hdo : ds[i]? = some o.dst := hdst.symm
          have := fill_upd ds a0 xs 0 i _ v hnd hdo
          rw [Nat.zero_add] at this
          exact this.symm
        rw [hfill]
        refine ih _ w' _ ?_ (by simp [hs]) ?_ ?_ (hG w w' hg hB) ?_ ?_ ?_
        · have : (List.range ops.size).countP (fun j => !(listed.setIfInBounds i true).getD j false) < (List.range ops.size).countP (fun j => !listed.getD j false) := by
            refine countP_lt _ i ?_ (by simpa using hilt) (by rw [hl]; rfl) ?_
            · intro x _ h
              rw [getD_set _ (by omega)] at h
              by_cases hxi : x = i
              · rw [if_pos hxi] at h; simp at h
              · rwa [if_neg hxi] at h
            · rw [getD_set _ (by omega), if_pos rfl]; rfl
          omega
        · intro j o' hj ho' e he hb
          rw [getD_set _ (by omega)] at hj ⊢
          by_cases hei : e.on = i
          · rw [if_pos hei]
          · rw [if_neg hei]
            by_cases hji : j = i
            · subst hji
              rw [ho] at ho'
              cases ho'
              exact hdep e he hb
            · rw [if_neg hji] at hj
              exact hd j o' hj ho' e he hb
        · intro j hj
          rw [getD_set _ (by omega), if_neg (by omega)]
          exact ht j hj
        · intro j hj hjl
          by_cases hji : j = i
          · rw [hji]; exact hFv
          · rw [getD_set _ (by omega), if_neg hji] at hjl
            refine hagree j xs _ w' hj (hF j _ w w' hj (hx j hj hjl) hB) fun k hk => ?_
            have hki : k ≠ i := fun e => by
              subst e
              rcases hk with hk | hk
              · exact hji hk.symm
              · have hoj : ops[j]? = some (ops[j]'(by omega)) := Array.getElem?_eq_getElem (by omega)
                have := reach_listed hd ops.size j k _ hoj (fun e he hb => hd j _ hjl hoj e he hb) hk
                rw [this] at hl
                simp at hl
            unfold upd
            rw [if_neg hki]
        · intro j hj hjl hal
          unfold upd
          by_cases hji : j = i
          · rw [if_pos hji]
            obtain ⟨e, hlt⟩ := hnew (hji ▸ hal)
            exact ⟨_, e, hlt⟩
          · rw [if_neg hji]
            rw [getD_set _ (by omega), if_neg hji] at hjl
            obtain ⟨g, e, hlt⟩ := hfr j hj hjl hal
            exact ⟨g, e, Nat.lt_of_lt_of_le hlt hB.size⟩
        · intro j k hj hk hjl hkl haj hak hjk
          rw [getD_set _ (by omega)] at hjl hkl
          unfold upd
          by_cases hji : j = i
          · have hki : ¬ k = i := fun e => hjk (hji.trans e.symm)
            rw [if_pos hji, if_neg hki]
            rw [if_neg hki] at hkl
            obtain ⟨e, _⟩ := hnew (hji ▸ haj)
            obtain ⟨g, e2, hlt⟩ := hfr k hk hkl hak
            rw [e, e2]
            intro h
            simp at h
            omega
          · rw [if_neg hji] at hjl ⊢
            by_cases hki : k = i
            · rw [if_pos hki]
              obtain ⟨e, _⟩ := hnew (hki ▸ hak)
              obtain ⟨g, e2, hlt⟩ := hfr j hj hjl haj
              rw [e, e2]
              intro h
              simp at h
              omega
            · rw [if_neg hki] at hkl ⊢
              exact hdi j k hj hk hjl hkl haj hak hjk
  have hx0 : fillIn a0 ds (fun i => a0.tmps.getD (((ds[i]?).getD none).getD 0) undef) 0 = a0 := fill_start a0 ds 0 _ fun i d hd => by simp [hd]
  have := main ops.size (Array.replicate ops.size false) w0.drew (fun i => a0.tmps.getD (((ds[i]?).getD none).getD 0) undef) (by
    refine Nat.le_trans (List.countP_le_length) (by simp)) (by simp) (fun j o hj => by simp [Array.getD_eq_getD_getElem?, Array.getElem?_replicate] at hj; split at hj <;> simp at hj) (fun j _ => by
      simp [Array.getD_eq_getD_getElem?, Array.getElem?_replicate]; split <;> rfl) h0 (fun j _ hj => by
      simp [Array.getD_eq_getD_getElem?, Array.getElem?_replicate] at hj; split at hj <;> simp at hj) (fun j _ hj => by
      simp [Array.getD_eq_getD_getElem?, Array.getElem?_replicate] at hj; split at hj <;> simp at hj) (fun j _ _ _ hj => by
      simp [Array.getD_eq_getD_getElem?, Array.getElem?_replicate] at hj; split at hj <;> simp at hj)
  rw [hx0] at this
  exact this

/-- What is known of the results on a list. -/
def Facts (F : Nat → (Nat → Value) → World → Prop) (xs : Nat → Value) (w : World) : List Nat → Prop
  | [] => True
  | j :: js => F j xs w ∧ Facts F xs w js
theorem facts_of {F : Nat → (Nat → Value) → World → Prop} {xs : Nat → Value} {w : World} : ∀ (l : List Nat), (∀ j ∈ l, F j xs w) → Facts F xs w l
  | [], _ => trivial
  | j :: js, h => ⟨h j (List.mem_cons_self ..), facts_of js fun k hk => h k (List.mem_cons_of_mem _ hk)⟩
/-- An operation is run to a value of which F holds, and what was there stays. -/
structure StepTo (rs : List ((Nat → Bool) × TypeId × Array Value)) (P : Program) (Q : Exit → Act → World → Prop) (o : Oper) (a : Act) (w : World) (F : Value → World → Prop) (fresh : Bool) : Prop where
  run : o.wp P a w (fun a' w' => ∃ v, a' = a.put o.dst v ∧ F v w' ∧ Ext rs w w' ∧ (fresh = true → NewPtr v w w')) Q
/-- An operation that runs to a value. -/
theorem step_value {rs : List ((Nat → Bool) × TypeId × Array Value)} {o : Oper} {a : Act} {w w' : World} {F : Value → World → Prop} (v : Value) (hrun : (execOp a.eval o).run P w = .ok (.value v) w') (hF : F v w') (hb : Below w.heap.size w w') : StepTo rs P Q o a w F false := by
  constructor
  unfold Oper.wp
  rw [hrun, Oper.upon_value]
  exact ⟨v, rfl, hF, .of hb, fun h => by simp at h⟩
/-- A new block. -/
theorem step_alloc {rs : List ((Nat → Bool) × TypeId × Array Value)} {o : Oper} {a : Act} {w : World} {F : Value → World → Prop} {fr : Bool} (ob : Obj) (hrun : (execOp a.eval o).run P w = .ok (.value (.pointer (some ⟨w.heap.size, 0, none⟩))) (w.alloc ob)) (hF : F (.pointer (some ⟨w.heap.size, 0, none⟩)) (w.alloc ob)) : StepTo rs P Q o a w F fr := by
  constructor
  unfold Oper.wp
  rw [hrun, Oper.upon_value]
  exact ⟨_, rfl, hF, .of ((Below.refl _ _).alloc (Nat.le_refl _) _), fun _ => ⟨rfl, by simp⟩⟩
/-- A load of a whole row. -/
theorem step_row {rs : List ((Nat → Bool) × TypeId × Array Value)} {o : Oper} {a : Act} {w : World} {F : Value → World → Prop} (ty : TypeId) (x : Operand) (ho : o.op = .load ty x) (g : Nat) (hx : a.eval x = .pointer (some ⟨g, 0, none⟩)) (t : TypeId) (cs : Array Value) (d : TypeDesc) (hg : w.heap[g]? = some (.cells cs t (0, 0)))
    (hu : P.underlying ty = some d) (hd : (match d with | .struct _ | .array _ _ => true | _ => false) = true) (hi : (P.info? ty).map (·.size) = some cs.size) (hF : F (.agg cs) w) : StepTo rs P Q o a w F false :=
  ⟨wp_load_row ty x ho g hx t cs (0, 0) d hg hu hd hi ⟨_, rfl, hF, .of (Below.refl _ _), fun h => by simp at h⟩⟩
/-- A store of a whole row. -/
theorem step_store {rs : List ((Nat → Bool) × TypeId × Array Value)} {o : Oper} {a : Act} {w : World} {F : Value → World → Prop} (ty : TypeId) (x y : Operand) (ho : o.op = .store ty x y) (g : Nat) (cells : Array Value) (hx : a.eval x = .pointer (some ⟨g, 0, none⟩)) (hy : a.eval y = .agg cells)
    (t : TypeId) (old : Array Value) (hg : w.heap[g]? = some (.cells old t (0, 0))) (hi : (P.info? ty).map (·.size) = some cells.size) (hold : old.size = cells.size) (h1 : cells.all (·.oneCell') = true) (hr : ∃ r ∈ rs, r.1 g = true ∧ r.2.1 = t ∧ r.2.2 = cells) (hF : F undef (w.setRow g cells)) : StepTo rs P Q o a w F false := by
  refine ⟨wp_store_row ty x y ho g cells hx hy t old hg hi hold h1 ⟨undef, rfl, hF, ⟨rfl, rfl, rfl, by simp, fun k hk => ?_⟩, fun h => by simp at h⟩⟩
  by_cases hkg : k = g
  · subst hkg
    obtain ⟨r, hr, h2, h3, h4⟩ := hr
    exact .inr ⟨r, hr, h2, by rw [h3, h4]; exact setRow_heap w k old cells t (0, 0) hg⟩
  · exact .inl (setRow_other _ _ _ _ hkg)
/-- A cut of an array. -/
theorem step_slice {rs : List ((Nat → Bool) × TypeId × Array Value)} {o : Oper} {a : Act} {w : World} {F : Value → World → Prop} (t : TypeId) (x : Operand) (lo hi mx : Option Operand) (u v : Value) (ho : o.op = .slice t x lo hi mx) (hx : a.eval x = u) (hrun : (Instr.sliceAt t u (lo.map a.eval) (hi.map a.eval) (mx.map a.eval)).run P w = .ok v w) (hF : F v w) : StepTo rs P Q o a w F false := by
  refine step_value v ?_ hF (Below.refl _ _)
  unfold execOp
  subst hx
  simp [ho, hrun, Result.andThen]
/-- A binary operation. -/
theorem step_bin {rs : List ((Nat → Bool) × TypeId × Array Value)} {o : Oper} {a : Act} {w : World} {F : Value → World → Prop} (k : BinOp) (t t2 : TypeId) (x y : Operand) (u v r : Value) (ho : o.op = .binOp k t x y t2) (hx : a.eval x = u) (hy : a.eval y = v)
    (hg : (eqGuard k t x y u v).run P w = .ok () w) (hrun : (binOp k t u v).run P w = .ok r w) (hF : F r w) : StepTo rs P Q o a w F false := by
  refine step_value r ?_ hF (Below.refl _ _)
  subst hx hy
  unfold execOp
  simp [ho, hrun, hg, Sem.run_bind, Result.andThen]
/-- A call, by its contract. -/
theorem step_call {rs : List ((Nat → Bool) × TypeId × Array Value)} {o : Oper} {a : Act} {w : World} {F : Value → World → Prop} {R : Ending → World → Prop} (f : FuncId) (xs : Array Operand) (ats : Array TypeId) (args : Array Value) (ho : o.op = .call { callee := .value (.func f), args := xs, argTypes := ats }) (hargs : xs.map a.eval = args)
    (hrun : (callFunc f args).run P w = .ok (.enter f args) w) (hc : Calls P f args w R) (hR : ∀ e w', R e w' → ∃ v, e = .returned v ∧ F v w' ∧ Below w.heap.size w w') : StepTo rs P Q o a w F false := by
  constructor
  unfold Oper.wp
  have he : execOp a.eval o = callFunc f args := by
    have ef : a.eval (.func f) = .func (.func f) #[] #[] := rfl
    unfold execOp
    simp [ho, resolve, Deferred.ofValue, invoke, ef, hargs]
  rw [he, hrun, Oper.upon_enter]
  refine hc.mono fun e w' hr => ?_
  obtain ⟨v, rfl, hf, hb⟩ := hR e w' hr
  exact ⟨v, rfl, hf, .of hb, fun h => by simp at h⟩
theorem step_call1 {rs : List ((Nat → Bool) × TypeId × Array Value)} {o : Oper} {a : Act} {w : World} {F : Value → World → Prop} {R : Ending → World → Prop} (f : FuncId) (x : Operand) (ats : Array TypeId) (u : Value) (ho : o.op = .call { callee := .value (.func f), args := #[x], argTypes := ats }) (hx : a.eval x = u)
    (hrun : (callFunc f #[u]).run P w = .ok (.enter f #[u]) w) (hc : Calls P f #[u] w R) (hR : ∀ e w', R e w' → ∃ v, e = .returned v ∧ F v w' ∧ Below w.heap.size w w') : StepTo rs P Q o a w F false :=
  step_call f #[x] ats #[u] ho (by simp [hx]) hrun hc hR
theorem step_call2 {rs : List ((Nat → Bool) × TypeId × Array Value)} {o : Oper} {a : Act} {w : World} {F : Value → World → Prop} {R : Ending → World → Prop} (f : FuncId) (x y : Operand) (ats : Array TypeId) (u v : Value) (ho : o.op = .call { callee := .value (.func f), args := #[x, y], argTypes := ats }) (hx : a.eval x = u) (hy : a.eval y = v)
    (hrun : (callFunc f #[u, v]).run P w = .ok (.enter f #[u, v]) w) (hc : Calls P f #[u, v] w R) (hR : ∀ e w', R e w' → ∃ v, e = .returned v ∧ F v w' ∧ Below w.heap.size w w') : StepTo rs P Q o a w F false :=
  step_call f #[x, y] ats #[u, v] ho (by simp [hx, hy]) hrun hc hR
theorem fill_size : ∀ (ds : List (Option Tmp)) (a : Act) (xs : Nat → Value) (k : Nat), (fillIn a ds xs k).tmps.size = a.tmps.size
  | [], _, _, _ => rfl
  | d :: ds, a, xs, k => by
    unfold fillIn
    rw [fill_size ds]
    cases d <;> simp [Act.put]
theorem fill_old : ∀ (ds : List (Option Tmp)) (a : Act) (xs : Nat → Value) (k : Nat) (d : Tmp), some d ∉ ds → (fillIn a ds xs k).tmps[d]? = a.tmps[d]?
  | [], _, _, _, _, _ => rfl
  | e :: ds, a, xs, k, d, h => by
    simp only [List.mem_cons, not_or] at h
    unfold fillIn
    rw [fill_old ds _ xs (k + 1) d h.2]
    cases e with
    | none => rfl
    | some e =>
      simp only [Act.put, Array.getElem?_setIfInBounds]
      rw [if_neg (fun x => h.1 (by rw [x]))]
theorem fill_new : ∀ (ds : List (Option Tmp)) (a : Act) (xs : Nat → Value) (k i : Nat) (d : Tmp), distinct ds = true → ds[i]? = some (some d) → d < a.tmps.size → (fillIn a ds xs k).tmps[d]? = some (xs (k + i))
  | [], _, _, _, _, _, _, h, _ => by simp at h
  | e :: ds, a, xs, k, 0, d, hn, h, hs => by
    simp only [List.getElem?_cons_zero, Option.some.injEq] at h
    subst h
    unfold fillIn
    rw [fill_old ds _ xs (k + 1) _ ((distinct_cons hn).2 d rfl)]
    simp [Act.put, hs]
  | e :: ds, a, xs, k, i + 1, d, hn, h, hs => by
    unfold fillIn
    have := fill_new ds (a.put e (xs k)) xs (k + 1) i d (distinct_cons hn).1 (by simpa using h) (by cases e <;> simpa [Act.put] using hs)
    rw [this, show k + 1 + i = k + (i + 1) by omega]
theorem eval_old {ds : List (Option Tmp)} {a : Act} {xs : Nat → Value} {d : Tmp} (h : some d ∉ ds) : (fillIn a ds xs 0).eval (.tmp d) = a.eval (.tmp d) := by
  simp only [Act.eval, Array.getD_eq_getD_getElem?, fill_old ds a xs 0 d h]
theorem eval_new {ds : List (Option Tmp)} {a : Act} {xs : Nat → Value} {i : Nat} {d : Tmp} (hn : distinct ds = true) (h : ds[i]? = some (some d)) (hs : d < a.tmps.size) : (fillIn a ds xs 0).eval (.tmp d) = xs i := by
  simp only [Act.eval, Array.getD_eq_getD_getElem?, fill_new ds a xs 0 i d hn h hs]
  simp
/-- The operations one by one. -/
def Steps (rs : List ((Nat → Bool) × TypeId × Array Value)) (P : Program) (Q : Exit → Act → World → Prop) (F : Nat → (Nat → Value) → World → Prop) (G : World → Prop) (a0 : Act) (ds : List (Option Tmp)) (al : Nat → Bool) : List Oper → List (List Nat) → Nat → Prop
  | o :: os, d :: deps, i => (∀ xs w, G w → Facts F xs w d → StepTo rs P Q o (fillIn a0 ds xs 0) w (fun v w' => F i (upd xs i v) w') (al i)) ∧ Steps rs P Q F G a0 ds al os deps (i + 1)
  | _, _, _ => True
theorem steps_cons {rs : List ((Nat → Bool) × TypeId × Array Value)} {F : Nat → (Nat → Value) → World → Prop} {G : World → Prop} {a0 : Act} {ds : List (Option Tmp)} {al : Nat → Bool} {o : Oper} {os : List Oper} {d : List Nat} {deps : List (List Nat)} {i : Nat} (h : ∀ xs w, G w → Facts F xs w d → StepTo rs P Q o (fillIn a0 ds xs 0) w (fun v w' => F i (upd xs i v) w') (al i)) (t : Steps rs P Q F G a0 ds al os deps (i + 1)) : Steps rs P Q F G a0 ds al (o :: os) (d :: deps) i := ⟨h, t⟩
theorem steps_nil {rs : List ((Nat → Bool) × TypeId × Array Value)} {F : Nat → (Nat → Value) → World → Prop} {G : World → Prop} {a0 : Act} {ds : List (Option Tmp)} {al : Nat → Bool} {deps : List (List Nat)} {i : Nat} : Steps rs P Q F G a0 ds al [] deps i := trivial
theorem steps_at {rs : List ((Nat → Bool) × TypeId × Array Value)} {F : Nat → (Nat → Value) → World → Prop} {G : World → Prop} {a0 : Act} {ds : List (Option Tmp)} {al : Nat → Bool} : ∀ (os : List Oper) (deps : List (List Nat)) (k i : Nat) (o : Oper) (d : List Nat), Steps rs P Q F G a0 ds al os deps k → os[i]? = some o → deps[i]? = some d →
    ∀ xs w, G w → Facts F xs w d → StepTo rs P Q o (fillIn a0 ds xs 0) w (fun v w' => F (k + i) (upd xs (k + i) v) w') (al (k + i))
  | [], _, _, _, _, _, _, h, _ => by simp at h
  | _ :: _, [], _, _, _, _, _, _, h => by simp at h
  | o' :: os, d' :: deps, k, 0, o, d, hs, ho, hd => by
    simp only [List.getElem?_cons_zero, Option.some.injEq] at ho hd
    subst ho hd
    exact hs.1
  | o' :: os, d' :: deps, k, i + 1, o, d, hs, ho, hd => by
    have := steps_at os deps (k + 1) i o d hs.2 (by simpa using ho) (by simpa using hd)
    rw [show k + 1 + i = k + (i + 1) by omega] at this
    exact this
def okDeps (ops : Array Oper) (n : Nat) (deps : List (List Nat)) : Bool :=
  decide (deps.length = n) && (List.range n).all fun i => (deps.getD i []).all fun j => decide (j < n) && reach ops ops.size i j
theorem region_stepsX {ds : List (Option Tmp)} {id : Nat} {a0 : Act} {w0 : World} (rs : List ((Nat → Bool) × TypeId × Array Value)) (deps : List (List Nat)) (al : Nat → Bool) (F : Nat → (Nat → Value) → World → Prop) (G : World → Prop) (hm : P.follows .mixedOrders = true) (hok : okRegion ops ds = true) (hdeps : okDeps ops ds.length deps = true)
    (hG : ∀ w w', G w → Ext rs w w' → G w') (hF : ∀ i xs w w', F i xs w → Ext rs w w' → F i xs w') (hdep : ∀ i xs ys w, i < ds.length → F i xs w → (∀ j, (j = i ∨ reach ops ops.size i j = true) → xs j = ys j) → F i ys w) (h0 : G w0.drew)
    (hstep : Steps rs P Q F G a0 ds al (ops.toList.take ds.length) deps 0)
    (hend : ∀ xs w, G w → Apart al ds.length xs → Facts F xs w (List.range ds.length) → wpList P ops Q (ops.toList.drop ds.length) (fillIn a0 ds xs 0) w) :
    (Code.region id ops true).wp P Q a0 w0 := by
  unfold okDeps at hdeps
  simp only [Bool.and_eq_true, decide_eq_true_eq, List.all_eq_true, List.mem_range] at hdeps
  obtain ⟨hlen, hd⟩ := hdeps
  refine region_free rs al hm hok F G hG (fun i v w w' _ h hb => hF i v w w' h hb) hdep h0 (fun i hi o ho xs w hg hf => ?_) fun xs w hg ha hf => hend xs w hg ha (facts_of _ fun j hj => hf j (by simpa using hj))
  have hdi : deps[i]? = some (deps[i]'(by omega)) := List.getElem?_eq_getElem (by omega)
  have := steps_at _ deps 0 i o _ hstep (by rw [List.getElem?_take, if_pos hi]; simpa using ho) hdi xs w hg (facts_of _ fun j hj => by
    have := hd i hi j (by rw [List.getD_eq_getElem?_getD, hdi]; exact hj)
    exact hf j this.1 this.2)
  rw [Nat.zero_add] at this
  exact this.run
/-- What is known of each result by itself. -/
def Own (F : Nat → Value → World → Prop) (i : Nat) (xs : Nat → Value) (w : World) : Prop := F i (xs i) w
theorem region_steps {ds : List (Option Tmp)} {id : Nat} {a0 : Act} {w0 : World} (rs : List ((Nat → Bool) × TypeId × Array Value)) (deps : List (List Nat)) (al : Nat → Bool) (F : Nat → Value → World → Prop) (G : World → Prop) (hm : P.follows .mixedOrders = true) (hok : okRegion ops ds = true) (hdeps : okDeps ops ds.length deps = true)
    (hG : ∀ w w', G w → Ext rs w w' → G w') (hF : ∀ i v w w', F i v w → Ext rs w w' → F i v w') (h0 : G w0.drew)
    (hstep : Steps rs P Q (Own F) G a0 ds al (ops.toList.take ds.length) deps 0)
    (hend : ∀ xs w, G w → Apart al ds.length xs → Facts (Own F) xs w (List.range ds.length) → wpList P ops Q (ops.toList.drop ds.length) (fillIn a0 ds xs 0) w) :
    (Code.region id ops true).wp P Q a0 w0 :=
  region_stepsX rs deps al (Own F) G hm hok hdeps hG (fun i xs w w' h he => hF i (xs i) w w' h he) (fun i xs ys w _ h he => by
    unfold Own at h ⊢
    rw [← he i (.inl rfl)]
    exact h) h0 hstep hend
end
end Go.Proofs.Reg
