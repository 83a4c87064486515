/-
  Regions by facts: the facts as items, each with what keeps it.
-/
import Derived.Test.YtnpgikjahfhaoaaRegion
namespace Go.Proofs.Reg
open Go.RowKit

abbrev Rows := List ((Nat → Bool) × TypeId × Array Value)
/-- Block g is a row. -/
def Row (w : World) (g : Nat) (t : TypeId) (cs : Array Value) : Prop := w.heap[g]? = some (.cells cs t (0, 0))
/-- A fact on the results and the world, which what the list of rows allows keeps, and which looks at some results only. -/
structure Item (rs : Rows) where
  P : (Nat → Value) → World → Prop
  uses : List Nat
  mono : ∀ xs w w', P xs w → Ext rs w w' → P xs w'
  agree : ∀ xs ys w, P xs w → (∀ j ∈ uses, xs j = ys j) → P ys w
def Item.none (rs : Rows) : Item rs := ⟨fun _ _ => True, [], fun _ _ _ _ _ => trivial, fun _ _ _ _ _ => trivial⟩
/-- Result i is u. -/
def Item.is (rs : Rows) (i : Nat) (u : Value) : Item rs := ⟨fun xs _ => xs i = u, [i], fun _ _ _ h _ => h, fun _ _ _ h he => (he i (by simp)).symm.trans h⟩
/-- Result i points to a new row. -/
def Item.ptr (rs : Rows) (i B : Nat) (t : TypeId) (cs : Array Value) (hn : ∀ r ∈ rs, ∀ k, B ≤ k → r.1 k = false) : Item rs :=
  ⟨fun xs w => ∃ g, B ≤ g ∧ xs i = .pointer (some ⟨g, 0, Option.none⟩) ∧ Row w g t cs, [i], fun _ _ _ h he => by
    obtain ⟨g, hg, hx, hr⟩ := h
    exact ⟨g, hg, hx, he.row hr fun r h => hn r h g hg⟩, fun _ _ _ h he => by
    obtain ⟨g, hg, hx, hr⟩ := h
    exact ⟨g, hg, (he i (by simp)).symm.trans hx, hr⟩⟩
/-- Result i points to a new row, which is old or new. -/
def Item.ptr2 (rs : Rows) (i B : Nat) (t : TypeId) (old new : Array Value) (hn : ∀ r ∈ rs, ∀ k, B ≤ k → r.1 k = true → r.2.1 = t ∧ r.2.2 = new) : Item rs :=
  ⟨fun xs w => ∃ g, B ≤ g ∧ xs i = .pointer (some ⟨g, 0, Option.none⟩) ∧ (Row w g t old ∨ Row w g t new), [i], fun _ _ _ h he => by
    obtain ⟨g, hg, hx, hr⟩ := h
    refine ⟨g, hg, hx, ?_⟩
    rcases hr with hr | hr
    · rcases he.either hr with e | ⟨r, hm, hk, e⟩
      · exact .inl e
      · obtain ⟨h1, h2⟩ := hn r hm g hg hk
        rw [h1, h2] at e
        exact .inr e
    · exact .inr (he.done hr fun r hm hk => hn r hm g hg hk), fun _ _ _ h he => by
    obtain ⟨g, hg, hx, hr⟩ := h
    exact ⟨g, hg, (he i (by simp)).symm.trans hx, hr⟩⟩
/-- The row to which result i points is new. -/
def Item.own (rs : Rows) (i B : Nat) (t : TypeId) (new : Array Value) (hn : ∀ r ∈ rs, ∀ k, B ≤ k → r.1 k = true → r.2.1 = t ∧ r.2.2 = new) : Item rs :=
  ⟨fun xs w => ∃ g, B ≤ g ∧ xs i = .pointer (some ⟨g, 0, Option.none⟩) ∧ Row w g t new, [i], fun _ _ _ h he => by
    obtain ⟨g, hg, hx, hr⟩ := h
    exact ⟨g, hg, hx, he.done hr fun r hm hk => hn r hm g hg hk⟩, fun _ _ _ h he => by
    obtain ⟨g, hg, hx, hr⟩ := h
    exact ⟨g, hg, (he i (by simp)).symm.trans hx, hr⟩⟩
/-- Block g is a row, as the list says or untouched by it. -/
def Item.row (rs : Rows) (g : Nat) (t : TypeId) (cs : Array Value) (hn : ∀ r ∈ rs, r.1 g = true → r.2.1 = t ∧ r.2.2 = cs) : Item rs :=
  ⟨fun _ w => Row w g t cs, [], fun _ _ _ h he => he.done h hn, fun _ _ _ h _ => h⟩
/-- Blocks that stay, a result's row that is old or new, and nothing else of what was there has changed. -/
structure Keep (ks : List (Nat × TypeId × Array Value)) (R : Nat) (t : TypeId) (old new : Array Value) (w0 w : World) : Prop where
  rows : ∀ k ∈ ks, Row w k.1 k.2.1 k.2.2
  res : Row w R t old ∨ Row w R t new
  below : Below w0.heap.size w0 w
theorem Keep.ext {ks : List (Nat × TypeId × Array Value)} {R : Nat} {t : TypeId} {old new : Array Value} {w0 wa wb : World} {rs : Rows} (h : Keep ks R t old new w0 wa) (he : Ext rs wa wb) (hks : ∀ r ∈ rs, ∀ k ∈ ks, r.1 k.1 = false) (hR : ∀ r ∈ rs, r.1 R = true → r.2.1 = t ∧ r.2.2 = new) (hB : ∀ r ∈ rs, ∀ k, k < w0.heap.size → r.1 k = false) : Keep ks R t old new w0 wb := by
  obtain ⟨h1, h2, h3⟩ := h
  refine ⟨fun k hk => he.row (h1 k hk) fun r hr => hks r hr k hk, ?_, he.below h3 h3.size hB⟩
  rcases h2 with h2 | h2
  · rcases he.either h2 with e | ⟨r, hm, hk, e⟩
    · exact .inl e
    · obtain ⟨e1, e2⟩ := hR r hm hk
      rw [e1, e2] at e
      exact .inr e
  · exact .inr (he.done h2 hR)

section
variable {P : Program} {ops : Array Oper} {Q : Exit → Act → World → Prop}
def itemF {rs : Rows} (L : List (Item rs)) (i : Nat) (xs : Nat → Value) (w : World) : Prop := (L.getD i (Item.none rs)).P xs w
def okUses (ops : Array Oper) (us : List (List Nat)) : Bool := (List.range us.length).all fun i => (us.getD i []).all fun j => j == i || reach ops ops.size i j
theorem region_kit {ds : List (Option Tmp)} {id : Nat} {a0 : Act} {w0 : World} (rs : Rows) (deps : List (List Nat)) (al : Nat → Bool) (L : List (Item rs)) (G : World → Prop) (hm : P.follows .mixedOrders = true) (hok : okRegion ops ds = true) (hdeps : okDeps ops ds.length deps = true) (huses : okUses ops (L.map (·.uses)) = true)
    (hG : ∀ w w', G w → Ext rs w w' → G w') (h0 : G w0.drew)
    (hstep : Steps rs P Q (itemF L) G a0 ds al (ops.toList.take ds.length) deps 0)
    (hend : ∀ xs w, G w → Apart al ds.length xs → Facts (itemF L) xs w (List.range ds.length) → wpList P ops Q (ops.toList.drop ds.length) (fillIn a0 ds xs 0) w) :
    (Code.region id ops true).wp P Q a0 w0 :=
  region_stepsX rs deps al (itemF L) G hm hok hdeps hG (fun i xs w w' h he => (L.getD i (Item.none rs)).mono xs w w' h he) (fun i xs ys w _ h he => by
    refine (L.getD i (Item.none rs)).agree xs ys w h fun j hj => he j ?_
    unfold okUses at huses
    simp only [List.all_eq_true, List.mem_range, List.length_map, Bool.or_eq_true, beq_iff_eq] at huses
    by_cases hi : i < L.length
    · have e : (L.getD i (Item.none rs)).uses = (L.map (·.uses)).getD i [] := by
        simp [List.getD_eq_getElem?_getD, hi]
      rw [e] at hj
      exact huses i hi j hj
    · have e : L.getD i (Item.none rs) = Item.none rs := by simp [List.getD_eq_getElem?_getD, List.getElem?_eq_none (show L.length ≤ i by omega)]
      rw [e] at hj
      simp [Item.none] at hj) h0 hstep hend
end
end Go.Proofs.Reg
