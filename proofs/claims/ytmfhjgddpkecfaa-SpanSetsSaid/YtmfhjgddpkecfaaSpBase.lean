/-
  Lists of spans in memory (layer 8).
-/
import Derived.Test.YtmfhjgddpkecfaaSpStep
import Derived.Test.YtmfhjgddpkecfaaProg
import Derived.WalkKit
import Derived.WalkSpells
import Derived.WalkLawsBesides
import Derived.BigQuiet
import Derived.Deep.QuietTactic
import Derived.Lib.Hide
import Derived.Lib.OthersKept
import Derived.Lib.SmallJoins
import Derived.ProofKit
import Derived.Below
import Derived.OwnWalk
import Derived.LoopTactic
import Derived.Deep.Onto
import Derived.Deep.AppendLies
namespace Go.Proofs.Ytmfhjgddpkecfaa.Sp
open Go.RowKit

theorem stepB {w W W' : World} (h : Below w.heap.size w W) (k : Below W.heap.size W W') : Below w.heap.size w W' := h.trans (k.mono h.size)
theorem below_drewN {B : Nat} {w W : World} (h : Below B w W) (n : Nat) : Below B w (W.drewN n) := ⟨h.os, h.tape, h.output, h.size, h.block⟩
/-- The cells of a span, of a list of spans. -/
def spC (x : Spn) : List Value := [.int .i64 x.1, .int .i64 x.2]
def spsC : List Spn → List Value
  | [] => []
  | x :: r => spC x ++ spsC r
theorem spsC_app : ∀ l m : List Spn, spsC (l ++ m) = spsC l ++ spsC m
  | [], _ => rfl
  | x :: l, m => by rw [List.cons_append, spsC, spsC, spsC_app l m, List.append_assoc]
theorem spsC_len : ∀ l : List Spn, (spsC l).length = l.length * 2
  | [] => rfl
  | x :: l => by rw [spsC, List.length_append, spsC_len l, List.length_cons]; show 2 + _ = _; omega
theorem spsC_at : ∀ (l : List Spn) (j : Nat) (x : Spn), l[j]? = some x → (spsC l)[j * 2]? = some (.int .i64 x.1) ∧ (spsC l)[j * 2 + 1]? = some (.int .i64 x.2)
  | [], _, _, h => by simp at h
  | y :: l, 0, x, h => by
    simp at h
    subst h
    exact ⟨rfl, rfl⟩
  | y :: l, j + 1, x, h => by
    have := spsC_at l j x (by simpa using h)
    have e : ∀ i, (spsC (y :: l))[(j + 1) * 2 + i]? = (spsC l)[j * 2 + i]? := fun i => by
      rw [spsC, List.getElem?_append_right (by show 2 ≤ _; omega)]
      show (spsC l)[(j + 1) * 2 + i - 2]? = _
      congr 1; omega
    exact ⟨(e 0).trans this.1, (e 1).trans this.2⟩
theorem spsC_set : ∀ (l : List Spn) (j : Nat) (x : Spn), j < l.length → ((spsC l).set (j * 2) (.int .i64 x.1)).set (j * 2 + 1) (.int .i64 x.2) = spsC (l.set j x)
  | [], _, _, h => absurd h (Nat.not_lt_zero _)
  | y :: l, 0, x, _ => by
    rw [List.set_cons_zero, spsC, spsC]; rfl
  | y :: l, j + 1, x, h => by
    have ih := spsC_set l j x (by simpa using h)
    rw [List.set_cons_succ, spsC, spsC, ← ih, show (j + 1) * 2 = j * 2 + 1 + 1 by omega]
    show (((_ :: _ :: spsC l).set (j * 2 + 1 + 1) _).set (j * 2 + 1 + 1 + 1) _) = _ :: _ :: _
    rw [List.set_cons_succ, List.set_cons_succ, List.set_cons_succ, List.set_cons_succ]; rfl
theorem spsC_setB : ∀ (l : List Spn) (j : Nat) (x : Spn) (b : Int), l[j]? = some x → (spsC l).set (j * 2 + 1) (.int .i64 b) = spsC (l.set j (x.1, b))
  | [], _, _, _, h => by simp at h
  | y :: l, 0, x, b, h => by
    simp at h
    subst h
    rw [List.set_cons_zero, spsC, spsC]; rfl
  | y :: l, j + 1, x, b, h => by
    have ih := spsC_setB l j x b (by simpa using h)
    rw [List.set_cons_succ, spsC, spsC, ← ih, show (j + 1) * 2 = j * 2 + 1 + 1 by omega]
    show ((_ :: _ :: spsC l).set (j * 2 + 1 + 1 + 1) _) = _ :: _ :: _
    rw [List.set_cons_succ, List.set_cons_succ]; rfl
/-- The spans l, in a row of the call's own. -/
def OwnS (w : World) (B : Nat) (v : Value) (l : List Spn) : Prop := w.ownsRow B 38 2 v l.length (spsC l)
theorem OwnS.nil (w : World) (B : Nat) : OwnS w B (.slice none 0 0) [] := World.ownsRow_nil _ _ _ _
theorem OwnS.alloc {w : World} {B : Nat} {v : Value} {l : List Spn} (h : OwnS w B v l) (o : Obj) : OwnS (w.alloc o) B v l := World.ownsRow.alloc h o
theorem OwnS.lt {w : World} {B : Nat} {v : Value} {l : List Spn} (h : OwnS w B v l) : ∀ k, v.ownBlock = some k → B ≤ k := fun k hk => (World.ownsRow.lt h k hk).1
theorem own_below {w w' : World} {B n z : Nat} {T : TypeId} {v : Value} {xs : List Value} (h : w.ownsRow B T z v n xs) (hb : Below w.heap.size w w') : w'.ownsRow B T z v n xs :=
  h.kept (row := none) ⟨hb.os, hb.tape, hb.output, hb.size, fun k hk _ => hb.block k hk⟩ (by cases hv : v.ownBlock <;> simp)
theorem OwnS.below {w w' : World} {B : Nat} {v : Value} {l : List Spn} (h : OwnS w B v l) (hb : Below w.heap.size w w') : OwnS w' B v l := World.ownsRow.kept (row := none) h ⟨hb.os, hb.tape, hb.output, hb.size, fun k hk _ => hb.block k hk⟩ (by cases hv : v.ownBlock <;> simp)
theorem OwnS.mono {w : World} {B B' : Nat} {v : Value} {l : List Spn} (h : OwnS w B v l) (hb : B' ≤ B) : OwnS w B' v l := by
  refine ⟨h.1, h.2.imp id ?_⟩
  rintro ⟨g, cap, cur, h1, h2, h3⟩
  exact ⟨g, cap, cur, h1, Nat.le_trans hb h2, h3⟩
theorem OwnS.snoc {w : World} {B : Nat} {v : Value} {l : List Spn} {x : Spn} (h : w.ownsRow B 38 2 v (l.length + 1) (spsC l ++ spC x)) : OwnS w B v (l ++ [x]) := by
  unfold OwnS
  rw [List.length_append, spsC_app]
  show w.ownsRow B _ 2 v (l.length + 1) (spsC l ++ (spC x ++ []))
  rw [List.append_nil]; exact h
theorem OwnS.form {w : World} {B : Nat} {v : Value} {l : List Spn} (h : OwnS w B v l) : (v = .slice none 0 0 ∧ l = []) ∨ ∃ g c, v = .slice (some ⟨g, 0, none⟩) l.length c ∧ B ≤ g ∧ g < w.heap.size := by
  rcases h.2 with ⟨rfl, h0⟩ | ⟨g, cap, cur, rfl, hb, hg, _⟩
  · exact Or.inl ⟨rfl, List.eq_nil_of_length_eq_zero h0⟩
  · exact Or.inr ⟨g, cap, rfl, hb, (Array.getElem?_eq_some_iff.1 hg).1⟩
theorem OwnS.at_ {w : World} {B g c n : Nat} {l : List Spn} (h : OwnS w B (.slice (some ⟨g, 0, none⟩) n c) l) {j : Nat} {x : Spn} (hj : l[j]? = some x) : w.cell? ⟨g, j * 2, none⟩ = some (.int .i64 x.1) ∧ w.cell? ⟨g, j * 2 + 1, none⟩ = some (.int .i64 x.2) := by
  have h' : w.ownsRow B 38 2 (.slice (some ⟨g, 0, none⟩) l.length c) l.length (spsC l) := by
    obtain rfl : n = l.length := by
      rcases h.2 with ⟨e, _⟩ | ⟨_, _, _, e, _⟩
      · cases e
      · cases e; rfl
    exact h
  have hl := spsC_at l j x hj
  have hlt : j < l.length := (List.getElem?_eq_some_iff.1 hj).1
  exact ⟨(h'.cellAt _ (by omega)).trans hl.1, (h'.cellAt _ (by omega)).trans hl.2⟩
theorem OwnS.frozen {w : World} {B g c n : Nat} {l : List Spn} (h : OwnS w B (.slice (some ⟨g, 0, none⟩) n c) l) (j : Nat) : w.frozen? ⟨g, j, none⟩ = false := by
  obtain rfl : n = l.length := by
    rcases h.2 with ⟨e, _⟩ | ⟨_, _, _, e, _⟩
    · cases e
    · cases e; rfl
  exact World.ownsRow.frozenAt h j
theorem OwnS.set {w : World} {B g c n : Nat} {l : List Spn} (h : OwnS w B (.slice (some ⟨g, 0, none⟩) n c) l) {j : Nat} (hj : j < l.length) (x : Spn) :
    OwnS ((w.setCell ⟨g, j * 2, none⟩ (.int .i64 x.1)).setCell ⟨g, j * 2 + 1, none⟩ (.int .i64 x.2)) B (.slice (some ⟨g, 0, none⟩) n c) (l.set j x) := by
  obtain rfl : n = l.length := by
    rcases h.2 with ⟨e, _⟩ | ⟨_, _, _, e, _⟩
    · cases e
    · cases e; rfl
  have h1 := (World.ownsRow.stored h (j * 2) (.int .i64 x.1)).1
  have h2 := (World.ownsRow.stored h1 (j * 2 + 1) (.int .i64 x.2)).1
  unfold OwnS
  rw [List.length_set, ← spsC_set l j x hj]
  exact h2
theorem OwnS.setB {w : World} {B g c n : Nat} {l : List Spn} (h : OwnS w B (.slice (some ⟨g, 0, none⟩) n c) l) {j : Nat} {x : Spn} (hj : l[j]? = some x) (b : Int) :
    OwnS (w.setCell ⟨g, j * 2 + 1, none⟩ (.int .i64 b)) B (.slice (some ⟨g, 0, none⟩) n c) (l.set j (x.1, b)) := by
  obtain rfl : n = l.length := by
    rcases h.2 with ⟨e, _⟩ | ⟨_, _, _, e, _⟩
    · cases e
    · cases e; rfl
  have h1 := (World.ownsRow.stored h (j * 2 + 1) (.int .i64 b)).1
  unfold OwnS
  rw [List.length_set, ← spsC_setB l j x b hj]
  exact h1
/-- A slice of spans in memory. -/
structure SpnAt (w : World) (b off c : Nat) (l : List Spn) : Prop where
  lt : b < w.heap.size
  cap : l.length ≤ c
  at_ : ∀ j x, l[j]? = some x → w.cell? ⟨b, off + j * 2, none⟩ = some (.int .i64 x.1) ∧ w.cell? ⟨b, off + j * 2 + 1, none⟩ = some (.int .i64 x.2)
def Spns (w : World) (v : Value) (l : List Spn) : Prop := ∃ p c, v = .slice p l.length c ∧ l.length ≤ c ∧ (0 < l.length → ∃ b off, p = some ⟨b, off, none⟩ ∧ SpnAt w b off c l)
theorem SpnAt.below {w w' : World} {b off c : Nat} {l : List Spn} (h : SpnAt w b off c l) (hb : Below w.heap.size w w') : SpnAt w' b off c l :=
  ⟨Nat.lt_of_lt_of_le h.lt hb.size, h.cap, fun j x hj => ⟨(hb.cell h.lt).trans (h.at_ j x hj).1, (hb.cell h.lt).trans (h.at_ j x hj).2⟩⟩
theorem Spns.below {w w' : World} {v : Value} {l : List Spn} (h : Spns w v l) (hb : Below w.heap.size w w') : Spns w' v l := by
  obtain ⟨p, c, hv, hlc, hc⟩ := h
  refine ⟨p, c, hv, hlc, fun h0 => ?_⟩
  obtain ⟨b, off, hp, hn⟩ := hc h0
  exact ⟨b, off, hp, hn.below hb⟩
theorem Spns.open {w : World} {v : Value} {l : List Spn} (h : Spns w v l) (h0 : 0 < l.length) : ∃ b off c, v = .slice (some ⟨b, off, none⟩) l.length c ∧ SpnAt w b off c l := by
  obtain ⟨p, c, hv, hlc, hc⟩ := h
  obtain ⟨b, off, rfl, ha⟩ := hc h0
  exact ⟨b, off, c, hv, ha⟩
theorem Spns.nil {w : World} {v : Value} {l : List Spn} (h : Spns w v l) : ∃ p c, v = .slice p l.length c := by
  obtain ⟨p, c, hv, _⟩ := h
  exact ⟨p, c, hv⟩
theorem OwnS.spns {w : World} {B : Nat} {v : Value} {l : List Spn} (h : OwnS w B v l) : Spns w v l := by
  rcases h.form with ⟨rfl, rfl⟩ | ⟨g, c, rfl, _, hg⟩
  · exact ⟨none, 0, rfl, Nat.le_refl _, fun h => absurd h (Nat.lt_irrefl _)⟩
  · have hcap : l.length ≤ c := by
      rcases h.2 with ⟨e, _⟩ | ⟨_, _, _, e, _, _, h5, _⟩
      · cases e
      · cases e; exact h5
    refine ⟨_, c, rfl, hcap, fun _ => ⟨g, 0, rfl, hg, hcap, fun j x hj => ?_⟩⟩
    have := h.at_ hj
    simpa using this
theorem room2 {n : Nat} (h : n ≤ 1000000) : n + 1 ≤ maxLen ∧ (n + 1) * 16 ≤ 140737488355328 := ⟨by unfold maxLen; omega, by omega⟩
theorem ones2 (a b : Int) : ∀ u ∈ [Value.int .i64 a, .int .i64 b], u.oneCell' = true := fun u hu => by
  simp at hu
  rcases hu with rfl | rfl <;> rfl
theorem info_spn : (Try.prog.info? 38).map (fun i => (i.zero, i.size, i.bytes)) = some (some (.agg #[.int .i64 0, .int .i64 0]), 2, 16) := by kernel_rfl
theorem news2 (W : World) (a b : Value) : ∀ j u, [a, b][j]? = some u → (W.alloc (.cells #[a, b] 38)).cell? ((⟨W.heap.size, 0, none⟩ : Addr).add j) = some u :=
  World.news_of_block (cs := #[a, b]) (t := 38) (fr := (0, 0)) (heap_alloc_new W _)
def I64 (l : List Spn) : Prop := Ends (-9223372036854775808) 9223372036854775807 l
def In64 (z : Int) : Prop := -9223372036854775808 ≤ z ∧ z ≤ 9223372036854775807
end Go.Proofs.Ytmfhjgddpkecfaa.Sp
