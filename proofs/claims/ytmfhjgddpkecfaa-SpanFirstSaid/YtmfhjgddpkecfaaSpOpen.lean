/-
  Spans and lists of spans that came in, opened.
-/
import Derived.Test.YtmfhjgddpkecfaaSpBase
import Derived.Deep.Slices
import Derived.OpenShut
import Derived.ShutString
import Derived.ChangeOld
import Derived.Carry
namespace Go.Proofs.Ytmfhjgddpkecfaa.Sp
open Go.RowKit

/-- A slice of spans with numbers of 64 bits. -/
def SpnA (w : World) (v : Value) (l : List Spn) : Prop := Spns w v l ∧ I64 l
theorem spn_cells {H : Type} {enc : TypeId × Value → H} {W : World} {base : Nat} {spare : Nat → Bool} {held : Bool} {n : Nat} {cs : List Value} {x : DataW H × List MemPlace}
    (h : DataW.trod enc Try.prog W base spare held n 38 cs = some x) : ∃ y : Spn, cs = [.int .i64 y.1, .int .i64 y.2] ∧ In64 y.1 ∧ In64 y.2 := by
  have hc1 : Try.prog.cellsOf 3 = 1 := by kernel_rfl
  have hc2 : Try.prog.cellsOf 38 = 2 := by kernel_rfl
  obtain ⟨ys, m, _, hx, hlen, hl, hf⟩ := Go.DataW.trod_struct Try.underlying38 h
  rw [hc2] at hlen
  match cs, hlen with
  | [c0, c1], _ =>
    match ys, hl with
    | [y0, y1], _ =>
      have h0 := hf 0 _ rfl
      have h1 := hf 1 _ rfl
      simp [hc1] at h0 h1
      obtain ⟨a, ea, _, wa⟩ := Go.DataW.trod_int Try.underlying3 h0
      obtain ⟨b, eb, _, wb⟩ := Go.DataW.trod_int Try.underlying3 h1
      simp only [List.cons.injEq, and_true] at ea eb
      exact ⟨(a, b), by rw [ea, eb], bounds_i64 wa, bounds_i64 wb⟩
theorem spns_raw {H : Type} {enc : TypeId × Value → H} {W : World} {base : Nat} {spare : Nat → Bool} {held : Bool} {n : Nat} {cs : List Value} {z : DataW H × List MemPlace}
    (hf : DataW.trod enc Try.prog W base spare held n 22 cs = some z) : ∃ (va : Value) (l : List Spn), cs = [va] ∧ SpnA W va l := by
  have hc2 : Try.prog.cellsOf 38 = 2 := by kernel_rfl
  rcases Go.Deep.open_slice Try.underlying22 hf with ⟨hcs, _⟩ | ⟨x, len, cap, m, n, D, Pl, hcs, _, hl, hm, hmm, _, hel⟩
  · exact ⟨_, [], hcs, ⟨none, 0, rfl, Nat.le_refl _, fun h => absurd h (by simp)⟩, fun x hx => by simp at hx⟩
  · have hlm : len ≤ m := by rw [hmm]; split <;> omega
    rw [hc2] at hel
    have each : ∀ j, ∃ t : Spn, j < len → (In64 t.1 ∧ In64 t.2) ∧ W.cell? ((x.add (j * 2)).add 0) = some (.int .i64 t.1) ∧ W.cell? ((x.add (j * 2)).add 1) = some (.int .i64 t.2) := by
      intro j
      by_cases hj : j < len
      · obtain ⟨cs', hcells, htr⟩ := hel j (by omega)
        obtain ⟨y, rfl, hy⟩ := spn_cells htr
        obtain ⟨_, _, hat⟩ := World.cells?_some hcells
        exact ⟨y, fun _ => ⟨hy, hat 0 (by omega), hat 1 (by omega)⟩⟩
      · exact ⟨(0, 0), fun h => absurd h hj⟩
    obtain ⟨Z, hZ⟩ := Classical.axiomOfChoice each
    have hlz : ((List.range len).map Z).length = len := by simp
    refine ⟨_, (List.range len).map Z, hcs, ⟨some x, cap, by rw [hlz], by rw [hlz]; exact hl, fun h0 => ?_⟩, fun y hy => ?_⟩
    · have h0' : 0 < len := by simpa using h0
      have hc0 := (hZ 0 h0').2.1
      obtain ⟨b, off, spot⟩ := x
      have hspot : spot = none := by simpa [Addr.add] using World.cell?_spot hc0
      subst hspot
      refine ⟨b, off, rfl, ?_, by rw [hlz]; exact hl, fun j y hj => ?_⟩
      · have := World.block_lt_of_cell? W _ hc0
        simpa [Addr.add] using this
      · have hj' : j < len := by have := (List.getElem?_eq_some_iff.1 hj).1; rw [hlz] at this; exact this
        have hy : y = Z j := by
          rw [List.getElem?_map, List.getElem?_range hj'] at hj
          simpa using hj.symm
        subst hy
        obtain ⟨h1, k0, k1⟩ := hZ j hj'
        simp only [Go.WideShapes.add_plain, Nat.add_zero] at k0 k1
        exact ⟨k0, k1⟩
    · obtain ⟨j, hj, rfl⟩ := List.mem_map.1 hy
      exact (hZ j (List.mem_range.1 hj)).1
theorem spns_arg {H : Type} {enc : TypeId × Value → H} {W : World} {base : Nat} {spare : Nat → Bool} {held : Bool} {a : Option Addr} {len cap : Nat} {d : DataW H} {p : List MemPlace}
    (h : ∃ fuel, DataW.trod enc Try.prog W base spare held fuel 22 (Value.slice a len cap).cells.toList = some (d, p)) : ∃ L : List Spn, SpnA W (.slice a len cap) L := by
  obtain ⟨fuel, hf⟩ := h
  obtain ⟨va, l, e, h⟩ := spns_raw hf
  have e2 : va = .slice a len cap := by simpa [Value.cells] using e.symm
  rw [e2] at h
  exact ⟨l, h⟩
/-- A span by value. -/
theorem span_arg {H : Type} {enc : TypeId × Value → H} {W : World} {base b0 : Nat} {spare : Nat → Bool} {held : Bool} {r : Go.Reach} {v : Value} {d : DataW H} {p : List MemPlace}
    (hv : Value.okWide Try.prog W r b0 38 v) (h : DataW.Trod enc Try.prog W base spare held 38 v d p) :
    ∃ (i n : Int), v = .agg #[.int .i64 i, .int .i64 n] ∧ In64 i ∧ In64 n := by
  obtain ⟨cs, rfl, hsz⟩ := WideShapes.okWide_struct Try.underlying38 hv
  obtain ⟨fuel, hf⟩ := h
  obtain ⟨y, hy, h1, h2⟩ := spn_cells hf
  obtain ⟨cl⟩ := cs
  have : cl = [.int .i64 y.1, .int .i64 y.2] := by simpa [Value.cells] using hy
  subst this
  exact ⟨y.1, y.2, rfl, h1, h2⟩
end Go.Proofs.Ytmfhjgddpkecfaa.Sp
