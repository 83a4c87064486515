/-
  A list of lexemes that came in, opened (layer 7).
-/
import Derived.Test.YtdpnmlgadieamaaLxLaw
import Derived.Deep.Slices
import Derived.OpenShut
import Derived.ShutString
import Derived.ChangeOld
namespace Go.Proofs.Ytdpnmlgadieamaa.Lx
open Go.RowKit

/-- A slice of lexemes with numbers of 64 bits. -/
def LexA (w : World) (v : Value) (l : List LexI) : Prop := Lexs w v l ∧ ∀ x ∈ l, In64 x.n
theorem lex_cells {H : Type} {enc : TypeId × Value → H} {W : World} {base : Nat} {spare : Nat → Bool} {held : Bool} {n : Nat} {cs : List Value} {x : DataW H × List MemPlace}
    (h : DataW.trod enc Try.prog W base spare held n 35 cs = some x) : ∃ y : LexI, cs = [.int .i64 y.k, .string (toS y.t), .int .i64 y.n, .int .i64 y.a] ∧ In64 y.n := by
  have hc1 : Try.prog.cellsOf 3 = 1 := by kernel_rfl
  have hcs : Try.prog.cellsOf 9 = 1 := by kernel_rfl
  have hc4 : Try.prog.cellsOf 35 = 4 := by kernel_rfl
  obtain ⟨ys, m, _, hx, hlen, hl, hf⟩ := Go.DataW.trod_struct Try.underlying35 h
  rw [hc4] at hlen
  match cs, hlen with
  | [c0, c1, c2, c3], _ =>
    match ys, hl with
    | [y0, y1, y2, y3], _ =>
      have h0 := hf 0 _ rfl
      have h1 := hf 1 _ rfl
      have h2 := hf 2 _ rfl
      have h3 := hf 3 _ rfl
      simp [hc1, hcs] at h0 h1 h2 h3
      obtain ⟨a, ea, _, wa⟩ := Go.DataW.trod_int Try.underlying3 h0
      obtain ⟨s, es, _, ws⟩ := Go.DataW.trod_string Try.underlying9 h1
      obtain ⟨b, eb, _, wb⟩ := Go.DataW.trod_int Try.underlying3 h2
      obtain ⟨c, ec, _, wc⟩ := Go.DataW.trod_int Try.underlying3 h3
      simp only [List.cons.injEq, and_true] at ea es eb ec
      exact ⟨⟨a, s.data.toList, b, c⟩, by rw [ea, es, eb, ec, toS_data], bounds_i64 wb⟩
theorem block_lt_of_cell {w : World} {a : Addr} {v : Value} (h : w.cell? a = some v) : a.block < w.heap.size := World.block_lt_of_cell? w a h
theorem lexs_arg {H : Type} {enc : TypeId × Value → H} {W : World} {base : Nat} {spare : Nat → Bool} {held : Bool} {a : Option Addr} {len cap : Nat} {d : DataW H} {p : List MemPlace}
    (h : ∃ fuel, DataW.trod enc Try.prog W base spare held fuel 23 (Value.slice a len cap).cells.toList = some (d, p)) : ∃ L : List LexI, LexA W (.slice a len cap) L := by
  obtain ⟨fuel, hf⟩ := h
  have hc4 : Try.prog.cellsOf 35 = 4 := by kernel_rfl
  rcases Go.Deep.open_slice Try.underlying23 hf with ⟨hcs, _⟩ | ⟨x, l, c, m, n, D, Pl, hcs, _, hl, hm, hmm, _, hel⟩
  · simp [Value.cells] at hcs
    obtain ⟨rfl, rfl, rfl⟩ := hcs
    exact ⟨[], ⟨none, 0, rfl, Nat.le_refl _, fun h => absurd h (by simp)⟩, fun x hx => by simp at hx⟩
  · simp [Value.cells] at hcs
    obtain ⟨rfl, rfl, rfl⟩ := hcs
    have hlm : len ≤ m := by rw [hmm]; split <;> omega
    rw [hc4] at hel
    have each : ∀ j, ∃ t : LexI, j < len → In64 t.n ∧ W.cell? ((x.add (j * 4)).add 0) = some (.int .i64 t.k) ∧ W.cell? ((x.add (j * 4)).add 1) = some (.string (toS t.t)) ∧ W.cell? ((x.add (j * 4)).add 2) = some (.int .i64 t.n) ∧ W.cell? ((x.add (j * 4)).add 3) = some (.int .i64 t.a) := by
      intro j
      by_cases hj : j < len
      · obtain ⟨cs', hcells, htr⟩ := hel j (by omega)
        obtain ⟨y, rfl, hy⟩ := lex_cells htr
        obtain ⟨_, _, hat⟩ := World.cells?_some hcells
        exact ⟨y, fun _ => ⟨hy, hat 0 (by omega), hat 1 (by omega), hat 2 (by omega), hat 3 (by omega)⟩⟩
      · exact ⟨⟨0, [], 0, 0⟩, fun h => absurd h hj⟩
    obtain ⟨Z, hZ⟩ := Classical.axiomOfChoice each
    have hlz : ((List.range len).map Z).length = len := by simp
    refine ⟨(List.range len).map Z, ⟨some x, cap, by rw [hlz], by rw [hlz]; exact hl, fun h0 => ?_⟩, fun y hy => ?_⟩
    · have h0' : 0 < len := by simpa using h0
      have hc0 := (hZ 0 h0').2.1
      obtain ⟨b, off, spot⟩ := x
      have hspot : spot = none := by simpa [Addr.add] using World.cell?_spot hc0
      subst hspot
      refine ⟨b, off, rfl, ?_, by rw [hlz]; exact hl, fun j y hj => ?_⟩
      · have := block_lt_of_cell hc0
        simpa [Addr.add] using this
      · have hj' : j < len := by have := (List.getElem?_eq_some_iff.1 hj).1; rw [hlz] at this; exact this
        have hy : y = Z j := by
          rw [List.getElem?_map, List.getElem?_range hj'] at hj
          simpa using hj.symm
        subst hy
        obtain ⟨h1, k0, k1, k2, k3⟩ := hZ j hj'
        simp only [Go.WideShapes.add_plain, Nat.add_zero] at k0 k1 k2 k3
        exact ⟨k0, k1, k2, k3⟩
    · obtain ⟨j, hj, rfl⟩ := List.mem_map.1 hy
      exact (hZ j (List.mem_range.1 hj)).1
end Go.Proofs.Ytdpnmlgadieamaa.Lx
