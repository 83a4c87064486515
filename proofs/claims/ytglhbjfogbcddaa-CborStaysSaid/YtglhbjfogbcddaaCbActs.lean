/-
  A list of reads (structs of three ints) that came in, opened.
-/
import Derived.Test.YtglhbjfogbcddaaCbSlices
import Derived.Deep.Slices
namespace Go.Proofs.Ytglhbjfogbcddaa.Cb
open Go.RowKit

/-- An int of 64 bits. -/
def In64 (z : Int) : Prop := -9223372036854775808 ≤ z ∧ z ≤ 9223372036854775807
/-- A slice of structs of three ints in memory. -/
def Acts (w : World) (v : Value) (L : List (Int × Int × Int)) : Prop :=
  ∃ p c, v = .slice p L.length c ∧ (0 < L.length → ∃ b off, p = some ⟨b, off, none⟩ ∧ b < w.heap.size ∧ ∀ j, j < L.length → ∃ x y z, L.getD j (0, 0, 0) = (x, y, z) ∧ In64 x ∧ In64 y ∧ In64 z ∧
    w.cell? ⟨b, off + j * 3, none⟩ = some (.int .i64 x) ∧ w.cell? ⟨b, off + j * 3 + 1, none⟩ = some (.int .i64 y) ∧ w.cell? ⟨b, off + j * 3 + 2, none⟩ = some (.int .i64 z))
theorem act_cells {H : Type} {enc : TypeId × Value → H} {W : World} {base : Nat} {spare : Nat → Bool} {held : Bool} {n : Nat} {cs : List Value} {x : DataW H × List MemPlace}
    (h : DataW.trod enc Try.prog W base spare held n 33 cs = some x) : ∃ a b c, cs = [.int .i64 a, .int .i64 b, .int .i64 c] ∧ In64 a ∧ In64 b ∧ In64 c := by
  have hc1 : Try.prog.cellsOf 3 = 1 := by kernel_rfl
  have hc3 : Try.prog.cellsOf 33 = 3 := by kernel_rfl
  obtain ⟨ys, m, _, hx, hlen, hl, hf⟩ := Go.DataW.trod_struct Try.underlying33 h
  rw [hc3] at hlen
  match cs, hlen with
  | [c0, c1, c2], _ =>
    match ys, hl with
    | [y0, y1, y2], _ =>
      have h0 := hf 0 _ rfl
      have h1 := hf 1 _ rfl
      have h2 := hf 2 _ rfl
      simp [hc1] at h0 h1 h2
      obtain ⟨a, ea, _, wa⟩ := Go.DataW.trod_int Try.underlying3 h0
      obtain ⟨b, eb, _, wb⟩ := Go.DataW.trod_int Try.underlying3 h1
      obtain ⟨c, ec, _, wc⟩ := Go.DataW.trod_int Try.underlying3 h2
      simp only [List.cons.injEq, and_true] at ea eb ec
      exact ⟨a, b, c, by rw [ea, eb, ec], bounds_i64 wa, bounds_i64 wb, bounds_i64 wc⟩
theorem acts_arg {H : Type} {enc : TypeId × Value → H} {W : World} {base : Nat} {spare : Nat → Bool} {held : Bool} {a : Option Addr} {len cap : Nat} {d : DataW H} {p : List MemPlace}
    (h : ∃ fuel, DataW.trod enc Try.prog W base spare held fuel 27 (Value.slice a len cap).cells.toList = some (d, p)) : ∃ L : List (Int × Int × Int), Acts W (.slice a len cap) L := by
  obtain ⟨fuel, hf⟩ := h
  have hc3 : Try.prog.cellsOf 33 = 3 := by kernel_rfl
  rcases Go.Deep.open_slice Try.underlying27 hf with ⟨hcs, _⟩ | ⟨x, l, c, m, n, D, Pl, hcs, _, hl, hm, hmm, _, hel⟩
  · simp [Value.cells] at hcs
    obtain ⟨rfl, rfl, rfl⟩ := hcs
    exact ⟨[], none, 0, rfl, fun h => absurd h (by simp)⟩
  · simp [Value.cells] at hcs
    obtain ⟨rfl, rfl, rfl⟩ := hcs
    have hlm : len ≤ m := by rw [hmm]; split <;> omega
    rw [hc3] at hel
    have each : ∀ j, ∃ t : Int × Int × Int, j < len → In64 t.1 ∧ In64 t.2.1 ∧ In64 t.2.2 ∧ W.cell? ((x.add (j * 3)).add 0) = some (.int .i64 t.1) ∧ W.cell? ((x.add (j * 3)).add 1) = some (.int .i64 t.2.1) ∧ W.cell? ((x.add (j * 3)).add 2) = some (.int .i64 t.2.2) := by
      intro j
      by_cases hj : j < len
      · obtain ⟨cs', hcells, htr⟩ := hel j (by omega)
        obtain ⟨u, v, z, rfl, hu, hv, hz⟩ := act_cells htr
        obtain ⟨_, _, hat⟩ := World.cells?_some hcells
        exact ⟨(u, v, z), fun _ => ⟨hu, hv, hz, hat 0 (by omega), hat 1 (by omega), hat 2 (by omega)⟩⟩
      · exact ⟨(0, 0, 0), fun h => absurd h hj⟩
    obtain ⟨Z, hZ⟩ := Classical.axiomOfChoice each
    refine ⟨(List.range len).map Z, some x, cap, by simp, fun h0 => ?_⟩
    have h0' : 0 < len := by simpa using h0
    have hc0 := (hZ 0 h0').2.2.2.1
    obtain ⟨b, off, spot⟩ := x
    have hspot : spot = none := by simpa [Addr.add] using World.cell?_spot hc0
    subst hspot
    refine ⟨b, off, rfl, ?_, fun j hj => ?_⟩
    · have := block_lt_of_cell hc0
      simpa [Addr.add] using this
    · have hj' : j < len := by simpa using hj
      obtain ⟨h1, h2, h3, k1, k2, k3⟩ := hZ j hj'
      simp only [Go.WideShapes.add_plain, Nat.add_zero] at k1 k2 k3
      exact ⟨_, _, _, by simp [List.getD, hj'], h1, h2, h3, k1, k2, k3⟩
end Go.Proofs.Ytglhbjfogbcddaa.Cb
