/-
  A list of strings that came in, opened.
-/
import Derived.Test.YthfchgifkalfdaaIdAlive
import Derived.Deep.Strs
namespace Go.Proofs.Ythfchgifkalfdaa.Id
open Go.RowKit

theorem strs_arg {H : Type} {enc : TypeId × Value → H} {W : World} {base : Nat} {spare : Nat → Bool} {held : Bool} {a : Option Addr} {len cap : Nat} {d : DataW H} {p : List MemPlace}
    (h : ∃ fuel, DataW.trod enc Try.prog W base spare held fuel 24 (Value.slice a len cap).cells.toList = some (d, p)) : ∃ L : List ByteArray, Strs W (.slice a len cap) L := by
  obtain ⟨fuel, hf⟩ := h
  rcases Go.Deep.open_strs Try.underlying24 Try.underlying9 (by kernel_rfl) hf with ⟨hcs, _⟩ | ⟨x, l, c, m, Sx, hcs, _, hl, hm, hmm, _, hcell⟩
  · simp [Value.cells] at hcs
    obtain ⟨rfl, rfl, rfl⟩ := hcs
    exact ⟨[], none, 0, rfl, fun h => absurd h (by simp)⟩
  · simp [Value.cells] at hcs
    obtain ⟨rfl, rfl, rfl⟩ := hcs
    refine ⟨(List.range len).map Sx, some x, cap, by simp, fun h0 => ?_⟩
    have h0' : 0 < len := by simpa using h0
    have hlm : len ≤ m := by rw [hmm]; split <;> omega
    have hc0 := (hcell 0 (by omega)).1
    obtain ⟨b, off, spot⟩ := x
    have hspot : spot = none := by simpa [Addr.add] using World.cell?_spot hc0
    subst hspot
    refine ⟨b, off, rfl, ?_, fun j hj => ?_⟩
    · have := block_lt_of_cell hc0
      simpa [Addr.add] using this
    · have hj' : j < len := by simpa using hj
      have := (hcell j (by omega)).1
      rw [Go.WideShapes.add_plain] at this
      rw [this]
      simp [List.getD, hj']
end Go.Proofs.Ythfchgifkalfdaa.Id
