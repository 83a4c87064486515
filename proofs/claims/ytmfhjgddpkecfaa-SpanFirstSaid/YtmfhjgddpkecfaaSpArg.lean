/-
  Spans and lists of spans that came in, opened (layer 8).
-/
import Derived.Test.YtmfhjgddpkecfaaSpLaw2
import Derived.Test.YtmfhjgddpkecfaaSpOpen
import Derived.Deep.Slices
import Derived.OpenShut
import Derived.ShutString
import Derived.ChangeOld
import Derived.Carry
namespace Go.Proofs.Ytmfhjgddpkecfaa.Sp
open Go.RowKit

/-- A search by value. -/
theorem first_arg {H : Type} {enc : TypeId × Value → H} {W : World} {base b0 : Nat} {spare : Nat → Bool} {held : Bool} {r : Go.Reach} {v : Value} {d : DataW H} {p : List MemPlace}
    (hv : Value.okWide Try.prog W r b0 36 v) (h : DataW.Trod enc Try.prog W base spare held 36 v d p) :
    ∃ (l : List Spn) (va : Value) (f : Int) (n e : Nat), v = .agg #[va, .int .i64 f, .int .u16 (n : Int), .int .u16 (e : Int)] ∧ SpnA W va l ∧ In64 f ∧ n < 65536 ∧ e < 65536 := by
  have hcl : Try.prog.cellsOf 22 = 1 := by kernel_rfl
  have hci : Try.prog.cellsOf 3 = 1 := by kernel_rfl
  have hcu : Try.prog.cellsOf 34 = 1 := by kernel_rfl
  have hc4 : Try.prog.cellsOf 36 = 4 := by kernel_rfl
  obtain ⟨cs, rfl, hsz⟩ := WideShapes.okWide_struct Try.underlying36 hv
  obtain ⟨fuel, hf⟩ := h
  obtain ⟨ys, m, _, hx, hlen, hl, hfs⟩ := Go.DataW.trod_struct Try.underlying36 hf
  rw [hc4] at hsz
  obtain ⟨cl⟩ := cs
  match cl, hsz with
  | [c0, c1, c2, c3], _ =>
    match ys, hl with
    | [y0, y1, y2, y3], _ =>
      have h0 := hfs 0 _ rfl
      have h1 := hfs 1 _ rfl
      have h2 := hfs 2 _ rfl
      have h3 := hfs 3 _ rfl
      simp [Value.cells, hcl, hci, hcu] at h0 h1 h2 h3
      obtain ⟨va, l, e0, hn⟩ := spns_raw h0
      obtain ⟨f, ef, _, wf⟩ := Go.DataW.trod_int Try.underlying3 h1
      obtain ⟨n, en, _, wn⟩ := Go.DataW.trod_int Try.underlying34 h2
      obtain ⟨k, ek, _, wk⟩ := Go.DataW.trod_int Try.underlying34 h3
      simp only [List.cons.injEq, and_true] at e0 ef en ek
      subst e0 ef en ek
      have bn := bounds_u16 wn
      have bk := bounds_u16 wk
      have en' : ((n.toNat : Nat) : Int) = n := by omega
      have ek' : ((k.toNat : Nat) : Int) = k := by omega
      exact ⟨l, c0, f, n.toNat, k.toNat, by rw [en', ek'], hn, bounds_i64 wf, by omega, by omega⟩
end Go.Proofs.Ytmfhjgddpkecfaa.Sp
