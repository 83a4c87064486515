/-
  Arguments of the laws of layer 6, opened: lists of strings, claims, changes.
-/
import Derived.Test.YtandcacobahmbaaDoorDgAwake
import Derived.Deep.Strs
import Derived.Deep.Slices
import Derived.SizedLaws
import Derived.ChangeSlices
import Derived.OpenShut
namespace Go.Proofs.YtandcacobahmbaaDoor.Dg
open Go.RowKit

theorem lit_weight {H : Type} (s : List UInt8) (t : TypeId) : (DataW.lit (H := H) (.string s)).weights Tryd.prog t = [s.length] := by simp [DataW.weights]
theorem all_weights {H : Type} (e : TypeId) : ∀ (l : List (DataW H)) (x : DataW H), x ∈ l → ∀ n ∈ x.weights Tryd.prog e, n ∈ DataW.weightsAll Tryd.prog e l
  | [], x, h, _, _ => by simp at h
  | d :: l, x, h, n, hn => by
    simp only [DataW.weightsAll, List.mem_append]
    rcases List.mem_cons.1 h with e | e'
    · subst e; exact Or.inl hn
    · exact Or.inr (all_weights e l x e' n hn)
theorem strs_arg {H : Type} {enc : TypeId × Value → H} {W : World} {base : Nat} {spare : Nat → Bool} {held : Bool} {a : Option Addr} {len cap : Nat} {d : DataW H} {p : List MemPlace}
    (h : ∃ fuel, DataW.trod enc Tryd.prog W base spare held fuel 30 (Value.slice a len cap).cells.toList = some (d, p)) (hz : ∀ n ∈ d.weights Tryd.prog 30, n ≤ reachBytes) :
    ∃ L : List ByteArray, Strs W (.slice a len cap) L ∧ Fits L := by
  obtain ⟨fuel, hf⟩ := h
  rcases Go.Deep.open_strs Tryd.underlying30 Tryd.underlying9 (by kernel_rfl) hf with ⟨hcs, _⟩ | ⟨x, l, c, m, Sx, hcs, _, hlc, hcm, hmm, hd, hcell⟩
  · simp [Value.cells] at hcs
    obtain ⟨rfl, rfl, rfl⟩ := hcs
    exact ⟨[], ⟨none, 0, rfl, Nat.le_refl _, fun h => absurd h (by simp)⟩, fun s hs => by simp at hs⟩
  · simp [Value.cells] at hcs
    obtain ⟨rfl, rfl, rfl⟩ := hcs
    have hlm : len ≤ m := by rw [hmm]; split <;> omega
    simp only [Prod.mk.injEq] at hd
    refine ⟨(List.range len).map Sx, ⟨some x, cap, by simp, by simpa using hlc, fun h0 => ?_⟩, fun s hs => ?_⟩
    · have h0' : 0 < len := by simpa using h0
      have hc0 := (hcell 0 (by omega)).1
      obtain ⟨b, off, spot⟩ := x
      have hspot : spot = none := by simpa [Addr.add] using World.cell?_spot hc0
      subst hspot
      refine ⟨b, off, rfl, ?_, fun j hj => ?_⟩
      · have := block_lt_of_cell hc0
        simpa [Addr.add] using this
      · have hj' : j < len := by simpa using hj
        have := (hcell j (by omega)).1
        rw [Go.WideShapes.add_plain] at this
        rw [this]
        simp [List.getD, hj']
    · obtain ⟨j, hj, rfl⟩ := List.mem_map.1 hs
      have hu : Tryd.prog.underlying 30 = some (.slice 9) := Tryd.underlying30
      have := hz (Sx j).data.toList.length (by
        rw [hd.1]
        simp only [DataW.weights, hu, List.mem_cons, List.mem_append]
        refine Or.inr (Or.inl (all_weights _ _ (.lit (.string (Sx j).data.toList)) (List.mem_map.2 ⟨j, hj, rfl⟩) _ ?_))
        rw [lit_weight]; simp)
      rw [← Lib.size_eq] at this
      exact this
theorem nats_arg {H : Type} {enc : TypeId × Value → H} {W : World} {base fuel : Nat} {spare : Nat → Bool} {held : Bool} {cs : List Value} {x : DataW H × List MemPlace}
    (hf : DataW.trod enc Tryd.prog W base spare held fuel 33 cs = some x) : ∃ v l, cs = [v] ∧ Nats W v l := by
  rcases Go.ChangeShapes.open_ints Tryd.underlying33 Tryd.underlying26 (by kernel_rfl) hf with ⟨rfl, _⟩ | ⟨a, len, cap, zs, rfl, _, hl, hm, hz, _, hcell, hwz⟩
  · exact ⟨_, [], rfl, (fun y hy => by simp at hy), none, 0, rfl, Nat.le_refl _, fun h => absurd h (by simp)⟩
  · have hlz : len ≤ zs.length := by rw [hz]; split <;> omega
    have hlen : ((zs.take len).map Int.toNat).length = len := by simp; omega
    have hget : ∀ j, j < len → (((zs.take len).map Int.toNat).getD j 0 : Int) = zs.getD j 0 := fun j hj => by
      have hw := bounds_u64 (hwz zs[j] (List.getElem_mem (by omega)))
      have h1 : zs.getD j 0 = zs[j] := by simp [List.getD, show j < zs.length by omega]
      have h2 : ((zs.take len).map Int.toNat).getD j 0 = zs[j].toNat := by simp [List.getD, hj, show j < zs.length by omega]
      rw [h1, h2]
      omega
    refine ⟨_, (zs.take len).map Int.toNat, rfl, (fun y hy => ?_), some a, cap, by rw [hlen], by rw [hlen]; exact hl, fun h0 => ?_⟩
    · obtain ⟨z, hz', rfl⟩ := List.mem_map.1 hy
      have := bounds_u64 (hwz z (List.mem_of_mem_take hz'))
      omega
    · rw [hlen] at h0
      obtain ⟨b, off, rfl, hc⟩ := ints_at hcell (by omega)
      refine ⟨b, off, rfl, block_lt_of_cell (hc 0 (by omega)), by rw [hlen]; exact hl, fun j hj => ?_⟩
      rw [hlen] at hj
      rw [hc j (by omega), hget j hj]
def In64 (z : Int) : Prop := -9223372036854775808 ≤ z ∧ z ≤ 9223372036854775807
/-- A claim by value. -/
theorem claim_arg {H : Type} {enc : TypeId × Value → H} {W : World} {base b0 : Nat} {spare : Nat → Bool} {held : Bool} {r : Go.Reach} {v : Value} {d : DataW H} {p : List MemPlace}
    (hv : Value.okWide Tryd.prog W r b0 40 v) (h : DataW.Trod enc Tryd.prog W base spare held 40 v d p) :
    ∃ (root : Nat) (s : ByteArray) (i n : Int) (l : List Nat) (va : Value), v = .agg #[.int .u64 (root : Int), .string s, .int .i64 i, .int .i64 n, va] ∧ root < 18446744073709551616 ∧ In64 i ∧ In64 n ∧ Nats W va l := by
  have hcu : Tryd.prog.cellsOf 26 = 1 := by kernel_rfl
  have hcs : Tryd.prog.cellsOf 9 = 1 := by kernel_rfl
  have hci : Tryd.prog.cellsOf 3 = 1 := by kernel_rfl
  have hcl : Tryd.prog.cellsOf 33 = 1 := by kernel_rfl
  have hc5 : Tryd.prog.cellsOf 40 = 5 := by kernel_rfl
  obtain ⟨cs, rfl, hsz⟩ := WideShapes.okWide_struct Tryd.underlying40 hv
  obtain ⟨fuel, hf⟩ := h
  obtain ⟨ys, m, _, hx, hlen, hl, hfs⟩ := Go.DataW.trod_struct Tryd.underlying40 hf
  rw [hc5] at hsz
  obtain ⟨cl⟩ := cs
  match cl, hsz with
  | [c0, c1, c2, c3, c4], _ =>
    match ys, hl with
    | [y0, y1, y2, y3, y4], _ =>
      have h0 := hfs 0 _ rfl
      have h1 := hfs 1 _ rfl
      have h2 := hfs 2 _ rfl
      have h3 := hfs 3 _ rfl
      have h4 := hfs 4 _ rfl
      simp [Value.cells, hcu, hcs, hci, hcl] at h0 h1 h2 h3 h4
      obtain ⟨a, ea, _, wa⟩ := Go.DataW.trod_int Tryd.underlying26 h0
      obtain ⟨s, es, _, ws⟩ := Go.DataW.trod_string Tryd.underlying9 h1
      obtain ⟨i, ei, _, wi⟩ := Go.DataW.trod_int Tryd.underlying3 h2
      obtain ⟨n, en, _, wn⟩ := Go.DataW.trod_int Tryd.underlying3 h3
      obtain ⟨va, l, el, hn⟩ := nats_arg h4
      simp only [List.cons.injEq, and_true] at ea es ei en el
      subst ea es ei en el
      have ba := bounds_u64 wa
      have ea' : ((a.toNat : Nat) : Int) = a := by omega
      exact ⟨a.toNat, s, i, n, l, c4, by rw [ea'], by omega, bounds_i64 wi, bounds_i64 wn, hn⟩
/-- A change by value. -/
theorem change_arg {H : Type} {enc : TypeId × Value → H} {W : World} {base b0 : Nat} {spare : Nat → Bool} {held : Bool} {r : Go.Reach} {v : Value} {d : DataW H} {p : List MemPlace}
    (hv : Value.okWide Tryd.prog W r b0 48 v) (h : DataW.Trod enc Tryd.prog W base spare held 48 v d p) :
    ∃ (i : Int) (x0 x1 x2 x3 : UInt8), v = .agg #[.int .i64 i, .int .u8 (x0.toNat : Int), .int .u8 (x1.toNat : Int), .int .u8 (x2.toNat : Int), .int .u8 (x3.toNat : Int)] ∧ In64 i := by
  have hci : Tryd.prog.cellsOf 3 = 1 := by kernel_rfl
  have hcb : Tryd.prog.cellsOf 5 = 1 := by kernel_rfl
  have hc4 : Tryd.prog.cellsOf 46 = 4 := by kernel_rfl
  have hc5 : Tryd.prog.cellsOf 48 = 5 := by kernel_rfl
  have byte : ∀ z : Int, (Lit.int .u8 z).wf = true → ∃ c : UInt8, z = (c.toNat : Int) := fun z hz => by
    have := bounds_u8 hz
    exact ⟨UInt8.ofNat z.toNat, by rw [UInt8.toNat_ofNat_of_lt' (by show z.toNat < 256; omega)]; omega⟩
  obtain ⟨cs, rfl, hsz⟩ := WideShapes.okWide_struct Tryd.underlying48 hv
  obtain ⟨fuel, hf⟩ := h
  obtain ⟨ys, m, _, hx, hlen, hl, hfs⟩ := Go.DataW.trod_struct Tryd.underlying48 hf
  rw [hc5] at hsz
  obtain ⟨cl⟩ := cs
  match cl, hsz with
  | [c0, c1, c2, c3, c4], _ =>
    match ys, hl with
    | [y0, y1], _ =>
      have h0 := hfs 0 _ rfl
      have h1 := hfs 1 _ rfl
      simp [Value.cells, hci, hc4] at h0 h1
      obtain ⟨i, ei, _, wi⟩ := Go.DataW.trod_int Tryd.underlying3 h0
      obtain ⟨xs, q, _, _, _, hl4, hbs⟩ := Go.DataW.trod_array Tryd.underlying46 h1
      match xs, hl4 with
      | [z0, z1, z2, z3], _ =>
        have k0 := hbs 0 (by decide)
        have k1 := hbs 1 (by decide)
        have k2 := hbs 2 (by decide)
        have k3 := hbs 3 (by decide)
        simp [hcb] at k0 k1 k2 k3
        obtain ⟨a0, e0, _, w0⟩ := Go.DataW.trod_int Tryd.underlying5 k0
        obtain ⟨a1, e1, _, w1⟩ := Go.DataW.trod_int Tryd.underlying5 k1
        obtain ⟨a2, e2, _, w2⟩ := Go.DataW.trod_int Tryd.underlying5 k2
        obtain ⟨a3, e3, _, w3⟩ := Go.DataW.trod_int Tryd.underlying5 k3
        simp only [List.cons.injEq, and_true] at ei e0 e1 e2 e3
        subst ei e0 e1 e2 e3
        obtain ⟨x0, rfl⟩ := byte a0 w0
        obtain ⟨x1, rfl⟩ := byte a1 w1
        obtain ⟨x2, rfl⟩ := byte a2 w2
        obtain ⟨x3, rfl⟩ := byte a3 w3
        exact ⟨i, x0, x1, x2, x3, rfl, bounds_i64 wi⟩
end Go.Proofs.YtandcacobahmbaaDoor.Dg
