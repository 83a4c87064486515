/-
  A slice of strings, a slice of hashes in memory (layer 6).
-/
import Derived.Test.YtandcacobahmbaaDoorDgBase
import Derived.Deep.RegionHeld3
namespace Go.Proofs.YtandcacobahmbaaDoor.Dg
open Go.RowKit

/-- A slice of strings in memory. -/
def Strs (w : World) (v : Value) (L : List ByteArray) : Prop :=
  ∃ p c, v = .slice p L.length c ∧ L.length ≤ c ∧ (0 < L.length → ∃ b off, p = some ⟨b, off, none⟩ ∧ b < w.heap.size ∧ ∀ j, j < L.length → w.cell? ⟨b, off + j, none⟩ = some (.string (L.getD j ⟨#[]⟩)))
theorem Strs.below {w w' : World} {v : Value} {L : List ByteArray} (h : Strs w v L) (hb : Below w.heap.size w w') : Strs w' v L := by
  obtain ⟨p, c, hv, hlc, hc⟩ := h
  refine ⟨p, c, hv, hlc, fun h0 => ?_⟩
  obtain ⟨b, off, hp, hl, hc⟩ := hc h0
  exact ⟨b, off, hp, Nat.lt_of_lt_of_le hl hb.size, fun j hj => (hb.cell hl).trans (hc j hj)⟩
theorem results_two {fn : Func} {t u : Tmp} (h : fn.results = #[.tmp t, .tmp u]) (tmps : Array Value) (P : Program) (w : World) :
    (results fn tmps).run P w = .ok (.tuple #[tmps.getD t undef, tmps.getD u undef]) w := by
  simp [results, h]
/-- The same, written out. -/
structure StrAt (w : World) (b off c : Nat) (L : List ByteArray) : Prop where
  lt : b < w.heap.size
  cap : L.length ≤ c
  at_ : ∀ j, j < L.length → w.cell? ⟨b, off + j, none⟩ = some (.string (L.getD j ⟨#[]⟩))
theorem StrAt.strs {w : World} {b off c : Nat} {L : List ByteArray} (h : StrAt w b off c L) : Strs w (.slice (some ⟨b, off, none⟩) L.length c) L := ⟨_, c, rfl, h.cap, fun _ => ⟨b, off, rfl, h.lt, h.at_⟩⟩
theorem Strs.open {w : World} {v : Value} {L : List ByteArray} (h : Strs w v L) (h0 : 0 < L.length) : ∃ b off c, v = .slice (some ⟨b, off, none⟩) L.length c ∧ StrAt w b off c L := by
  obtain ⟨p, c, hv, hlc, hc⟩ := h
  obtain ⟨b, off, rfl, hl, hc⟩ := hc h0
  exact ⟨b, off, c, hv, hl, hlc, hc⟩
theorem StrAt.below {w w' : World} {b off c : Nat} {L : List ByteArray} (h : StrAt w b off c L) (hb : Below w.heap.size w w') : StrAt w' b off c L := ⟨Nat.lt_of_lt_of_le h.lt hb.size, h.cap, fun j hj => (hb.cell h.lt).trans (h.at_ j hj)⟩
theorem StrAt.take {w : World} {b off c : Nat} {L : List ByteArray} (h : StrAt w b off c L) {k : Nat} (hk : k ≤ L.length) : StrAt w b off c (L.take k) := by
  have hl : (L.take k).length = k := by rw [List.length_take]; omega
  have hc := h.cap
  refine ⟨h.lt, by omega, fun j hj => ?_⟩
  rw [h.at_ j (by omega)]
  congr 2
  simp [List.getD, show j < k by omega]
theorem StrAt.drop {w : World} {b off c : Nat} {L : List ByteArray} (h : StrAt w b off c L) {k : Nat} (hk : k ≤ L.length) : StrAt w b (off + k) (c - k) (L.drop k) := by
  have hl : (L.drop k).length = L.length - k := List.length_drop
  have hc := h.cap
  refine ⟨h.lt, by omega, fun j hj => ?_⟩
  rw [Nat.add_assoc, h.at_ (k + j) (by omega)]
  congr 2
  simp [List.getD, List.getElem?_drop]
def bytesL (L : List ByteArray) : List (List UInt8) := L.map fun s => s.data.toList
theorem bytesL_length (L : List ByteArray) : (bytesL L).length = L.length := by unfold bytesL; rw [List.length_map]
theorem bytesL_take (L : List ByteArray) (k : Nat) : bytesL (L.take k) = (bytesL L).take k := by unfold bytesL; rw [List.map_take]
theorem bytesL_drop (L : List ByteArray) (k : Nat) : bytesL (L.drop k) = (bytesL L).drop k := by unfold bytesL; rw [List.map_drop]
theorem bytesL_getD (L : List ByteArray) (i : Nat) : (bytesL L).getD i [] = (L.getD i ⟨#[]⟩).data.toList := by
  unfold bytesL List.getD
  rw [List.getElem?_map]
  cases L[i]? <;> rfl
/-- Each string is short. -/
def Short (L : List ByteArray) : Prop := ∀ s ∈ L, s.size ≤ 100000
theorem Short.take {L : List ByteArray} (h : Short L) (k : Nat) : Short (L.take k) := fun s hs => h s (List.mem_of_mem_take hs)
theorem Short.drop {L : List ByteArray} (h : Short L) (k : Nat) : Short (L.drop k) := fun s hs => h s (List.mem_of_mem_drop hs)
/-- Hashes. -/
def H64 (l : List Nat) : Prop := ∀ x ∈ l, x < 18446744073709551616
/-- A slice of hashes in memory. -/
structure NatAt (w : World) (b off c : Nat) (l : List Nat) : Prop where
  lt : b < w.heap.size
  cap : l.length ≤ c
  at_ : ∀ j, j < l.length → w.cell? ⟨b, off + j, none⟩ = some (.int .u64 (l.getD j 0 : Int))
def Nats (w : World) (v : Value) (l : List Nat) : Prop := H64 l ∧ ∃ p c, v = .slice p l.length c ∧ l.length ≤ c ∧ (0 < l.length → ∃ b off, p = some ⟨b, off, none⟩ ∧ NatAt w b off c l)
theorem NatAt.below {w w' : World} {b off c : Nat} {l : List Nat} (h : NatAt w b off c l) (hb : Below w.heap.size w w') : NatAt w' b off c l := ⟨Nat.lt_of_lt_of_le h.lt hb.size, h.cap, fun j hj => (hb.cell h.lt).trans (h.at_ j hj)⟩
theorem Nats.below {w w' : World} {v : Value} {l : List Nat} (h : Nats w v l) (hb : Below w.heap.size w w') : Nats w' v l := by
  obtain ⟨h64, p, c, hv, hlc, hc⟩ := h
  refine ⟨h64, p, c, hv, hlc, fun h0 => ?_⟩
  obtain ⟨b, off, hp, hn⟩ := hc h0
  exact ⟨b, off, hp, hn.below hb⟩
theorem Nats.open {w : World} {v : Value} {l : List Nat} (h : Nats w v l) (h0 : 0 < l.length) : ∃ b off c, v = .slice (some ⟨b, off, none⟩) l.length c ∧ NatAt w b off c l := by
  obtain ⟨_, p, c, hv, _, hc⟩ := h
  obtain ⟨b, off, rfl, hn⟩ := hc h0
  exact ⟨b, off, c, hv, hn⟩
theorem Nats.nil {w : World} {v : Value} {l : List Nat} (h : Nats w v l) : ∃ p c, v = .slice p l.length c := by
  obtain ⟨_, p, c, hv, _⟩ := h
  exact ⟨p, c, hv⟩
theorem NatAt.nats {w : World} {b off c : Nat} {l : List Nat} (h : NatAt w b off c l) (h64 : H64 l) : Nats w (.slice (some ⟨b, off, none⟩) l.length c) l := ⟨h64, _, c, rfl, h.cap, fun _ => ⟨b, off, rfl, h⟩⟩
theorem NatAt.take {w : World} {b off c : Nat} {l : List Nat} (h : NatAt w b off c l) {k : Nat} (hk : k ≤ l.length) : NatAt w b off c (l.take k) := by
  have hl : (l.take k).length = k := by rw [List.length_take]; omega
  have hc := h.cap
  refine ⟨h.lt, by omega, fun j hj => ?_⟩
  rw [h.at_ j (by omega)]
  congr 2
  simp [List.getD, show j < k by omega]
theorem NatAt.drop {w : World} {b off c : Nat} {l : List Nat} (h : NatAt w b off c l) {k : Nat} (hk : k ≤ l.length) : NatAt w b (off + k) (c - k) (l.drop k) := by
  have hl : (l.drop k).length = l.length - k := List.length_drop
  have hc := h.cap
  refine ⟨h.lt, by omega, fun j hj => ?_⟩
  rw [Nat.add_assoc, h.at_ (k + j) (by omega)]
  congr 2
  simp [List.getD, List.getElem?_drop]
/-- The cells of a list of hashes. -/
def natC (l : List Nat) : List Value := l.map fun (n : Nat) => Value.int .u64 (n : Int)
theorem natC_length (l : List Nat) : (natC l).length = l.length := by unfold natC; rw [List.length_map]
theorem own_nats {w : World} {B : Nat} {v : Value} {l : List Nat} (h : w.ownsRow B 26 1 v l.length (natC l)) (h64 : H64 l) : Nats w v l := by
  have h' := h
  rcases h.2 with ⟨rfl, h0⟩ | ⟨g, cap, cur, rfl, hb, hg, hcap, hrest⟩
  · exact ⟨h64, none, 0, by rw [h0], by omega, fun h1 => by omega⟩
  · refine ⟨h64, _, _, rfl, hcap, fun h1 => ⟨g, 0, rfl, (Array.getElem?_eq_some_iff.1 hg).1, hcap, fun j hj => ?_⟩⟩
    rw [Nat.zero_add, h'.cellAt j (by omega)]
    unfold natC
    rw [List.getElem?_map, List.getElem?_eq_getElem hj]
    simp [List.getD, hj]
theorem own_below {w w' : World} {B : Nat} {T : TypeId} {v : Value} {n : Nat} {xs : List Value} (h : w.ownsRow B T 1 v n xs) (hb : Below w.heap.size w w') : w'.ownsRow B T 1 v n xs :=
  h.kept (row := none) ⟨hb.os, hb.tape, hb.output, hb.size, fun k hk _ => hb.block k hk⟩ (by cases hv : v.ownBlock <;> simp)
theorem deep_le : ∀ (n i : Nat), deep i n ≤ n := by
  intro n
  induction n using Nat.strongRecOn with
  | ind n ih =>
    intro i
    by_cases h : 2 ≤ n
    · have h1 := left_lt h
      have h2 := left_pos n
      by_cases hi : i < leftN n
      · rw [deep_left h hi]; have := ih (leftN n) h1 i; omega
      · rw [deep_right h hi]; have := ih (n - leftN n) (by omega) (i - leftN n); omega
    · rw [deep_one h]; omega
/-- A path of the call's own, and an error. -/
def PfEnd (w : World) (p : List Nat) (x : Int) (e : Ending) (w' : World) : Prop := ∃ v, e = .returned (.tuple #[v, .int .i64 x]) ∧ w'.ownsRow w.heap.size 26 1 v p.length (natC p) ∧ Below w.heap.size w w'
theorem info_u64 : (Tryd.prog.info? 26).map (fun i => (i.zero, i.size, i.bytes)) = some (some (.int .u64 0), 1, 8) := by kernel_rfl
theorem natC_snoc (p : List Nat) (x : Nat) : natC (p ++ [x]) = natC p ++ [.int .u64 (x : Int)] := by unfold natC; rw [List.map_append]; rfl
/-- The path and the error that Proof returns. -/
def pfP (l : List (List UInt8)) (i : Int) : List Nat := if i < 0 ∨ (l.length : Int) ≤ i then [] else pathN l i.toNat
def pfE (l : List (List UInt8)) (i : Int) : Int := if i < 0 ∨ (l.length : Int) ≤ i then 9 else 0
theorem H64_last {p : List Nat} {x : Nat} (h : H64 (p ++ [x])) : H64 p ∧ x < 18446744073709551616 := ⟨fun y hy => h y (List.mem_append_left _ hy), h x (List.mem_append_right _ (List.mem_singleton.2 rfl))⟩
/-- Two results that given returns. -/
def GvEnd (g : Nat × Bool) (w : World) (e : Ending) (w' : World) : Prop := e = .returned (.tuple #[.int .u64 (g.1 : Int), .bool g.2]) ∧ Below w.heap.size w w'
/-- What Verify returns. -/
def verV (root : Nat) (s : List UInt8) (i n : Int) (l : List Nat) : Bool := if i < 0 ∨ n ≤ i then false else (givenN s i.toNat n.toNat l).2 && ((givenN s i.toNat n.toNat l).1 == root)
end Go.Proofs.YtandcacobahmbaaDoor.Dg
