/-
  Bytes in a block of the call's own (layer 7).
-/
import Derived.Test.YtdpnmlgadieamaaLxArg
import Derived.Deep.OwnRows
namespace Go.Proofs.Ytdpnmlgadieamaa.Lx
open Go.RowKit

/-- Bytes in a block. -/
structure BytesAt (w : World) (g : Nat) (l : List UInt8) : Prop where
  lt : g < w.heap.size
  at_ : ∀ j c, l[j]? = some c → w.cell? ⟨g, j, none⟩ = some (.int .u8 (c.toNat : Int))
  fz : ∀ j, j < l.length → w.frozen? ⟨g, j, none⟩ = false
theorem frozen_of_block {w w' : World} {g j : Nat} (h : w'.heap[g]? = w.heap[g]?) : w'.frozen? ⟨g, j, none⟩ = w.frozen? ⟨g, j, none⟩ := by simp [World.frozen?, h]
theorem BytesAt.below {w w' : World} {g : Nat} {l : List UInt8} (h : BytesAt w g l) (hb : Below w.heap.size w w') : BytesAt w' g l :=
  ⟨Nat.lt_of_lt_of_le h.lt hb.size, fun j c hc => (hb.cell h.lt).trans (h.at_ j c hc), fun j hj => (frozen_of_block (hb.block g h.lt)).trans (h.fz j hj)⟩
theorem BytesAt.keep {w w' : World} {g : Nat} {l : List UInt8} (h : BytesAt w g l) (hs : w.heap.size ≤ w'.heap.size) (hb : w'.heap[g]? = w.heap[g]?) : BytesAt w' g l :=
  ⟨Nat.lt_of_lt_of_le h.lt hs, fun j c hc => (World.cell?_of_block (w := w) hb).trans (h.at_ j c hc), fun j hj => (frozen_of_block hb).trans (h.fz j hj)⟩
theorem heap_set_far {w : World} {p : Addr} {g : Nat} (v : Value) (h : p.block ≠ g) : (w.setCell p v).heap[g]? = w.heap[g]? := Below.heap_setCell _ _ _ _ (fun e => h (by rw [e]))
theorem BytesAt.far {w : World} {g : Nat} {l : List UInt8} (h : BytesAt w g l) {p : Addr} (v : Value) (hp : p.block ≠ g) : BytesAt (w.setCell p v) g l := h.keep (by simp [World.setCell]) (heap_set_far v hp)
theorem frozen_setCell (w : World) (g j i : Nat) (v : Value) : (w.setCell ⟨g, j, none⟩ v).frozen? ⟨g, i, none⟩ = w.frozen? ⟨g, i, none⟩ := by
  simp only [World.frozen?, World.setCell, Array.getElem?_modify, if_true]
  cases h : w.heap[g]? with
  | none => rfl
  | some o => cases o <;> rfl
theorem BytesAt.set {w : World} {g : Nat} {l : List UInt8} (h : BytesAt w g l) {j : Nat} (hj : j < l.length) (c : UInt8) : BytesAt (w.setCell ⟨g, j, none⟩ (.int .u8 (c.toNat : Int))) g (l.set j c) := by
  refine ⟨by simp only [World.setCell, Array.size_modify]; exact h.lt, fun i d hd => ?_, fun i hi => ?_⟩
  · by_cases hij : i = j
    · subst hij
      rw [List.getElem?_set_self hj] at hd
      cases hd
      exact World.cell?_setCell_same w _ _ (h.at_ i l[i] (List.getElem?_eq_getElem hj))
    · rw [List.getElem?_set_ne (fun e => hij e.symm)] at hd
      rw [World.cell?_setCell_other _ _ _ _ (fun e => hij (by cases e; rfl))]
      exact h.at_ i d hd
  · rw [frozen_setCell]
    exact h.fz i (by simpa using hi)
theorem bytes_zero (w : World) (n : Nat) : BytesAt (w.alloc (.cells (madeCells #[.int .u8 0] n) 5)) w.heap.size (List.replicate n 0) := by
  have hr := World.rowIs_made w (.int .u8 0) n 5
  refine ⟨by show _ < (w.heap.push _).size; rw [Array.size_push]; exact Nat.lt_succ_self _, fun j c hc => ?_, fun j hj => ?_⟩
  · obtain ⟨hj, he⟩ := List.getElem?_eq_some_iff.1 hc
    rw [List.length_replicate] at hj
    rw [List.getElem_replicate] at he
    subst he
    exact hr.cell hj
  · rw [List.length_replicate] at hj
    exact hr.frozen _
theorem BytesAt.conv {w : World} {g : Nat} {l : List UInt8} (h : BytesAt w g l) (n cap : Nat) (hn : l.length = n) : (convert 30 9 (.slice (some ⟨g, 0, none⟩) n cap)).run Try.prog w = .ok (.string (toS l)) w := by
  subst hn
  exact run_convert_bytes_back (P := Try.prog) w 30 9 5 ⟨g, 0, none⟩ cap l Try.underlying30 Try.underlying5 Try.underlying9 (fun i hi => by
    have ea : (Addr.add ⟨g, 0, none⟩ i) = ⟨g, i, none⟩ := by simp [Addr.add]; omega
    rw [ea]
    exact h.at_ i l[i] (List.getElem?_eq_getElem hi))
end Go.Proofs.Ytdpnmlgadieamaa.Lx
