/-
  Bytes in a block of the call's own (layer 6).
-/
import Derived.Test.YtandcacobahmbaaDoorDgBase
import Derived.Deep.RegionHeld
namespace Go.Proofs.YtandcacobahmbaaDoor.Dg
open Go.RowKit

/-- Bytes in a block. -/
structure BytesAt (w : World) (g : Nat) (l : List UInt8) : Prop where
  lt : g < w.heap.size
  at_ : ∀ j c, l[j]? = some c → w.cell? ⟨g, j, none⟩ = some (.int .u8 (c.toNat : Int))
  fz : ∀ j, j < l.length → w.frozen? ⟨g, j, none⟩ = false
theorem frozen_of_block {w w' : World} {g j : Nat} (h : w'.heap[g]? = w.heap[g]?) : w'.frozen? ⟨g, j, none⟩ = w.frozen? ⟨g, j, none⟩ := by simp [World.frozen?, h]
theorem BytesAt.below {w w' : World} {g : Nat} {l : List UInt8} (h : BytesAt w g l) (hb : Below w.heap.size w w') : BytesAt w' g l :=
  ⟨Nat.lt_of_lt_of_le h.lt hb.size, fun j c hc => (hb.cell h.lt).trans (h.at_ j c hc), fun j hj => (frozen_of_block (hb.block g h.lt)).trans (h.fz j hj)⟩
theorem BytesAt.keep {w w' : World} {g : Nat} {l : List UInt8} (h : BytesAt w g l) (hs : w.heap.size ≤ w'.heap.size) (hb : w'.heap[g]? = w.heap[g]?) : BytesAt w' g l :=
  ⟨Nat.lt_of_lt_of_le h.lt hs, fun j c hc => (World.cell?_of_block (w := w) hb).trans (h.at_ j c hc), fun j hj => (frozen_of_block hb).trans (h.fz j hj)⟩
theorem heap_set_far {w : World} {p : Addr} {g : Nat} (v : Value) (h : p.block ≠ g) : (w.setCell p v).heap[g]? = w.heap[g]? := Below.heap_setCell _ _ _ _ (fun e => h (by rw [e]))
theorem BytesAt.far {w : World} {g : Nat} {l : List UInt8} (h : BytesAt w g l) {p : Addr} (v : Value) (hp : p.block ≠ g) : BytesAt (w.setCell p v) g l := h.keep (by simp [World.setCell]) (heap_set_far v hp)
theorem frozen_setCell (w : World) (g j i : Nat) (v : Value) : (w.setCell ⟨g, j, none⟩ v).frozen? ⟨g, i, none⟩ = w.frozen? ⟨g, i, none⟩ := by
  simp only [World.frozen?, World.setCell, Array.getElem?_modify, if_true]
  cases h : w.heap[g]? with
  | none => rfl
  | some o => cases o <;> rfl
theorem BytesAt.set {w : World} {g : Nat} {l : List UInt8} (h : BytesAt w g l) {j : Nat} (hj : j < l.length) (c : UInt8) : BytesAt (w.setCell ⟨g, j, none⟩ (.int .u8 (c.toNat : Int))) g (l.set j c) := by
  refine ⟨by simp only [World.setCell, Array.size_modify]; exact h.lt, fun i d hd => ?_, fun i hi => ?_⟩
  · by_cases hij : i = j
    · subst hij
      rw [List.getElem?_set_self hj] at hd
      cases hd
      exact World.cell?_setCell_same w _ _ (h.at_ i l[i] (List.getElem?_eq_getElem hj))
    · rw [List.getElem?_set_ne (fun e => hij e.symm)] at hd
      rw [World.cell?_setCell_other _ _ _ _ (fun e => hij (by cases e; rfl))]
      exact h.at_ i d hd
  · rw [frozen_setCell]
    exact h.fz i (by simpa using hi)
theorem bytes_made (w : World) (s : ByteArray) (cap : Nat) : BytesAt (w.alloc (.cells (bytesRow s cap) 5 ((bytesRow s cap).size, (bytesRow s cap).size + 1))) w.heap.size s.data.toList := by
  have hn : (w.alloc (.cells (bytesRow s cap) 5 ((bytesRow s cap).size, (bytesRow s cap).size + 1))).heap[w.heap.size]? = some (.cells (bytesRow s cap) 5 ((bytesRow s cap).size, (bytesRow s cap).size + 1)) := heap_alloc_new w _
  have hz : s.data.toList.length ≤ (bytesRow s cap).size := by simp [bytesRow]
  refine ⟨by show _ < (w.heap.push _).size; rw [Array.size_push]; exact Nat.lt_succ_self _, fun j c hc => ?_, fun j hj => ?_⟩
  · rw [World.cell?_alloc_mark w (bytesRow s cap) 5 _ j]
    obtain ⟨hj, rfl⟩ := List.getElem?_eq_some_iff.1 hc
    have hj' : j < s.data.size := by simpa using hj
    rw [bytesRow_at s cap j hj']; rfl
  · simp only [World.frozen?, hn]
    simp
    omega
theorem BytesAt.conv {w : World} {g : Nat} {l : List UInt8} (h : BytesAt w g l) (n cap : Nat) (hn : l.length = n) : (convert 49 9 (.slice (some ⟨g, 0, none⟩) n cap)).run Tryd.prog w = .ok (.string (toS l)) w := by
  subst hn
  exact run_convert_bytes_back (P := Tryd.prog) w 49 9 5 ⟨g, 0, none⟩ cap l Tryd.underlying49 Tryd.underlying5 Tryd.underlying9 (fun i hi => by
    have ea : (Addr.add ⟨g, 0, none⟩ i) = ⟨g, i, none⟩ := by simp [Addr.add]; omega
    rw [ea]
    exact h.at_ i l[i] (List.getElem?_eq_getElem hi))
/-- Each byte of the eight. -/
theorem beL_at : ∀ (n v k : Nat), k < n → (Cb.beL v n)[k]? = some (UInt8.ofNat (v / 256 ^ (n - 1 - k) % 256))
  | 0, _, _, h => absurd h (Nat.not_lt_zero _)
  | n + 1, v, k, h => by
    rw [Cb.beL]
    by_cases hk : k < n
    · rw [List.getElem?_append_left (by rw [Cb.beL_length]; exact hk), beL_at n (v / 256) k hk, Nat.div_div_eq_div_mul, show n + 1 - 1 - k = (n - 1 - k) + 1 by omega, Nat.pow_succ']
    · obtain rfl : k = n := by omega
      rw [List.getElem?_append_right (by rw [Cb.beL_length]; exact Nat.le_refl _), Cb.beL_length, Nat.sub_self, show k + 1 - 1 - k = 0 by omega, Nat.pow_zero, Nat.div_one]; rfl
/-- The first k bytes, then zeros. -/
def upto8 (v k : Nat) : List UInt8 := (Cb.beL v 8).take k ++ List.replicate (8 - k) 0
theorem upto8_len (v : Nat) {k : Nat} (h : k ≤ 8) : (upto8 v k).length = 8 := by
  unfold upto8
  rw [List.length_append, List.length_take, Cb.beL_length, List.length_replicate]; omega
theorem upto8_all (v : Nat) : upto8 v 8 = Cb.beL v 8 := by
  unfold upto8
  rw [List.take_of_length_le (by rw [Cb.beL_length]; exact Nat.le_refl _)]
  exact List.append_nil _
theorem upto8_at (v : Nat) {k : Nat} (h : k < 8) : (upto8 v k)[k]? = some 0 := by
  unfold upto8
  have hl : ((Cb.beL v 8).take k).length = k := by rw [List.length_take, Cb.beL_length]; omega
  rw [List.getElem?_append_right (by omega), hl, Nat.sub_self, List.getElem?_replicate, if_pos (by omega)]
theorem upto8_set (v : Nat) {k : Nat} (h : k < 8) : (upto8 v k).set k (UInt8.ofNat (v / 256 ^ (7 - k) % 256)) = upto8 v (k + 1) := by
  unfold upto8
  have hl : ((Cb.beL v 8).take k).length = k := by rw [List.length_take, Cb.beL_length]; omega
  rw [List.set_append_right _ _ (by omega), hl, Nat.sub_self, List.take_add_one, beL_at 8 v k h, show 8 - k = (8 - (k + 1)) + 1 by omega, List.replicate_succ, List.set_cons_zero]
  simp
end Go.Proofs.YtandcacobahmbaaDoor.Dg
