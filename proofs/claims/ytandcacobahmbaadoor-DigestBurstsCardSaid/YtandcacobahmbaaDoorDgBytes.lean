/-
  Bytes in a block of the call's own, and what the law on bursts does to them (layer 6).
-/
import Derived.Test.YtandcacobahmbaaDoorDgArg
import Derived.Deep.RegionHeld
namespace Go.Proofs.YtandcacobahmbaaDoor.Dg
open Go.RowKit

/-! ### The two changed strings -/
theorem split_at {l : List UInt8} {a : Nat} (h : a < l.length) : l = l.take a ++ l[a] :: l.drop (a + 1) := by
  rw [List.getElem_cons_drop, List.take_append_drop]
/-- One byte changed: the hashes agree exactly if the strings do. -/
theorem one_same {l : List UInt8} {a : Nat} (h : a < l.length) (c : UInt8) : fnvN (l.set a c) = fnvN l ↔ l.set a c = l := by
  refine ⟨fun e => ?_, fun e => by rw [e]⟩
  rw [List.set_eq_take_append_cons_drop, if_pos h] at e ⊢
  have e' : fnvN (l.take a ++ c :: l.drop (a + 1)) = fnvN (l.take a ++ l[a] :: l.drop (a + 1)) := by
    rw [← split_at h]; exact e
  have := fnv_byte _ _ _ _ e'
  rw [this]; exact (split_at h).symm
/-- The string after k of four changed bytes. -/
def mix (l : List UInt8) (a : Nat) (X : List UInt8) (k : Nat) : List UInt8 := l.take a ++ xorB ((l.drop a).take k) (X.take k) ++ l.drop (a + k)
theorem mix_zero (l : List UInt8) (a : Nat) (X : List UInt8) : mix l a X 0 = l := by
  unfold mix
  rw [List.take_zero, List.take_zero]
  show l.take a ++ [] ++ l.drop (a + 0) = l
  rw [List.append_nil, Nat.add_zero, List.take_append_drop]
theorem mid_len {l : List UInt8} {a k : Nat} (h : a + k ≤ l.length) : ((l.drop a).take k).length = k := by rw [List.length_take, List.length_drop]; omega
theorem mix_len {l X : List UInt8} {a k : Nat} (h : a + k ≤ l.length) (hk : k ≤ X.length) : (mix l a X k).length = l.length := by
  unfold mix
  have h1 : (X.take k).length = k := by rw [List.length_take]; omega
  rw [List.length_append, List.length_append, xorB_length _ _ ((mid_len h).trans h1.symm), mid_len h, List.length_take, List.length_drop]
  omega
theorem mix_front {l X : List UInt8} {a k : Nat} (h : a + k ≤ l.length) (hk : k ≤ X.length) : (l.take a ++ xorB ((l.drop a).take k) (X.take k)).length = a + k := by
  have h1 : (X.take k).length = k := by rw [List.length_take]; omega
  rw [List.length_append, xorB_length _ _ ((mid_len h).trans h1.symm), mid_len h, List.length_take]
  omega
theorem mix_at {l X : List UInt8} {a k : Nat} (h : a + k < l.length) (hk : k ≤ X.length) : (mix l a X k)[a + k]? = l[a + k]? := by
  unfold mix
  rw [List.getElem?_append_right (by rw [mix_front (by omega) hk]; exact Nat.le_refl _), mix_front (by omega) hk, Nat.sub_self, List.getElem?_drop]
  rfl
theorem mix_succ {l X : List UInt8} {a k : Nat} (h : a + k < l.length) (hk : k < X.length) : (mix l a X k).set (a + k) (l[a + k] ^^^ X[k]) = mix l a X (k + 1) := by
  have hf := mix_front (l := l) (X := X) (a := a) (k := k) (by omega) (by omega)
  unfold mix at *
  rw [List.set_append_right _ _ (by rw [hf]; exact Nat.le_refl _), hf, Nat.sub_self]
  have h1 : (l.drop a).take (k + 1) = (l.drop a).take k ++ [l[a + k]] := by
    rw [List.take_add_one, List.getElem?_drop, List.getElem?_eq_getElem h]; rfl
  have h2 : X.take (k + 1) = X.take k ++ [X[k]] := by
    rw [List.take_add_one, List.getElem?_eq_getElem hk]; rfl
  have h3 : (X.take k).length = k := by rw [List.length_take]; omega
  rw [h1, h2, xorB_app _ _ _ _ ((mid_len (by omega)).trans h3.symm), List.drop_eq_getElem_cons h, List.set_cons_zero, show a + (k + 1) = a + k + 1 by omega]
  simp [xorB]
theorem four_same {l X : List UInt8} {a k : Nat} (h : a + k ≤ l.length) (hk : k ≤ X.length) (h4 : k ≤ 4) : crcN (mix l a X k) = crcN l ↔ mix l a X k = l := by
  refine ⟨fun e => ?_, fun e => by rw [e]⟩
  have h1 : (X.take k).length = k := by rw [List.length_take]; omega
  have hl : l = l.take a ++ (l.drop a).take k ++ l.drop (a + k) := by
    rw [List.append_assoc, ← List.drop_drop, List.take_append_drop, List.take_append_drop]
  have e' : crcN (l.take a ++ xorB ((l.drop a).take k) (X.take k) ++ l.drop (a + k)) = crcN (l.take a ++ (l.drop a).take k ++ l.drop (a + k)) := by
    rw [← hl]; exact e
  have := crc_burst _ _ _ _ (by rw [xorB_length _ _ ((mid_len h).trans h1.symm)]) (by rw [xorB_length _ _ ((mid_len h).trans h1.symm), mid_len h]; exact h4) e'
  unfold mix
  rw [this]; exact hl.symm
end Go.Proofs.YtandcacobahmbaaDoor.Dg
