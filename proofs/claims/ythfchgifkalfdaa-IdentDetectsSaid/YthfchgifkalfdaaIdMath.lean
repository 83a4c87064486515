/-
  Plain mathematics of layer 4: what a range over a string meets; names; the pieces between full stops.
-/
import Derived.Test.YthfchgifkalfdaaIdSmall
import Derived.Laws.RangeAny
import Derived.Lib.Strings
import Derived.Lib.IndexBytes
namespace Go.Proofs.Ythfchgifkalfdaa.Id
open Go.RowKit

/-! ### A range over a string -/
theorem cont_byte (s : ByteArray) (pos k : Nat) (h : (decide (pos + k < s.size) && ((s.get! (pos + k)).toNat / 64 == 2)) = true) : ∀ (hj : pos + k < s.size), 128 ≤ (s[pos + k]'hj).toNat := by
  intro hj
  have e : s.get! (pos + k) = s[pos + k]'hj := by
    show s.get! (pos + k) = _
    simp [ByteArray.get!, getElem!_pos, hj]
    rfl
  rw [e] at h
  simp at h
  omega
theorem cont_lt (s : ByteArray) (pos k : Nat) (h : (decide (pos + k < s.size) && ((s.get! (pos + k)).toNat / 64 == 2)) = true) : pos + k < s.size := by
  simp at h
  exact h.1
/-- What lies at a place of a string that is no ASCII byte: a rune beyond ASCII, and as many bytes beyond ASCII as it takes. -/
theorem dec_wide (s : ByteArray) (pos : Nat) (h : pos < s.size) (ha : 128 ≤ (s[pos]'h).toNat) :
    128 ≤ (Utf8.decode s pos).1 ∧ 1 ≤ (Utf8.decode s pos).2 ∧ pos + (Utf8.decode s pos).2 ≤ s.size ∧ ∀ j, pos ≤ j → j < pos + (Utf8.decode s pos).2 → ∀ (hj : j < s.size), 128 ≤ (s[j]'hj).toNat := by
  have h1 := decode_high s pos h ha
  refine ⟨h1.1, h1.2, ?_⟩
  have hn : ¬ (s[pos]'h).toNat < 128 := by omega
  have one : pos + 1 ≤ s.size ∧ ∀ j, pos ≤ j → j < pos + 1 → ∀ (hj : j < s.size), 128 ≤ (s[j]'hj).toNat := by
    refine ⟨by omega, fun j h1 h2 hj => ?_⟩
    obtain rfl : j = pos := by omega
    exact ha
  simp only [Utf8.decode, get_at s pos h, hn, if_false]
  split
  · rename_i hc
    rw [Bool.and_eq_true] at hc
    have c1 := cont_lt s pos 1 hc.2
    have d1 := cont_byte s pos 1 hc.2
    split
    · refine ⟨by show pos + 2 ≤ _; omega, fun j g1 g2 hj => ?_⟩
      have : j = pos ∨ j = pos + 1 := by change j < pos + 2 at g2; omega
      rcases this with rfl | rfl
      · exact ha
      · exact d1 hj
    · exact one
  · split
    · rename_i hc
      rw [Bool.and_eq_true, Bool.and_eq_true] at hc
      have c1 := cont_lt s pos 1 hc.1.2
      have d1 := cont_byte s pos 1 hc.1.2
      have c2 := cont_lt s pos 2 hc.2
      have d2 := cont_byte s pos 2 hc.2
      split
      · refine ⟨by show pos + 3 ≤ _; omega, fun j g1 g2 hj => ?_⟩
        have : j = pos ∨ j = pos + 1 ∨ j = pos + 2 := by change j < pos + 3 at g2; omega
        rcases this with rfl | rfl | rfl
        · exact ha
        · exact d1 hj
        · exact d2 hj
      · exact one
    · split
      · rename_i hc
        rw [Bool.and_eq_true, Bool.and_eq_true, Bool.and_eq_true] at hc
        have c1 := cont_lt s pos 1 hc.1.1.2
        have d1 := cont_byte s pos 1 hc.1.1.2
        have c2 := cont_lt s pos 2 hc.1.2
        have d2 := cont_byte s pos 2 hc.1.2
        have c3 := cont_lt s pos 3 hc.2
        have d3 := cont_byte s pos 3 hc.2
        split
        · refine ⟨by show pos + 4 ≤ _; omega, fun j g1 g2 hj => ?_⟩
          have : j = pos ∨ j = pos + 1 ∨ j = pos + 2 ∨ j = pos + 3 := by change j < pos + 4 at g2; omega
          rcases this with rfl | rfl | rfl | rfl
          · exact ha
          · exact d1 hj
          · exact d2 hj
          · exact d3 hj
        · exact one
      · exact one
/-- A rune at a place, and how far the range goes: an ASCII byte, or a rune beyond ASCII over bytes beyond ASCII. -/
def AtRune (s : ByteArray) (pos : Nat) (h : pos < s.size) (R K : Nat) : Prop :=
  (R = (s[pos]'h).toNat ∧ K = 1 ∧ R < 128) ∨
  (128 ≤ R ∧ 128 ≤ (s[pos]'h).toNat ∧ 1 ≤ K ∧ pos + K ≤ s.size ∧ ∀ j, pos ≤ j → j < pos + K → ∀ (hj : j < s.size), 128 ≤ (s[j]'hj).toNat)
theorem atRune (s : ByteArray) (pos : Nat) (h : pos < s.size) : AtRune s pos h (Utf8.decode s pos).1 (Utf8.decode s pos).2 := by
  by_cases ha : (s[pos]'h).toNat < 128
  · rw [decode_ascii s pos h ha]
    exact Or.inl ⟨rfl, rfl, ha⟩
  · obtain ⟨a, b, c, d⟩ := dec_wide s pos h (by omega)
    exact Or.inr ⟨a, by omega, b, c, d⟩
theorem AtRune.adv {s : ByteArray} {pos : Nat} {h : pos < s.size} {R K : Nat} (r : AtRune s pos h R K) : 1 ≤ K ∧ pos + K ≤ s.size := by
  rcases r with ⟨_, a, _⟩ | ⟨_, _, a, b, _⟩
  · omega
  · exact ⟨a, b⟩

/-! ### Names -/
def okZ (c : Int) : Bool := letZ c || digZ c || c == 95 || c == 45
def letU (c : UInt8) : Bool := letZ (c.toNat : Int)
def digU (c : UInt8) : Bool := digZ (c.toNat : Int)
def okU (c : UInt8) : Bool := okZ (c.toNat : Int)
def nameL (l : List UInt8) : Bool := decide (1 ≤ l.length) && decide (l.length ≤ 16) && letU (l.headD 0) && l.all okU
def nameS (s : ByteArray) : Bool := nameL s.data.toList
theorem letZ_high {c : Int} (h : 128 ≤ c) : letZ c = false := by
  unfold letZ; simp; omega
theorem digZ_high {c : Int} (h : 128 ≤ c) : digZ c = false := by
  unfold digZ; simp; omega
theorem okZ_high {c : Int} (h : 128 ≤ c) : okZ c = false := by
  unfold okZ; rw [letZ_high h, digZ_high h, beq_false_of_ne (by omega : c ≠ 95), beq_false_of_ne (by omega : c ≠ 45)]; rfl
theorem AtRune.same {s : ByteArray} {pos : Nat} {h : pos < s.size} {R K : Nat} (r : AtRune s pos h R K) : letZ R = letU s[pos] ∧ digZ R = digU s[pos] ∧ okZ R = okU s[pos] := by
  rcases r with ⟨rfl, _, _⟩ | ⟨a, b, _⟩
  · exact ⟨rfl, rfl, rfl⟩
  · unfold letU digU okU
    rw [letZ_high (by omega), letZ_high (by omega), digZ_high (by omega), digZ_high (by omega), okZ_high (by omega), okZ_high (by omega)]
    exact ⟨rfl, rfl, rfl⟩
theorem AtRune.one {s : ByteArray} {pos : Nat} {h : pos < s.size} {R K : Nat} (r : AtRune s pos h R K) (ho : okZ R = true) : K = 1 := by
  rcases r with ⟨_, a, _⟩ | ⟨a, _⟩
  · exact a
  · rw [okZ_high (by omega)] at ho; cases ho
theorem len_data (s : ByteArray) : s.data.toList.length = s.size := (Lib.size_eq s).symm
theorem get_data (s : ByteArray) (j : Nat) (h : j < s.size) : s.data.toList[j]? = some s[j] := by
  rw [List.getElem?_eq_getElem (by rw [len_data]; exact h)]; rfl
theorem mem_data (s : ByteArray) (j : Nat) (h : j < s.size) : s[j] ∈ s.data.toList := List.mem_of_getElem? (get_data s j h)
theorem head_data (s : ByteArray) (h : 0 < s.size) : s.data.toList.headD 0 = s[0] := by
  have := get_data s 0 h
  rw [List.headD_eq_head?_getD, List.head?_eq_getElem?, this]; rfl
theorem name_short {s : ByteArray} (h : s.size = 0) : nameS s = false := by
  unfold nameS nameL
  rw [len_data, h]; rfl
theorem name_long {s : ByteArray} (h : 16 < s.size) : nameS s = false := by
  unfold nameS nameL
  rw [len_data, decide_eq_false (by omega : ¬ s.size ≤ 16), Bool.and_false, Bool.false_and, Bool.false_and]
theorem name_head {s : ByteArray} (h : 0 < s.size) (hl : letU s[0] = false) : nameS s = false := by
  unfold nameS nameL
  rw [head_data s h, hl]; simp
theorem name_bad {s : ByteArray} (j : Nat) (h : j < s.size) (hl : okU s[j] = false) : nameS s = false := by
  unfold nameS nameL
  rw [Bool.and_eq_false_iff]
  right
  rw [List.all_eq_false]
  exact ⟨_, mem_data s j h, by rw [hl]; simp⟩
theorem name_good {s : ByteArray} (h1 : 0 < s.size) (h2 : s.size ≤ 16) (h3 : letU s[0] = true) (h4 : ∀ j (hj : j < s.size), okU s[j] = true) : nameS s = true := by
  unfold nameS nameL
  rw [len_data, head_data s h1, h3, decide_eq_true (by omega : 1 ≤ s.size), decide_eq_true h2]
  simp only [Bool.and_self, Bool.true_and]
  rw [List.all_eq_true]
  intro x hx
  obtain ⟨j, hj, rfl⟩ := List.getElem_of_mem hx
  exact h4 j (by rw [← len_data]; exact hj)
theorem letU_ok {c : UInt8} (h : letU c = true) : okU c = true := by
  unfold okU okZ; unfold letU at h; rw [h]; rfl
end Go.Proofs.Ythfchgifkalfdaa.Id
