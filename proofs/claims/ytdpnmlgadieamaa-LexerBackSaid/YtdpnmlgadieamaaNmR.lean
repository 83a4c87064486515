/-
  Contract of the reference's IsName of layer 4, for the later layers.
-/
import Derived.Test.YtdpnmlgadieamaaProg
import Derived.WalkKit
import Derived.WalkSpells
import Derived.WalkLawsBesides
import Derived.BigQuiet
import Derived.Deep.QuietTactic
import Derived.Lib.Hide
import Derived.ProofKit
import Derived.Below
import Derived.Laws.RangeAny
import Derived.Lib.Strings
import Derived.Lib.IndexBytes
import Derived.Laws.DeepStrings4
import Derived.LoopTactic
namespace Go.Proofs.Ytdpnmlgadieamaa.Id
open Go.RowKit

def letZ (c : Int) : Bool := (decide (65 ≤ c) && decide (c ≤ 90)) || (decide (97 ≤ c) && decide (c ≤ 122))
def digZ (c : Int) : Bool := decide (48 ≤ c) && decide (c ≤ 57)
theorem ret_bool {a b : Bool} (h : a = b) : Ending.returned (.bool a) = .returned (.bool b) := by rw [h]

theorem rdigit_any (c : Int) (w : World) : Calls Try.prog 50 #[.int .u8 c] w fun e w' => e = .returned (.bool (digZ c)) ∧ w = w' := by
  go_enter Try.func50, Try.ntmps50
  go_wp2
  all_goals
    go_ret
    refine ⟨ret_bool (Bool.eq_iff_iff.2 ?_), rfl⟩
    first | (simp [digZ, *]; done) | (simp [digZ, *]; omega)
theorem rletter_any (c : Int) (w : World) : Calls Try.prog 49 #[.int .u8 c] w fun e w' => e = .returned (.bool (letZ c)) ∧ w = w' := by
  go_enter Try.func49, Try.ntmps49
  go_wp2
  all_goals
    go_ret
    refine ⟨ret_bool (Bool.eq_iff_iff.2 ?_), rfl⟩
    first | (simp [letZ, *]; done) | (simp [letZ, *]; omega)
/-! ### A range over a string -/
theorem cont_byte (s : ByteArray) (pos k : Nat) (h : (decide (pos + k < s.size) && ((s.get! (pos + k)).toNat / 64 == 2)) = true) : ∀ (hj : pos + k < s.size), 128 ≤ (s[pos + k]'hj).toNat := by
  intro hj
  have e : s.get! (pos + k) = s[pos + k]'hj := by
    show s.get! (pos + k) = _
    simp [ByteArray.get!, getElem!_pos, hj]
    rfl
  rw [e] at h
  simp at h
  omega
theorem cont_lt (s : ByteArray) (pos k : Nat) (h : (decide (pos + k < s.size) && ((s.get! (pos + k)).toNat / 64 == 2)) = true) : pos + k < s.size := by
  simp at h
  exact h.1
/-- What lies at a place of a string that is no ASCII byte: a rune beyond ASCII, and as many bytes beyond ASCII as it takes. -/
theorem dec_wide (s : ByteArray) (pos : Nat) (h : pos < s.size) (ha : 128 ≤ (s[pos]'h).toNat) :
    128 ≤ (Utf8.decode s pos).1 ∧ 1 ≤ (Utf8.decode s pos).2 ∧ pos + (Utf8.decode s pos).2 ≤ s.size ∧ ∀ j, pos ≤ j → j < pos + (Utf8.decode s pos).2 → ∀ (hj : j < s.size), 128 ≤ (s[j]'hj).toNat := by
  have h1 := decode_high s pos h ha
  refine ⟨h1.1, h1.2, ?_⟩
  have hn : ¬ (s[pos]'h).toNat < 128 := by omega
  have one : pos + 1 ≤ s.size ∧ ∀ j, pos ≤ j → j < pos + 1 → ∀ (hj : j < s.size), 128 ≤ (s[j]'hj).toNat := by
    refine ⟨by omega, fun j h1 h2 hj => ?_⟩
    obtain rfl : j = pos := by omega
    exact ha
  simp only [Utf8.decode, get_at s pos h, hn, if_false]
  split
  · rename_i hc
    rw [Bool.and_eq_true] at hc
    have c1 := cont_lt s pos 1 hc.2
    have d1 := cont_byte s pos 1 hc.2
    split
    · refine ⟨by show pos + 2 ≤ _; omega, fun j g1 g2 hj => ?_⟩
      have : j = pos ∨ j = pos + 1 := by change j < pos + 2 at g2; omega
      rcases this with rfl | rfl
      · exact ha
      · exact d1 hj
    · exact one
  · split
    · rename_i hc
      rw [Bool.and_eq_true, Bool.and_eq_true] at hc
      have c1 := cont_lt s pos 1 hc.1.2
      have d1 := cont_byte s pos 1 hc.1.2
      have c2 := cont_lt s pos 2 hc.2
      have d2 := cont_byte s pos 2 hc.2
      split
      · refine ⟨by show pos + 3 ≤ _; omega, fun j g1 g2 hj => ?_⟩
        have : j = pos ∨ j = pos + 1 ∨ j = pos + 2 := by change j < pos + 3 at g2; omega
        rcases this with rfl | rfl | rfl
        · exact ha
        · exact d1 hj
        · exact d2 hj
      · exact one
    · split
      · rename_i hc
        rw [Bool.and_eq_true, Bool.and_eq_true, Bool.and_eq_true] at hc
        have c1 := cont_lt s pos 1 hc.1.1.2
        have d1 := cont_byte s pos 1 hc.1.1.2
        have c2 := cont_lt s pos 2 hc.1.2
        have d2 := cont_byte s pos 2 hc.1.2
        have c3 := cont_lt s pos 3 hc.2
        have d3 := cont_byte s pos 3 hc.2
        split
        · refine ⟨by show pos + 4 ≤ _; omega, fun j g1 g2 hj => ?_⟩
          have : j = pos ∨ j = pos + 1 ∨ j = pos + 2 ∨ j = pos + 3 := by change j < pos + 4 at g2; omega
          rcases this with rfl | rfl | rfl | rfl
          · exact ha
          · exact d1 hj
          · exact d2 hj
          · exact d3 hj
        · exact one
      · exact one
/-- A rune at a place, and how far the range goes: an ASCII byte, or a rune beyond ASCII over bytes beyond ASCII. -/
def AtRune (s : ByteArray) (pos : Nat) (h : pos < s.size) (R K : Nat) : Prop :=
  (R = (s[pos]'h).toNat ∧ K = 1 ∧ R < 128) ∨
  (128 ≤ R ∧ 128 ≤ (s[pos]'h).toNat ∧ 1 ≤ K ∧ pos + K ≤ s.size ∧ ∀ j, pos ≤ j → j < pos + K → ∀ (hj : j < s.size), 128 ≤ (s[j]'hj).toNat)
theorem atRune (s : ByteArray) (pos : Nat) (h : pos < s.size) : AtRune s pos h (Utf8.decode s pos).1 (Utf8.decode s pos).2 := by
  by_cases ha : (s[pos]'h).toNat < 128
  · rw [decode_ascii s pos h ha]
    exact Or.inl ⟨rfl, rfl, ha⟩
  · obtain ⟨a, b, c, d⟩ := dec_wide s pos h (by omega)
    exact Or.inr ⟨a, by omega, b, c, d⟩
theorem AtRune.adv {s : ByteArray} {pos : Nat} {h : pos < s.size} {R K : Nat} (r : AtRune s pos h R K) : 1 ≤ K ∧ pos + K ≤ s.size := by
  rcases r with ⟨_, a, _⟩ | ⟨_, _, a, b, _⟩
  · omega
  · exact ⟨a, b⟩

/-! ### Names -/
def okZ (c : Int) : Bool := letZ c || digZ c || c == 95 || c == 45
def letU (c : UInt8) : Bool := letZ (c.toNat : Int)
def digU (c : UInt8) : Bool := digZ (c.toNat : Int)
def okU (c : UInt8) : Bool := okZ (c.toNat : Int)
def nameL (l : List UInt8) : Bool := decide (1 ≤ l.length) && decide (l.length ≤ 16) && letU (l.headD 0) && l.all okU
def nameS (s : ByteArray) : Bool := nameL s.data.toList
theorem letZ_high {c : Int} (h : 128 ≤ c) : letZ c = false := by
  unfold letZ; simp; omega
theorem digZ_high {c : Int} (h : 128 ≤ c) : digZ c = false := by
  unfold digZ; simp; omega
theorem okZ_high {c : Int} (h : 128 ≤ c) : okZ c = false := by
  unfold okZ; rw [letZ_high h, digZ_high h, beq_false_of_ne (by omega : c ≠ 95), beq_false_of_ne (by omega : c ≠ 45)]; rfl
theorem AtRune.same {s : ByteArray} {pos : Nat} {h : pos < s.size} {R K : Nat} (r : AtRune s pos h R K) : letZ R = letU s[pos] ∧ digZ R = digU s[pos] ∧ okZ R = okU s[pos] := by
  rcases r with ⟨rfl, _, _⟩ | ⟨a, b, _⟩
  · exact ⟨rfl, rfl, rfl⟩
  · unfold letU digU okU
    rw [letZ_high (by omega), letZ_high (by omega), digZ_high (by omega), digZ_high (by omega), okZ_high (by omega), okZ_high (by omega)]
    exact ⟨rfl, rfl, rfl⟩
theorem AtRune.one {s : ByteArray} {pos : Nat} {h : pos < s.size} {R K : Nat} (r : AtRune s pos h R K) (ho : okZ R = true) : K = 1 := by
  rcases r with ⟨_, a, _⟩ | ⟨a, _⟩
  · exact a
  · rw [okZ_high (by omega)] at ho; cases ho
theorem len_data (s : ByteArray) : s.data.toList.length = s.size := (Lib.size_eq s).symm
theorem get_data (s : ByteArray) (j : Nat) (h : j < s.size) : s.data.toList[j]? = some s[j] := by
  rw [List.getElem?_eq_getElem (by rw [len_data]; exact h)]; rfl
theorem mem_data (s : ByteArray) (j : Nat) (h : j < s.size) : s[j] ∈ s.data.toList := List.mem_of_getElem? (get_data s j h)
theorem head_data (s : ByteArray) (h : 0 < s.size) : s.data.toList.headD 0 = s[0] := by
  have := get_data s 0 h
  rw [List.headD_eq_head?_getD, List.head?_eq_getElem?, this]; rfl
theorem name_short {s : ByteArray} (h : s.size = 0) : nameS s = false := by
  unfold nameS nameL
  rw [len_data, h]; rfl
theorem name_long {s : ByteArray} (h : 16 < s.size) : nameS s = false := by
  unfold nameS nameL
  rw [len_data, decide_eq_false (by omega : ¬ s.size ≤ 16), Bool.and_false, Bool.false_and, Bool.false_and]
theorem name_head {s : ByteArray} (h : 0 < s.size) (hl : letU s[0] = false) : nameS s = false := by
  unfold nameS nameL
  rw [head_data s h, hl]; simp
theorem name_bad {s : ByteArray} (j : Nat) (h : j < s.size) (hl : okU s[j] = false) : nameS s = false := by
  unfold nameS nameL
  rw [Bool.and_eq_false_iff]
  right
  rw [List.all_eq_false]
  exact ⟨_, mem_data s j h, by rw [hl]; simp⟩
theorem name_good {s : ByteArray} (h1 : 0 < s.size) (h2 : s.size ≤ 16) (h3 : letU s[0] = true) (h4 : ∀ j (hj : j < s.size), okU s[j] = true) : nameS s = true := by
  unfold nameS nameL
  rw [len_data, head_data s h1, h3, decide_eq_true (by omega : 1 ≤ s.size), decide_eq_true h2]
  simp only [Bool.and_self, Bool.true_and]
  rw [List.all_eq_true]
  intro x hx
  obtain ⟨j, hj, rfl⟩ := List.getElem_of_mem hx
  exact h4 j (by rw [← len_data]; exact hj)
theorem letU_ok {c : UInt8} (h : letU c = true) : okU c = true := by
  unfold okU okZ; unfold letU at h; rw [h]; rfl
def NameInv (s : ByteArray) (pos : Nat) : Prop := pos ≤ s.size ∧ (0 < pos → ∃ h : 0 < s.size, letU s[0] = true) ∧ ∀ j, j < pos → ∀ (hj : j < s.size), okU s[j] = true
theorem NameInv.step {s : ByteArray} {pos : Nat} (h : NameInv s pos) (hp : pos < s.size) (ho : okU s[pos] = true) (hl : pos = 0 → letU s[pos] = true) : NameInv s (pos + 1) := by
  refine ⟨by omega, fun _ => ?_, fun j hj hs => ?_⟩
  · by_cases h0 : pos = 0
    · subst h0; exact ⟨hp, hl rfl⟩
    · exact h.2.1 (by omega)
  · by_cases e : j = pos
    · subst e; exact ho
    · exact h.2.2 j (by omega) hs
theorem NameInv.last {s : ByteArray} (h : NameInv s s.size) (h1 : 0 < s.size) (h2 : s.size ≤ 16) : nameS s = true := by
  obtain ⟨_, a, b⟩ := h
  obtain ⟨_, a⟩ := a h1
  exact name_good h1 h2 a (fun j hj => b j hj hj)
theorem below_iter (w : World) (s : ByteArray) (pos : Nat) : Below w.heap.size w (w.iter s pos) := (Below.refl _ w).alloc (Nat.le_refl _) _
theorem name_step (w : World) {s : ByteArray} {pos q R K : Nat} {hp : pos < s.size} (hinv : NameInv s pos) (hk : Hid (AtRune s pos hp R K)) (hq : q = pos + K) (ho : okZ R = true) (hl : pos = 0 → letZ R = true) :
    (∃ p, w.iter s q = w.iter s p ∧ NameInv s p) ∧ s.size - (w.iter s q).iterPos w.heap.size < s.size - (w.iter s pos).iterPos w.heap.size := by
  subst hq
  have k1 := hk.out.one ho
  obtain ⟨a, b, c⟩ := hk.out.same
  subst k1
  refine ⟨⟨_, rfl, hinv.step hp (by rw [← c]; exact ho) (fun h => by rw [← a]; exact hl h)⟩, ?_⟩
  rw [World.iterPos_iter, World.iterPos_iter]
  omega
theorem name_no {s : ByteArray} {pos R K : Nat} {hp : pos < s.size} (hk : Hid (AtRune s pos hp R K)) (h : okZ R = false ∨ (pos = 0 ∧ letZ R = false)) : false = nameS s := by
  obtain ⟨a, b, c⟩ := hk.out.same
  rcases h with h | ⟨rfl, h⟩
  · exact (name_bad pos hp (by rw [← c]; exact h)).symm
  · exact (name_head hp (by rw [← a]; exact h)).symm
theorem okZ_let {R : Int} (h : letZ R = true) : okZ R = true := by unfold okZ; rw [h]; rfl
theorem okZ_dig {R : Int} (h : digZ R = true) : okZ R = true := by unfold okZ; rw [h]; simp
theorem okZ_no {R : Int} (h1 : ¬ letZ R = true) (h2 : ¬ digZ R = true) (h3 : ¬ R = 95) (h4 : ¬ R = 45) : okZ R = false := by
  unfold okZ
  rw [Bool.not_eq_true] at h1 h2
  rw [h1, h2, beq_false_of_ne h3, beq_false_of_ne h4]; rfl

theorem rname_step {s : ByteArray} {pos : Nat} (hp : pos < s.size) {h0 : 0 < s.size} (hinv : NameInv s pos) (HL : Hid (letU s[0] = true)) (ho : okZ (s[pos].toNat : Int) = true) :
    (∃ p : Nat, Value.int .i64 ((pos : Int) + 1) = Value.int .i64 p ∧ NameInv s p) ∧ s.size - (intOf (Value.int .i64 ((pos : Int) + 1))).toNat < s.size - (intOf (Value.int .i64 pos)).toNat := by
  refine ⟨⟨pos + 1, rfl, hinv.step hp ho (fun h => ?_)⟩, by simp [intOf]; omega⟩
  subst h
  exact HL.out
theorem ok_95 {c : Int} (h : c = 95) : okZ c = true := by rw [h]; rfl
theorem ok_45 {c : Int} (h : c = 45) : okZ c = true := by rw [h]; rfl
set_option maxHeartbeats 1000000 in
set_option maxRecDepth 100000 in
theorem rname_any (s : ByteArray) (w : World) : Calls Try.prog 40 #[.string s] w fun e w' => e = .returned (.bool (nameS s)) ∧ w = w' := by
  by_cases h0 : s.size = 0
  · have E := Lib.hid (name_short h0)
    have hn : s.toList = [] := by rw [Lib.toList_data]; exact List.eq_nil_of_length_eq_zero (by rw [len_data]; exact h0)
    go_enter Try.func40, Try.ntmps40
    go_wp2
    go_ret
    exact ⟨ret_bool E.out.symm, rfl⟩
  · have hn : s.toList.isEmpty = false := by
      rw [Lib.toList_data, List.isEmpty_eq_false_iff]; intro e; have := len_data s; rw [e] at this; simp at this; omega
    by_cases h1 : 16 < s.size
    · have E := Lib.hid (name_long h1)
      have h1' : (16 : Int) < (s.size : Int) := by omega
      clear h1 h0
      go_enter Try.func40, Try.ntmps40
      go_wp2
      go_ret
      exact ⟨ret_bool E.out.symm, rfl⟩
    · have h1' : (s.size : Int) ≤ 16 := by omega
      have hp0 : 0 < s.size := by omega
      obtain ⟨L, hL⟩ : ∃ L, letZ (s[0].toNat : Int) = L := ⟨_, rfl⟩
      cases L
      · have E := Lib.hid (name_head hp0 hL)
        go_enter Try.func40, Try.ntmps40
        go_wp2_with (go_at_call 49; refine (rletter_any _ _).mono ?_; rintro e w1 ⟨rfl, rfl⟩)
        go_ret
        exact ⟨ret_bool E.out.symm, rfl⟩
      · have HL : Hid (letU s[0] = true) := Lib.hid hL
        go_enter Try.func40, Try.ntmps40
        go_wp2_with (go_at_call 49; refine (rletter_any _ _).mono ?_; rintro e w1 ⟨rfl, rfl⟩)
        clear hL
        go_loop [3] (fun i => ∃ pos : Nat, i = .int .i64 pos ∧ NameInv s pos) (fun i => s.size - (intOf i).toNat)
        case atStart => exact ⟨0, rfl, by omega, by omega, by omega⟩
        case round =>
          obtain ⟨pos, rfl, hinv⟩ := hrel
          by_cases hp : pos < s.size
          · go_wp2_with (first | (go_at_call 49; refine (rletter_any _ _).mono ?_; rintro e w1 ⟨rfl, rfl⟩) | (go_at_call 50; refine (rdigit_any _ _).mono ?_; rintro e w1 ⟨rfl, rfl⟩))
            · exact rname_step hp hinv HL (okZ_let (by assumption))
            · exact rname_step hp hinv HL (okZ_dig (by assumption))
            · exact rname_step hp hinv HL (ok_95 (by assumption))
            · rename_i h95 hx
              go_ret
              exact ⟨ret_bool (name_bad pos hp (okZ_no (by assumption) (by assumption) h95 (by simpa using hx.2))).symm, rfl⟩
            · rename_i h95 hx
              have h45 : (s[pos].toNat : Int) = 45 := by
                rcases hx with hx | hx
                · exact absurd (by simpa using hx) h95
                · simpa using hx
              exact rname_step hp hinv HL (ok_45 h45)
          · obtain rfl : pos = s.size := by have := hinv.1; omega
            have E := Lib.hid (hinv.last (by omega) (by omega))
            clear hinv h0 h1 h1' hp
            go_wp2
            go_ret
            exact ⟨ret_bool E.out.symm, rfl⟩
end Go.Proofs.Ytdpnmlgadieamaa.Id
