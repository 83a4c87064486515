/-
  Contracts of IsName and of the reference's IsName.
-/
import Derived.Test.YthfchgifkalfdaaIdMath
import Derived.Laws.DeepStrings4
import Derived.LoopTactic
namespace Go.Proofs.Ythfchgifkalfdaa.Id
open Go.RowKit

def NameInv (s : ByteArray) (pos : Nat) : Prop := pos ≤ s.size ∧ (0 < pos → ∃ h : 0 < s.size, letU s[0] = true) ∧ ∀ j, j < pos → ∀ (hj : j < s.size), okU s[j] = true
theorem NameInv.step {s : ByteArray} {pos : Nat} (h : NameInv s pos) (hp : pos < s.size) (ho : okU s[pos] = true) (hl : pos = 0 → letU s[pos] = true) : NameInv s (pos + 1) := by
  refine ⟨by omega, fun _ => ?_, fun j hj hs => ?_⟩
  · by_cases h0 : pos = 0
    · subst h0; exact ⟨hp, hl rfl⟩
    · exact h.2.1 (by omega)
  · by_cases e : j = pos
    · subst e; exact ho
    · exact h.2.2 j (by omega) hs
theorem NameInv.last {s : ByteArray} (h : NameInv s s.size) (h1 : 0 < s.size) (h2 : s.size ≤ 16) : nameS s = true := by
  obtain ⟨_, a, b⟩ := h
  obtain ⟨_, a⟩ := a h1
  exact name_good h1 h2 a (fun j hj => b j hj hj)
theorem below_iter (w : World) (s : ByteArray) (pos : Nat) : Below w.heap.size w (w.iter s pos) := (Below.refl _ w).alloc (Nat.le_refl _) _
theorem name_step (w : World) {s : ByteArray} {pos q R K : Nat} {hp : pos < s.size} (hinv : NameInv s pos) (hk : Hid (AtRune s pos hp R K)) (hq : q = pos + K) (ho : okZ R = true) (hl : pos = 0 → letZ R = true) :
    (∃ p, w.iter s q = w.iter s p ∧ NameInv s p) ∧ s.size - (w.iter s q).iterPos w.heap.size < s.size - (w.iter s pos).iterPos w.heap.size := by
  subst hq
  have k1 := hk.out.one ho
  obtain ⟨a, b, c⟩ := hk.out.same
  subst k1
  refine ⟨⟨_, rfl, hinv.step hp (by rw [← c]; exact ho) (fun h => by rw [← a]; exact hl h)⟩, ?_⟩
  rw [World.iterPos_iter, World.iterPos_iter]
  omega
theorem name_no {s : ByteArray} {pos R K : Nat} {hp : pos < s.size} (hk : Hid (AtRune s pos hp R K)) (h : okZ R = false ∨ (pos = 0 ∧ letZ R = false)) : false = nameS s := by
  obtain ⟨a, b, c⟩ := hk.out.same
  rcases h with h | ⟨rfl, h⟩
  · exact (name_bad pos hp (by rw [← c]; exact h)).symm
  · exact (name_head hp (by rw [← a]; exact h)).symm
theorem okZ_let {R : Int} (h : letZ R = true) : okZ R = true := by unfold okZ; rw [h]; rfl
theorem okZ_dig {R : Int} (h : digZ R = true) : okZ R = true := by unfold okZ; rw [h]; simp
theorem okZ_no {R : Int} (h1 : ¬ letZ R = true) (h2 : ¬ digZ R = true) (h3 : ¬ R = 95) (h4 : ¬ R = 45) : okZ R = false := by
  unfold okZ
  rw [Bool.not_eq_true] at h1 h2
  rw [h1, h2, beq_false_of_ne h3, beq_false_of_ne h4]; rfl

set_option maxHeartbeats 1000000 in
set_option maxRecDepth 100000 in
theorem isName_any (s : ByteArray) (w : World) : Calls Try.prog 12 #[.string s] w fun e w' => e = .returned (.bool (nameS s)) ∧ Below w.heap.size w w' := by
  by_cases h0 : s.size = 0
  · have E := Lib.hid (name_short h0)
    have hn : s.toList = [] := by rw [Lib.toList_data]; exact List.eq_nil_of_length_eq_zero (by rw [len_data]; exact h0)
    go_enter Try.func12, Try.ntmps12
    go_wp2
    go_ret
    exact ⟨ret_bool E.out.symm, Below.refl _ _⟩
  · have hn : s.toList.isEmpty = false := by
      rw [Lib.toList_data, List.isEmpty_eq_false_iff]; intro e; have := len_data s; rw [e] at this; simp at this; omega
    by_cases h1 : 16 < s.size
    · have E := Lib.hid (name_long h1)
      have h1' : (16 : Int) < (s.size : Int) := by omega
      clear h1 h0
      go_enter Try.func12, Try.ntmps12
      go_wp2
      go_ret
      exact ⟨ret_bool E.out.symm, Below.refl _ _⟩
    · have h1' : (s.size : Int) ≤ 16 := by omega
      go_enter Try.func12, Try.ntmps12
      go_wp2
      go_loopw [3, 4] (fun a c w' => ∃ pos : Nat, w' = w.iter s pos ∧ NameInv s pos) (fun _ _ w' => s.size - w'.iterPos w.heap.size)
      case atStart => exact ⟨0, rfl, by omega, by omega, by omega⟩
      case round =>
        obtain ⟨pos, rfl, hinv⟩ := hrel
        by_cases hp : pos < s.size
        · have hnx : ∀ ty, (Instr.next (.pointer (some ⟨w.heap.size, 0, none⟩)) true ty).run Try.prog (w.iter s pos) = _ := fun ty => run_next_any w s pos ty hp
          have hr := atRune s pos hp
          obtain ⟨R, hR⟩ : ∃ R, (Utf8.decode s pos).1 = R := ⟨_, rfl⟩
          obtain ⟨K, hK⟩ : ∃ K, (Utf8.decode s pos).2 = K := ⟨_, rfl⟩
          rw [hR, hK] at hr hnx
          clear hR hK
          have hsm := Lib.hid hr.same
          have hk := Lib.hid hr
          clear hr
          go_wp2_with (first | (go_at_call 27; refine (isLetter_any _ _).mono ?_; rintro e w1 ⟨rfl, rfl⟩) | (go_at_call 28; refine (isDigit_any _ _).mono ?_; rintro e w1 ⟨rfl, rfl⟩))
          · exact name_step w hinv hk (by omega) (okZ_let (by assumption)) (fun _ => by assumption)
          · go_ret
            exact ⟨ret_bool (name_no hk (Or.inr ⟨by assumption, Bool.not_eq_true _ ▸ (by assumption)⟩)), below_iter _ _ _⟩
          · exact name_step w hinv hk (by omega) (okZ_let (by assumption)) (fun _ => by assumption)
          · exact name_step w hinv hk (by omega) (okZ_dig (by assumption)) (fun _ => by omega)
          · exact name_step w hinv hk (by omega) (by rename_i hx; rw [hx]; rfl) (fun _ => by omega)
          · rename_i h95 hx
            go_ret
            exact ⟨ret_bool (name_no hk (Or.inl (okZ_no (by assumption) (by assumption) h95 (by simpa using hx.2)))), below_iter _ _ _⟩
          · rename_i h95 hx
            have h45 : (R : Int) = 45 := by
              rcases hx with hx | hx
              · exact absurd (by simpa using hx) h95
              · simpa using hx
            exact name_step w hinv hk (by omega) (by rw [h45]; rfl) (fun _ => by omega)
        · have hnx : ∀ ty, (Instr.next (.pointer (some ⟨w.heap.size, 0, none⟩)) true ty).run Try.prog (w.iter s pos) = _ := fun ty => run_next_end w s pos ty hp
          obtain rfl : pos = s.size := by have := hinv.1; omega
          have E := Lib.hid (hinv.last (by omega) (by omega))
          clear hinv h0 h1 h1' hp
          go_wp2
          go_ret
          exact ⟨ret_bool E.out.symm, below_iter _ _ _⟩
end Go.Proofs.Ythfchgifkalfdaa.Id
