/-
  Contract of the reference's IsName.
-/
import Derived.Test.YthfchgifkalfdaaIdName
namespace Go.Proofs.Ythfchgifkalfdaa.Id
open Go.RowKit

theorem rname_step {s : ByteArray} {pos : Nat} (hp : pos < s.size) {h0 : 0 < s.size} (hinv : NameInv s pos) (HL : Hid (letU s[0] = true)) (ho : okZ (s[pos].toNat : Int) = true) :
    (∃ p : Nat, Value.int .i64 ((pos : Int) + 1) = Value.int .i64 p ∧ NameInv s p) ∧ s.size - (intOf (Value.int .i64 ((pos : Int) + 1))).toNat < s.size - (intOf (Value.int .i64 pos)).toNat := by
  refine ⟨⟨pos + 1, rfl, hinv.step hp ho (fun h => ?_)⟩, by simp [intOf]; omega⟩
  subst h
  exact HL.out
theorem ok_95 {c : Int} (h : c = 95) : okZ c = true := by rw [h]; rfl
theorem ok_45 {c : Int} (h : c = 45) : okZ c = true := by rw [h]; rfl
set_option maxHeartbeats 1000000 in
set_option maxRecDepth 100000 in
theorem rname_any (s : ByteArray) (w : World) : Calls Try.prog 13 #[.string s] w fun e w' => e = .returned (.bool (nameS s)) ∧ w = w' := by
  by_cases h0 : s.size = 0
  · have E := Lib.hid (name_short h0)
    have hn : s.toList = [] := by rw [Lib.toList_data]; exact List.eq_nil_of_length_eq_zero (by rw [len_data]; exact h0)
    go_enter Try.func13, Try.ntmps13
    go_wp2
    go_ret
    exact ⟨ret_bool E.out.symm, rfl⟩
  · have hn : s.toList.isEmpty = false := by
      rw [Lib.toList_data, List.isEmpty_eq_false_iff]; intro e; have := len_data s; rw [e] at this; simp at this; omega
    by_cases h1 : 16 < s.size
    · have E := Lib.hid (name_long h1)
      have h1' : (16 : Int) < (s.size : Int) := by omega
      clear h1 h0
      go_enter Try.func13, Try.ntmps13
      go_wp2
      go_ret
      exact ⟨ret_bool E.out.symm, rfl⟩
    · have h1' : (s.size : Int) ≤ 16 := by omega
      have hp0 : 0 < s.size := by omega
      obtain ⟨L, hL⟩ : ∃ L, letZ (s[0].toNat : Int) = L := ⟨_, rfl⟩
      cases L
      · have E := Lib.hid (name_head hp0 hL)
        go_enter Try.func13, Try.ntmps13
        go_wp2_with (go_at_call 29; refine (rletter_any _ _).mono ?_; rintro e w1 ⟨rfl, rfl⟩)
        go_ret
        exact ⟨ret_bool E.out.symm, rfl⟩
      · have HL : Hid (letU s[0] = true) := Lib.hid hL
        go_enter Try.func13, Try.ntmps13
        go_wp2_with (go_at_call 29; refine (rletter_any _ _).mono ?_; rintro e w1 ⟨rfl, rfl⟩)
        clear hL
        go_loop [3] (fun i => ∃ pos : Nat, i = .int .i64 pos ∧ NameInv s pos) (fun i => s.size - (intOf i).toNat)
        case atStart => exact ⟨0, rfl, by omega, by omega, by omega⟩
        case round =>
          obtain ⟨pos, rfl, hinv⟩ := hrel
          by_cases hp : pos < s.size
          · go_wp2_with (first | (go_at_call 29; refine (rletter_any _ _).mono ?_; rintro e w1 ⟨rfl, rfl⟩) | (go_at_call 30; refine (rdigit_any _ _).mono ?_; rintro e w1 ⟨rfl, rfl⟩))
            · exact rname_step hp hinv HL (okZ_let (by assumption))
            · exact rname_step hp hinv HL (okZ_dig (by assumption))
            · exact rname_step hp hinv HL (ok_95 (by assumption))
            · rename_i h95 hx
              go_ret
              exact ⟨ret_bool (name_bad pos hp (okZ_no (by assumption) (by assumption) h95 (by simpa using hx.2))).symm, rfl⟩
            · rename_i h95 hx
              have h45 : (s[pos].toNat : Int) = 45 := by
                rcases hx with hx | hx
                · exact absurd (by simpa using hx) h95
                · simpa using hx
              exact rname_step hp hinv HL (ok_45 h45)
          · obtain rfl : pos = s.size := by have := hinv.1; omega
            have E := Lib.hid (hinv.last (by omega) (by omega))
            clear hinv h0 h1 h1' hp
            go_wp2
            go_ret
            exact ⟨ret_bool E.out.symm, rfl⟩
end Go.Proofs.Ythfchgifkalfdaa.Id
