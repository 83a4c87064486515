/-
  Contracts of the reference's plain and first, and of element.
-/
import Derived.Test.YthfchgifkalfdaaIdElem
namespace Go.Proofs.Ythfchgifkalfdaa.Id
open Go.RowKit

/-- The length of a value that is a string. -/
def lenOf : Value → Nat
  | .string s => s.size
  | _ => 0
theorem size_drop (s : ByteArray) (k : Nat) : (s.extract k s.size).size = s.size - k := by
  rw [Lib.size_eq, Lib.extract_data, List.take_of_length_le (by rw [List.length_drop, len_data]; exact Nat.le_refl _), List.length_drop, len_data]
theorem data_drop (s : ByteArray) (k : Nat) : (s.extract k s.size).data.toList = s.data.toList.drop k := by
  rw [Lib.extract_data, List.take_of_length_le (by rw [List.length_drop, len_data]; exact Nat.le_refl _)]

set_option maxHeartbeats 1000000 in
set_option maxRecDepth 100000 in
theorem plain_any (s : ByteArray) (w : World) : Calls Try.prog 42 #[.string s] w fun e w' => e = .returned (.string (sigS s)) ∧ w = w' := by
  go_enter Try.func42, Try.ntmps42
  go_wp2
  go_loop [0] (fun v => ∃ x : ByteArray, v = .string x ∧ Hid (sigL s.data.toList = sigL x.data.toList)) (fun v => lenOf v)
  case atStart => exact ⟨s, rfl, rfl⟩
  case round =>
    obtain ⟨x, rfl, hsig⟩ := hrel
    by_cases hp : 0 < x.size
    · by_cases h48 : x[0].toNat = 48
      · have hb : (x[0].toNat : Int) = 48 := by omega
        have hd := Lib.hid (data_drop x 1)
        have hsz := size_drop x 1
        have h1 : (1 : Int) ≤ (x.size : Int) := by omega
        have HS := Lib.hid (show sigL s.data.toList = sigL (x.extract 1 x.size).data.toList by rw [data_drop, hsig.out, ← sig_skip hp h48]; rfl)
        clear hsig h48
        go_wp2
        exact ⟨⟨_, rfl, HS.out⟩, by simp only [lenOf]; omega⟩
      · have hb : ((x[0].toNat : Int) == 48) = false := beq_false_of_ne (by omega)
        have HS := Lib.hid (show x = sigS s by
          unfold sigS
          have := sig_stop hp h48
          rw [List.drop_zero] at this
          rw [hsig.out, this, toB_data])
        clear hsig h48
        go_wp2
        go_ret
        exact ⟨by rw [← HS.out]; rfl, rfl⟩
    · have hp' : ¬ (0 : Int) < (x.size : Int) := by omega
      have HS := Lib.hid (show x = sigS s by
          unfold sigS
          have e : x.data.toList = [] := List.eq_nil_of_length_eq_zero (by rw [len_data]; omega)
          rw [hsig.out, e]
          show x = toB []
          rw [← e, toB_data])
      clear hsig
      go_wp2
      go_ret
      exact ⟨by rw [← HS.out]; rfl, rfl⟩

/-! ### The first element -/
def DigInv (s : ByteArray) (pos : Nat) : Prop := pos ≤ s.size ∧ Hid ((s.data.toList.takeWhile digU).length = pos + ((s.data.toList.drop pos).takeWhile digU).length)
theorem DigInv.start (s : ByteArray) : DigInv s 0 := ⟨Nat.zero_le _, by show _ = _; rw [List.drop_zero, Nat.zero_add]⟩
theorem DigInv.step {s : ByteArray} {pos : Nat} (h : DigInv s pos) (hp : pos < s.size) (hd : digU s[pos] = true) : DigInv s (pos + 1) := by
  refine ⟨hp, ?_⟩
  show _ = _
  rw [h.2.out, drop_cons s pos hp, List.takeWhile_cons_of_pos hd, List.length_cons]
  omega
theorem DigInv.stop {s : ByteArray} {pos : Nat} (h : DigInv s pos) (hp : pos < s.size) (hd : digU s[pos] = false) : elN s.data.toList = max pos 1 := by
  unfold elN
  rw [h.2.out, drop_cons s pos hp, List.takeWhile_cons_of_neg (by rw [hd]; simp)]
  rfl
theorem DigInv.last {s : ByteArray} (h : DigInv s s.size) (h0 : 0 < s.size) : elN s.data.toList = s.size := by
  unfold elN
  rw [h.2.out, List.drop_eq_nil_of_le (by rw [len_data]; exact Nat.le_refl _)]
  show max (s.size + 0) 1 = s.size
  omega

set_option maxHeartbeats 1000000 in
set_option maxRecDepth 100000 in
theorem element_any (s : ByteArray) (w : World) (h0 : 0 < s.size) : Calls Try.prog 32 #[.string s] w fun e w' => e = .returned (.int .i64 (elN s.data.toList)) ∧ Below w.heap.size w w' := by
  go_enter Try.func32, Try.ntmps32
  go_wp2
  go_loopw [3, 4] (fun _ _ w' => ∃ pos : Nat, w' = w.iter s pos ∧ DigInv s pos) (fun _ _ w' => s.size - w'.iterPos w.heap.size)
  case atStart => exact ⟨0, rfl, DigInv.start s⟩
  case round =>
    obtain ⟨pos, rfl, hinv⟩ := hrel
    have hps := hinv.1
    by_cases hp : pos < s.size
    · have hnx : ∀ ty, (Instr.next (.pointer (some ⟨w.heap.size, 0, none⟩)) true ty).run Try.prog (w.iter s pos) = _ := fun ty => run_next_any w s pos ty hp
      have hr := atRune s pos hp
      obtain ⟨R, hR⟩ : ∃ R, (Utf8.decode s pos).1 = R := ⟨_, rfl⟩
      obtain ⟨K, hK⟩ : ∃ K, (Utf8.decode s pos).2 = K := ⟨_, rfl⟩
      rw [hR, hK] at hr hnx
      clear hR hK
      obtain ⟨B, hB⟩ : ∃ B, digZ (R : Int) = B := ⟨_, rfl⟩
      have hsm := hr.same.2.1
      rw [hB] at hsm
      have cD : Hid (∀ W, Calls Try.prog 28 #[.int .i32 (R : Int)] W fun e w' => e = .returned (.bool B) ∧ W = w') := fun W => by rw [← hB]; exact isDigit_any _ W
      cases B
      · have HE := Lib.hid (hinv.stop hp hsm.symm)
        clear hr hsm hB
        by_cases h1 : 1 ≤ pos
        · have h1' : (1 : Int) ≤ (pos : Int) := by omega
          have HE' := Lib.hid (show elN s.data.toList = pos by rw [HE.out]; omega)
          go_wp2_with (go_at_call 28; refine (cD.out _).mono ?_; rintro e w1 ⟨rfl, rfl⟩)
          go_ret
          exact ⟨by rw [HE'.out]; rfl, below_iter _ _ _⟩
        · obtain rfl : pos = 0 := by omega
          have HE' := Lib.hid (show elN s.data.toList = 1 by rw [HE.out]; rfl)
          go_wp2_with (go_at_call 28; refine (cD.out _).mono ?_; rintro e w1 ⟨rfl, rfl⟩)
          go_ret
          exact ⟨by rw [HE'.out]; rfl, below_iter _ _ _⟩
      · have hk : K = 1 := hr.one (okZ_dig hB)
        subst hk
        have HI := Lib.hid (hinv.step hp hsm.symm)
        clear hr hsm hB
        go_wp2_with (go_at_call 28; refine (cD.out _).mono ?_; rintro e w1 ⟨rfl, rfl⟩)
        exact ⟨⟨pos + 1, rfl, HI.out⟩, by rw [World.iterPos_iter, World.iterPos_iter]; omega⟩
    · have hnx : ∀ ty, (Instr.next (.pointer (some ⟨w.heap.size, 0, none⟩)) true ty).run Try.prog (w.iter s pos) = _ := fun ty => run_next_end w s pos ty hp
      obtain rfl : pos = s.size := by omega
      have HE := Lib.hid (hinv.last h0)
      clear hinv
      go_wp2
      go_ret
      exact ⟨by rw [HE.out]; rfl, below_iter _ _ _⟩
/-- The first element, as a string. -/
def firstS (s : ByteArray) : ByteArray := s.extract 0 (elN s.data.toList)
set_option maxHeartbeats 1000000 in
set_option maxRecDepth 100000 in
theorem first_any (s : ByteArray) (w : World) (h0 : 0 < s.size) (hb : (s.size : Int) ≤ 100000) : Calls Try.prog 35 #[.string s] w fun e w' => e = .returned (.string (firstS s)) ∧ w = w' := by
  go_enter Try.func35, Try.ntmps35
  go_wp2
  go_loop [3] (fun i => ∃ pos : Nat, i = .int .i64 pos ∧ DigInv s pos) (fun i => s.size - (intOf i).toNat)
  case atStart => exact ⟨0, rfl, DigInv.start s⟩
  case round =>
    obtain ⟨pos, rfl, hinv⟩ := hrel
    have hps := hinv.1
    by_cases hp : pos < s.size
    · obtain ⟨B, hB⟩ : ∃ B, digZ (s[pos].toNat : Int) = B := ⟨_, rfl⟩
      have cD : Hid (∀ W, Calls Try.prog 30 #[.int .u8 (s[pos].toNat : Int)] W fun e w' => e = .returned (.bool B) ∧ W = w') := fun W => by rw [← hB]; exact rdigit_any _ W
      cases B
      · have HE := Lib.hid (hinv.stop hp hB)
        clear hB
        by_cases h1 : 1 ≤ pos
        · have h1' : (1 : Int) ≤ (pos : Int) := by omega
          have HE' := Lib.hid (show s.extract 0 pos = firstS s by unfold firstS; rw [HE.out, show max pos 1 = pos by omega])
          have hps' : (pos : Int) ≤ (s.size : Int) := by omega
          go_wp2_with (go_at_call 30; refine (cD.out _).mono ?_; rintro e w1 ⟨rfl, rfl⟩)
          go_ret
          exact ⟨by rw [← HE'.out]; rfl, rfl⟩
        · obtain rfl : pos = 0 := by omega
          have HE' := Lib.hid (show s.extract 0 1 = firstS s by unfold firstS; rw [HE.out]; rfl)
          have hps' : (1 : Int) ≤ (s.size : Int) := by omega
          go_wp2_with (go_at_call 30; refine (cD.out _).mono ?_; rintro e w1 ⟨rfl, rfl⟩)
          go_ret
          exact ⟨by rw [← HE'.out]; rfl, rfl⟩
      · have HI := Lib.hid (hinv.step hp hB)
        clear hB
        go_wp2_with (go_at_call 30; refine (cD.out _).mono ?_; rintro e w1 ⟨rfl, rfl⟩)
        exact ⟨⟨pos + 1, rfl, HI.out⟩, by simp [intOf]; omega⟩
    · obtain rfl : pos = s.size := by omega
      have HE' := Lib.hid (show s = firstS s by unfold firstS; rw [hinv.last h0]; simp)
      have h1' : (1 : Int) ≤ (s.size : Int) := by omega
      clear hinv
      go_wp2
      go_ret
      exact ⟨by rw [← HE'.out]; rfl, rfl⟩
end Go.Proofs.Ythfchgifkalfdaa.Id
