/-
  Contracts of checkDigits and of the reference's Digits.
-/
import Derived.Test.YthfchgifkalfdaaIdRComp
import Derived.Laws.IdiomStrings
namespace Go.Proofs.Ythfchgifkalfdaa.Id
open Go.RowKit

/-! ### Check digits -/
/-- The remainder by 97 of the number whose digits to the base 256 are the bytes. -/
def modL (l : List UInt8) : Nat := l.foldl (fun r c => (r * 256 + c.toNat) % 97) 0
theorem modL_snoc (l : List UInt8) (c : UInt8) : modL (l ++ [c]) = (modL l * 256 + c.toNat) % 97 := by unfold modL; rw [List.foldl_append]; rfl
theorem modL_lt (l : List UInt8) : modL l < 97 := by
  rcases List.eq_nil_or_concat l with rfl | ⟨l', c, rfl⟩
  · decide
  · rw [List.concat_eq_append, modL_snoc]; exact Nat.mod_lt _ (by decide)
/-- The number of the check digits. -/
def ckN (r : Nat) : Nat := 98 - 100 * r % 97
theorem ckN_bd (r : Nat) : 2 ≤ ckN r ∧ ckN r ≤ 98 := by unfold ckN; omega
def ckL (r : Nat) : List UInt8 := [UInt8.ofNat (48 + ckN r / 10), UInt8.ofNat (48 + ckN r % 10)]
/-- The check digits of a string. -/
def ckS (s : ByteArray) : ByteArray := toB (ckL (modL s.data.toList))
theorem take_snoc (s : ByteArray) (k : Nat) (h : k < s.size) : s.data.toList.take (k + 1) = s.data.toList.take k ++ [s[k]] := by
  rw [List.take_succ_eq_append_getElem (by rw [len_data]; exact h)]; rfl
theorem modL_take (s : ByteArray) (k : Nat) (h : k < s.size) : modL (s.data.toList.take (k + 1)) = (modL (s.data.toList.take k) * 256 + s[k].toNat) % 97 := by
  rw [take_snoc s k h, modL_snoc]

theorem ck_cast (m c : Nat) : Value.int .i64 (((m : Int) * 256 + (c : Int)) % 97) = Value.int .i64 (((m * 256 + c) % 97 : Nat) : Int) := by
  congr 1
theorem ck_conv (W : World) (m : Nat) :
    (convert 36 9 (.slice (some ⟨W.heap.size, 0, none⟩) 2 2)).run Try.prog (W.alloc (.cells #[.int .u8 (48 + (98 - 100 * (m : Int) % 97) / 10), .int .u8 (48 + (98 - 100 * (m : Int) % 97) % 10)] 5)) =
      .ok (.string (toB (ckL m))) (W.alloc (.cells #[.int .u8 (48 + (98 - 100 * (m : Int) % 97) / 10), .int .u8 (48 + (98 - 100 * (m : Int) % 97) % 10)] 5)) := by
  have hb := ckN_bd m
  have e : (98 - 100 * (m : Int) % 97) = ((ckN m : Nat) : Int) := by unfold ckN; omega
  rw [e]
  obtain ⟨n, hn⟩ : ∃ n, ckN m = n := ⟨_, rfl⟩
  rw [hn] at hb
  unfold ckL toB
  rw [hn]
  exact run_convert_bytes_back (P := Try.prog) _ 36 9 5 ⟨W.heap.size, 0, none⟩ 2 [UInt8.ofNat (48 + n / 10), UInt8.ofNat (48 + n % 10)] Try.underlying36 Try.underlying5 Try.underlying9 (fun j hj => by
    match j, hj with
    | 0, _ => simp [Addr.add]; omega
    | 1, _ => simp [Addr.add]; omega)

set_option maxHeartbeats 1000000 in
set_option maxRecDepth 100000 in
theorem check_any (s : ByteArray) (w : World) (hA : ∀ j (hj : j < s.size), s[j].toNat < 128) : Calls Try.prog 38 #[.string s] w fun e w' => e = .returned (.string (ckS s)) ∧ Below w.heap.size w w' := by
  have HA := Lib.hid hA
  clear hA
  go_enter Try.func38, Try.ntmps38
  go_wp2_with fail
  go_loopw [3, 5] (fun r _ w' => ∃ pos m : Nat, w' = w.iter s pos ∧ r = .int .i64 m ∧ m < 97 ∧ pos ≤ s.size ∧ Hid (m = modL (s.data.toList.take pos))) (fun _ _ w' => s.size - w'.iterPos w.heap.size)
  case atStart => exact ⟨0, 0, rfl, rfl, by decide, Nat.zero_le _, rfl⟩
  case round =>
    obtain ⟨pos, m, rfl, rfl, hm, hps, hmod⟩ := hrel
    by_cases hp : pos < s.size
    · have ha := HA.out pos hp
      have hnx : ∀ ty, (Instr.next (.pointer (some ⟨w.heap.size, 0, none⟩)) true ty).run Try.prog (w.iter s pos) = _ := fun ty => run_next_ascii w s pos ty hp ha
      have HM := Lib.hid (show (m * 256 + s[pos].toNat) % 97 = modL (s.data.toList.take (pos + 1)) by rw [modL_take s pos hp, ← hmod.out])
      obtain ⟨c, hc⟩ : ∃ c, s[pos].toNat = c := ⟨_, rfl⟩
      rw [hc] at hnx ha HM
      clear hmod hc
      go_wp2_with fail
      exact ⟨⟨pos + 1, (m * 256 + c) % 97, rfl, by rw [ck_cast], Nat.mod_lt _ (by decide), hp, HM.out⟩, by rw [World.iterPos_iter, World.iterPos_iter]; omega⟩
    · have hnx : ∀ ty, (Instr.next (.pointer (some ⟨w.heap.size, 0, none⟩)) true ty).run Try.prog (w.iter s pos) = _ := fun ty => run_next_end w s pos ty hp
      have HE := Lib.hid (show toB (ckL m) = ckS s by unfold ckS; rw [hmod.out, List.take_of_length_le (by rw [len_data]; omega)])
      have hcv := ck_conv (w.iter s pos) m
      clear hmod
      go_wp2_with fail
      go_ret
      exact ⟨by rw [← HE.out]; rfl, (below_iter w s pos).alloc (below_iter w s pos).size _⟩
theorem ck_cast2 (m c : Nat) : Value.int .i64 ((256 * (m : Int) + (c : Int)) % 97) = Value.int .i64 (((m * 256 + c) % 97 : Nat) : Int) := by
  congr 1
  omega
set_option maxHeartbeats 1000000 in
set_option maxRecDepth 100000 in
theorem rdigits_any (s : ByteArray) (w : World) (hs : (s.size : Int) ≤ 100000) : Calls Try.prog 39 #[.string s] w fun e w' => e = .returned (.string (ckS s)) ∧ Below w.heap.size w w' := by
  go_enter Try.func39, Try.ntmps39
  go_wp2_with fail
  go_loopw [3, 4] (fun r i w' => ∃ pos m : Nat, w' = w ∧ i = .int .i64 pos ∧ r = .int .i64 m ∧ m < 97 ∧ pos ≤ s.size ∧ Hid (m = modL (s.data.toList.take pos))) (fun _ i _ => s.size - (intOf i).toNat)
  case atStart => exact ⟨0, 0, by trivial, rfl, rfl, by decide, Nat.zero_le _, rfl⟩
  case round =>
    obtain ⟨pos, m, rfl, rfl, rfl, hm, hps, hmod⟩ := hrel
    by_cases hp : pos < s.size
    · have hc256 := (s[pos]).toNat_lt
      have HM := Lib.hid (show (m * 256 + s[pos].toNat) % 97 = modL (s.data.toList.take (pos + 1)) by rw [modL_take s pos hp, ← hmod.out])
      clear hmod
      go_wp2_with fail
      exact ⟨⟨pos + 1, (m * 256 + s[pos].toNat) % 97, by trivial, rfl, by rw [ck_cast2], Nat.mod_lt _ (by decide), hp, HM.out⟩, by simp [intOf]; omega⟩
    · have HE := Lib.hid (show toB (ckL m) = ckS s by unfold ckS; rw [hmod.out, List.take_of_length_le (by rw [len_data]; omega)])
      have hcv := ck_conv wr m
      clear hmod
      go_wp2_with fail
      go_ret
      exact ⟨by rw [← HE.out]; rfl, (Below.refl _ _).alloc (Nat.le_refl _) _⟩

/-! ### areDigits -/
def allDig (s : ByteArray) : Bool := s.data.toList.all digU
theorem allDig_no {s : ByteArray} (j : Nat) (h : j < s.size) (hl : digU s[j] = false) : allDig s = false := by
  unfold allDig
  rw [List.all_eq_false]
  exact ⟨_, mem_data s j h, by rw [hl]; simp⟩
theorem allDig_yes {s : ByteArray} (h : ∀ j (hj : j < s.size), digU s[j] = true) : allDig s = true := by
  unfold allDig
  rw [List.all_eq_true]
  intro x hx
  obtain ⟨j, hj, rfl⟩ := List.getElem_of_mem hx
  exact h j (by rw [← len_data]; exact hj)
set_option maxHeartbeats 1000000 in
set_option maxRecDepth 100000 in
theorem areDigits_any (s : ByteArray) (w : World) : Calls Try.prog 40 #[.string s] w fun e w' => e = .returned (.bool (allDig s)) ∧ Below w.heap.size w w' := by
  go_enter Try.func40, Try.ntmps40
  go_wp2_with fail
  go_loopw [4] (fun _ w' => ∃ pos : Nat, w' = w.iter s pos ∧ pos ≤ s.size ∧ Hid (∀ j (hj : j < s.size), j < pos → digU s[j] = true)) (fun _ w' => s.size - w'.iterPos w.heap.size)
  case atStart => exact ⟨0, rfl, Nat.zero_le _, fun j _ h => absurd h (Nat.not_lt_zero _)⟩
  case round =>
    obtain ⟨pos, rfl, hps, hall⟩ := hrel
    by_cases hp : pos < s.size
    · have hnx : ∀ ty, (Instr.next (.pointer (some ⟨w.heap.size, 0, none⟩)) true ty).run Try.prog (w.iter s pos) = _ := fun ty => run_next_any w s pos ty hp
      have hr := atRune s pos hp
      obtain ⟨R, hR⟩ : ∃ R, (Utf8.decode s pos).1 = R := ⟨_, rfl⟩
      obtain ⟨K, hK⟩ : ∃ K, (Utf8.decode s pos).2 = K := ⟨_, rfl⟩
      rw [hR, hK] at hr hnx
      clear hR hK
      obtain ⟨B, hB⟩ : ∃ B, digZ (R : Int) = B := ⟨_, rfl⟩
      have hsm := hr.same.2.1
      rw [hB] at hsm
      have cD : Hid (∀ W, Calls Try.prog 28 #[.int .i32 (R : Int)] W fun e w' => e = .returned (.bool B) ∧ W = w') := fun W => by rw [← hB]; exact isDigit_any _ W
      cases B
      · have HE := Lib.hid (allDig_no pos hp hsm.symm)
        clear hr hsm hB hall
        go_wp2_with (go_at_call 28; refine (cD.out _).mono ?_; rintro e w1 ⟨rfl, rfl⟩)
        go_ret
        exact ⟨by rw [HE.out]; rfl, below_iter _ _ _⟩
      · have hk : K = 1 := hr.one (okZ_dig hB)
        subst hk
        have HI : Hid (∀ j (hj : j < s.size), j < pos + 1 → digU s[j] = true) := fun j hj h => by
          by_cases e : j = pos
          · subst e; exact hsm.symm
          · exact hall.out j hj (by omega)
        clear hr hsm hB hall
        go_wp2_with (go_at_call 28; refine (cD.out _).mono ?_; rintro e w1 ⟨rfl, rfl⟩)
        exact ⟨⟨pos + 1, rfl, hp, HI.out⟩, by rw [World.iterPos_iter, World.iterPos_iter]; omega⟩
    · have hnx : ∀ ty, (Instr.next (.pointer (some ⟨w.heap.size, 0, none⟩)) true ty).run Try.prog (w.iter s pos) = _ := fun ty => run_next_end w s pos ty hp
      have HE := Lib.hid (allDig_yes (s := s) (fun j hj => hall.out j hj (by omega)))
      clear hall
      go_wp2_with fail
      go_ret
      exact ⟨by rw [HE.out]; rfl, below_iter _ _ _⟩
end Go.Proofs.Ythfchgifkalfdaa.Id
