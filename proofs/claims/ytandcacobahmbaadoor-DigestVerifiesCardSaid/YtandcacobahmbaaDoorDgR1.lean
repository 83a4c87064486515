/-
  Contracts of the reference of layer 6: Crc, Hash, bytes, Pair, leaf, left.
-/
import Derived.Test.YtandcacobahmbaaDoorDgBase
namespace Go.Proofs.YtandcacobahmbaaDoor.Dg
open Go.RowKit

/-- What the bit loop of Crc does. -/
def rcrcI : Nat → Nat → Nat
  | 0, r => r
  | n + 1, r => rcrcI n (crcS r)
theorem rcrcI_snoc : ∀ (n r : Nat), rcrcI (n + 1) r = crcS (rcrcI n r)
  | 0, _ => rfl
  | n + 1, r => by
    show rcrcI (n + 1) (crcS r) = crcS (rcrcI n (crcS r))
    exact rcrcI_snoc n (crcS r)
theorem rcrcI_8 (r : Nat) : rcrcI 8 r = crc8 r := rfl
theorem rcrcI_lt : ∀ (n : Nat) {r : Nat}, r < 4294967296 → rcrcI n r < 4294967296
  | 0, _, h => h
  | n + 1, _, h => rcrcI_lt n (crcS_lt h)
theorem rcrcS_odd {r : Nat} (h : r % 2 = 1) : crcS r = (r / 2) ^^^ 2197175160 := if_pos h
theorem rcrcS_even {r : Nat} (h : ¬ r % 2 = 1) : crcS r = r / 2 := if_neg h
set_option maxHeartbeats 1000000 in
set_option maxRecDepth 100000 in
theorem rcrc_any (s : ByteArray) (w : World) (hs : s.size ≤ 1000000) : Calls Tryd.prog 12 #[.string s] w fun e w' => e = .returned (.int .u32 (crcN s.data.toList : Int)) ∧ w = w' := by
  have hlen : s.data.toList.length = s.size := (Lib.size_eq s).symm
  have hs' : (s.size : Int) ≤ 1000000 := by omega
  go_enter Tryd.func12, Tryd.ntmps12
  go_wp2_with fail
  go_loopw [3, 4, 5] (fun r i _ wr => ∃ j u : Nat, r = .int .u32 (u : Int) ∧ i = .int .i64 (j : Int) ∧ j ≤ s.size ∧ w = wr ∧ u < 4294967296 ∧ Hid (u = crcR 4294967295 (s.data.toList.take j))) (fun _ i _ _ => s.size - (intOf i).toNat)
  case atStart => exact ⟨0, 4294967295, rfl, rfl, Nat.zero_le _, by trivial, by decide, rfl⟩
  case round =>
    obtain ⟨j, u, rfl, rfl, hj, rfl, hu32, hu⟩ := hrel
    by_cases hlt : j < s.size
    · have hlt' : (j : Int) < (s.size : Int) := by omega
      obtain ⟨d, hd⟩ : ∃ d, s[j] = d := ⟨_, rfl⟩
      have hdn : s[j].toNat = d.toNat := by rw [hd]
      have hri : s.data.toList[j]? = some d := by
        rw [← hd, List.getElem?_eq_getElem (by omega)]; rfl
      have hv : Hid (crc8 (u ^^^ d.toNat) = crcR 4294967295 (s.data.toList.take (j + 1))) := by
        show _ = _
        rw [List.take_add_one, hri]
        show _ = crcR _ (s.data.toList.take j ++ [d])
        rw [crcR_snoc, ← hu.out]; rfl
      have hd8 := d.toNat_lt
      obtain ⟨D, hD⟩ : ∃ D, d.toNat = D := ⟨_, rfl⟩
      rw [hD] at hdn hv hd8
      have q2 : IntKind.u32.wrap (D : Int) = (D : Int) := by rw [IntKind.wrap_u32]; omega
      have q3 := xor32 u D hu32 (by omega)
      have hX : u ^^^ D < 4294967296 := Nat.xor_lt_two_pow (n := 32) hu32 (by omega)
      obtain ⟨X, hXe⟩ : ∃ X, u ^^^ D = X := ⟨_, rfl⟩
      rw [hXe] at q3 hX hv
      clear hu hd hD hd8 hri hu32 hXe
      go_wp2_with fail
      go_loopw [3, 5] (fun r i wr => ∃ k y : Nat, r = .int .u32 (y : Int) ∧ i = .int .i64 (k : Int) ∧ k ≤ 8 ∧ w = wr ∧ y < 4294967296 ∧ Hid (y = rcrcI k X)) (fun _ i _ => 8 - (intOf i).toNat)
      case atStart => exact ⟨0, X, rfl, rfl, Nat.zero_le _, by trivial, hX, rfl⟩
      case round =>
        obtain ⟨k, y, rfl, rfl, hk, rfl, hy32, hy⟩ := hrel
        by_cases hk8 : k < 8
        · have hk8' : (k : Int) < 8 := by omega
          by_cases hodd : y % 2 = 1
          · have hb : ((y : Int) % 2 == 1) = true := beq_iff_eq.2 (by omega)
            have hn : Hid ((y / 2) ^^^ 2197175160 = rcrcI (k + 1) X) := by
              show _ = _
              rw [rcrcI_snoc, ← hy.out, rcrcS_odd hodd]
            have hb2 : (y / 2) ^^^ 2197175160 < 4294967296 := Nat.xor_lt_two_pow (n := 32) (by omega) (by decide)
            have q4 := xor32 (y / 2) 2197175160 (by omega) (by decide)
            obtain ⟨Y, hY⟩ : ∃ Y, (y / 2) ^^^ 2197175160 = Y := ⟨_, rfl⟩
            rw [hY] at q4 hn hb2
            have q4' : bits .xor .u32 ((y : Int) / 2) 2197175160 = (Y : Int) := q4
            clear hy hY q4 hodd
            go_wp2_with fail
            exact ⟨⟨k + 1, Y, rfl, rfl, hk8, by trivial, hb2, hn.out⟩, by simp [intOf]; omega⟩
          · have hb : ((y : Int) % 2 == 1) = false := beq_false_of_ne (by omega)
            have hn : Hid (y / 2 = rcrcI (k + 1) X) := by
              show _ = _
              rw [rcrcI_snoc, ← hy.out, rcrcS_even hodd]
            clear hy hodd
            go_wp2_with fail
            exact ⟨⟨k + 1, y / 2, rfl, rfl, hk8, by trivial, by omega, hn.out⟩, by simp [intOf]; omega⟩
        · obtain rfl : k = 8 := by omega
          have hq : Hid (y = crcR 4294967295 (s.data.toList.take (j + 1))) := by
            show _ = _
            rw [← hv.out, ← rcrcI_8, hy.out]
          clear hy
          go_wp2_with fail
          exact ⟨⟨j + 1, y, rfl, rfl, hlt, by trivial, hy32, hq.out⟩, by simp [intOf]; omega⟩
    · obtain rfl : j = s.size := by omega
      have q3 := xor32 u 4294967295 hu32 (by decide)
      have hq : Hid (u ^^^ 4294967295 = crcN s.data.toList) := by
        show _ = _
        unfold crcN
        rw [hu.out, List.take_of_length_le (by omega)]
      rw [hq.out] at q3
      have q3' : bits .xor .u32 (u : Int) 4294967295 = (crcN s.data.toList : Int) := q3
      have hlt' : ¬ (s.size : Int) < (s.size : Int) := by omega
      clear hu q3
      go_wp2_with fail
      go_ret
      exact ⟨rfl, rfl⟩

set_option maxHeartbeats 1000000 in
set_option maxRecDepth 100000 in
theorem rhash_any (s : ByteArray) (w : World) (hs : s.size ≤ 1000000) : Calls Tryd.prog 15 #[.string s] w fun e w' => e = .returned (.int .u64 (fnvN s.data.toList : Int)) ∧ w = w' := by
  have hlen : s.data.toList.length = s.size := (Lib.size_eq s).symm
  have hs' : (s.size : Int) ≤ 1000000 := by omega
  go_enter Tryd.func15, Tryd.ntmps15
  go_wp2_with fail
  go_loopw [3, 4] (fun r i wr => ∃ j u : Nat, r = .int .u64 (u : Int) ∧ i = .int .i64 (j : Int) ∧ j ≤ s.size ∧ wr = w ∧ u < 18446744073709551616 ∧ Hid (u = fnvR 14695981039346656037 (s.data.toList.take j))) (fun _ i _ => s.size - (intOf i).toNat)
  case atStart => exact ⟨0, 14695981039346656037, rfl, rfl, Nat.zero_le _, by trivial, by decide, rfl⟩
  case round =>
    obtain ⟨j, u, rfl, rfl, hj, rfl, hu64, hu⟩ := hrel
    by_cases hlt : j < s.size
    · have hlt' : (j : Int) < (s.size : Int) := by omega
      obtain ⟨d, hd⟩ : ∃ d, s[j] = d := ⟨_, rfl⟩
      have hdn : s[j].toNat = d.toNat := by rw [hd]
      have hri : s.data.toList[j]? = some d := by
        rw [← hd, List.getElem?_eq_getElem (by omega)]; rfl
      have hv : Hid (fnvS u d = fnvR 14695981039346656037 (s.data.toList.take (j + 1))) := by
        show _ = _
        rw [List.take_add_one, hri, Option.toList_some, fnvR_snoc, ← hu.out]
      have hd8 := d.toNat_lt
      have hF := fnvS_eq u d
      have hFl := fnvS_lt u d
      obtain ⟨F, hFe⟩ : ∃ F, fnvS u d = F := ⟨_, rfl⟩
      rw [hFe] at hv hF hFl
      obtain ⟨D, hD⟩ : ∃ D, d.toNat = D := ⟨_, rfl⟩
      rw [hD] at hdn hd8 hF
      have q2 : IntKind.u64.wrap (D : Int) = (D : Int) := IntWalk.u64_in _ (by omega)
      have q3 := xor64 u D hu64 (by omega)
      obtain ⟨X, hXe⟩ : ∃ X, u ^^^ D = X := ⟨_, rfl⟩
      rw [hXe] at q3 hF
      have q4 : IntKind.u64.wrap ((X : Int) * 1099511628211) = (F : Int) := by
        rw [IntKind.wrap_u64, hF]; omega
      clear hu hd hD hd8 hri hu64 hXe hF hFe
      go_wp2_with fail
      exact ⟨⟨j + 1, F, rfl, rfl, hlt, by trivial, hFl, hv.out⟩, by simp [intOf]; omega⟩
    · obtain rfl : j = s.size := by omega
      have hq : Hid (u = fnvN s.data.toList) := by
        show _ = _
        unfold fnvN
        rw [hu.out, List.take_of_length_le (by omega)]
      have hlt' : ¬ (s.size : Int) < (s.size : Int) := by omega
      clear hu
      go_wp2_with fail
      go_ret
      exact ⟨by rw [← hq.out]; rfl, rfl⟩

set_option maxHeartbeats 1000000 in
set_option maxRecDepth 100000 in
theorem rbytes_any (v : Nat) (w : World) (hv : v < 18446744073709551616) : Calls Tryd.prog 29 #[.int .u64 (v : Int)] w fun e w' => e = .returned (.string (toS (Cb.beL v 8))) ∧ Below w.heap.size w w' := by
  have hv' : Hid (v < 18446744073709551616) := hv
  clear hv
  go_enter Tryd.func29, Tryd.ntmps29
  go_wp2_with fail
  go_loopw [0, 3, 4] (fun x s i wr => ∃ (k u : Nat) (l : List UInt8), i = .int .i64 k ∧ k ≤ 8 ∧ x = .int .u64 u ∧ s = .string (toS l) ∧ Below w.heap.size w wr ∧ Hid (u < 18446744073709551616) ∧ l.length = k ∧ Hid (Cb.beL v 8 = Cb.beL u (8 - k) ++ l)) (fun _ _ i _ => 8 - (intOf i).toNat)
  case atStart => exact ⟨0, v, [], rfl, Nat.zero_le _, rfl, rfl, Below.refl _ _, hv'.out, rfl, by show _ = _; simp⟩
  case round =>
    obtain ⟨k, u, l, rfl, hk, rfl, rfl, hbw, hu, hl, heq⟩ := hrel
    by_cases hlt : k < 8
    · have hlt' : (k : Int) < 8 := by omega
      have hcv := conv_byte wr u
      have e1 := add_lists [UInt8.ofNat (u % 256)] l (by simp; omega)
      have hu2 := Lib.hid (show u / 256 < 18446744073709551616 by have := hu.out; omega)
      have hq := Lib.hid (show Cb.beL v 8 = Cb.beL (u / 256) (8 - (k + 1)) ++ ([UInt8.ofNat (u % 256)] ++ l) by
        rw [heq.out, show 8 - k = (8 - (k + 1)) + 1 by omega, Cb.beL, List.append_assoc])
      have hwq : IntKind.u64.wrap ((u : Int) / 256) = ((u / 256 : Nat) : Int) := by
        have := hu.out
        rw [IntWalk.u64_in _ (by omega)]; rfl
      clear heq hu
      go_wp2_with fail
      exact ⟨⟨k + 1, u / 256, _, rfl, hlt, rfl, rfl, hbw.alloc hbw.size _, hu2.out, by simp; omega, hq.out⟩, by simp [intOf]; omega⟩
    · obtain rfl : k = 8 := by omega
      have hq := Lib.hid (show l = Cb.beL v 8 by rw [heq.out]; rfl)
      clear heq hu
      go_wp2_with fail
      go_ret
      exact ⟨by rw [← hq.out]; rfl, hbw⟩

set_option maxHeartbeats 1000000 in
set_option maxRecDepth 100000 in
theorem rpair_any (a b : Nat) (w : World) (ha : a < 18446744073709551616) (hb : b < 18446744073709551616) : Calls Tryd.prog 17 #[.int .u64 (a : Int), .int .u64 (b : Int)] w fun e w' => e = .returned (.int .u64 (pairN a b : Int)) ∧ Below w.heap.size w w' := by
  have c1 := Lib.hid (fun w => rbytes_any a w ha)
  have c2 := Lib.hid (fun w => rbytes_any b w hb)
  have la := Cb.beL_length 8 a
  have lb := Cb.beL_length 8 b
  have e1 : ∀ W : World, (Op.stringOp .add ⟨#[1]⟩ (toS (Cb.beL a 8))).run Tryd.prog W = .ok (.string (toS (1 :: Cb.beL a 8))) W := add_lists [1] (Cb.beL a 8) (by rw [la]; decide)
  have e2 : ∀ W : World, (Op.stringOp .add (toS (1 :: Cb.beL a 8)) (toS (Cb.beL b 8))).run Tryd.prog W = .ok (.string (toS (1 :: Cb.beL a 8 ++ Cb.beL b 8))) W := add_lists (1 :: Cb.beL a 8) (Cb.beL b 8) (by rw [List.length_cons, la, lb]; decide)
  have c3 := Lib.hid (fun w => rhash_any (toS (1 :: Cb.beL a 8 ++ Cb.beL b 8)) w (by rw [toS_size, List.length_append, List.length_cons, la, lb]; decide))
  rw [data_toS] at c3
  have hP : Hid (fnvN (1 :: Cb.beL a 8 ++ Cb.beL b 8) = pairN a b) := rfl
  rw [hP.out] at c3
  generalize toS (1 :: Cb.beL a 8 ++ Cb.beL b 8) = Z at c3 e2
  generalize toS (1 :: Cb.beL a 8) = Y at e1 e2
  generalize toS (Cb.beL a 8) = A at c1 e1
  generalize toS (Cb.beL b 8) = B at c2 e2
  clear ha hb la lb
  go_enter Tryd.func17, Tryd.ntmps17
  go_wp2_with fail
  refine (c1.out _).mono ?_; rintro e w1 ⟨rfl, b1⟩
  go_wp2_with fail
  refine (c2.out _).mono ?_; rintro e w2 ⟨rfl, b2⟩
  go_wp2_with fail
  refine (c3.out _).mono ?_; rintro e w3 ⟨rfl, rfl⟩
  go_wp2_with fail
  go_ret
  exact ⟨rfl, stepB b1 b2⟩
set_option maxHeartbeats 1000000 in
set_option maxRecDepth 100000 in
theorem rleaf_any (s : ByteArray) (w : World) (hs : s.size ≤ 100000) : Calls Tryd.prog 32 #[.string s] w fun e w' => e = .returned (.int .u64 (leafN s.data.toList : Int)) ∧ w = w' := by
  have hlen : s.data.toList.length = s.size := (Lib.size_eq s).symm
  have e1 : ∀ W : World, (Op.stringOp .add ⟨#[0]⟩ s).run Tryd.prog W = .ok (.string (toS (0 :: s.data.toList))) W := fun W => by
    have := add_lists [0] s.data.toList (by rw [hlen]; simp; omega) W
    rw [toS_data] at this
    exact this
  have c3 := Lib.hid (fun w => rhash_any (toS (0 :: s.data.toList)) w (by rw [toS_size, List.length_cons, hlen]; omega))
  rw [data_toS] at c3
  have hP : Hid (fnvN (0 :: s.data.toList) = leafN s.data.toList) := rfl
  rw [hP.out] at c3
  generalize toS (0 :: s.data.toList) = Z at c3 e1
  clear hlen
  go_enter Tryd.func32, Tryd.ntmps32
  go_wp2_with fail
  refine (c3.out _).mono ?_; rintro e w3 ⟨rfl, rfl⟩
  go_wp2_with fail
  go_ret
  exact ⟨rfl, rfl⟩
set_option maxHeartbeats 1000000 in
set_option maxRecDepth 100000 in
theorem rleft_any (n : Nat) (w : World) (h2 : 2 ≤ n) (h63 : n ≤ 9223372036854775807) : Calls Tryd.prog 33 #[.int .i64 (n : Int)] w fun e w' => e = .returned (.int .i64 (leftN n : Int)) ∧ w = w' := by
  have h63' : (n : Int) ≤ 9223372036854775807 := by omega
  have h63'' := Lib.hid h63
  clear h63
  go_enter Tryd.func33, Tryd.ntmps33
  go_wp2_with fail
  go_loopw [3] (fun x wr => ∃ k : Nat, x = .int .i64 (k : Int) ∧ 1 ≤ k ∧ k < n ∧ wr = w ∧ Hid (∃ j, k = 2 ^ j)) (fun x _ => n - (intOf x).toNat)
  case atStart => exact ⟨1, rfl, Nat.le_refl _, by omega, by trivial, ⟨0, rfl⟩⟩
  case round =>
    obtain ⟨k, rfl, hk1, hkn, rfl, hk⟩ := hrel
    have q1 : IntKind.i64.wrap ((n : Int) - (k : Int)) = (n : Int) - (k : Int) := IntWalk.i64_in _ (by omega)
    by_cases hlt : k < n - k
    · have hlt' : (k : Int) < (n : Int) - (k : Int) := by omega
      have q2 : IntKind.i64.wrap (2 * (k : Int)) = 2 * (k : Int) := IntWalk.i64_in _ (by omega)
      have hk2 : Hid (∃ j, 2 * k = 2 ^ j) := by
        obtain ⟨j, hj⟩ := hk.out
        exact ⟨j + 1, by rw [Nat.pow_succ, ← hj]; omega⟩
      clear hk
      go_wp2_with fail
      exact ⟨⟨2 * k, rfl, by omega, by omega, by trivial, hk2.out⟩, by simp [intOf]; omega⟩
    · have hlt' : ¬ (k : Int) < (n : Int) - (k : Int) := by omega
      have hq : Hid (k = leftN n) := by
        obtain ⟨j, hj⟩ := hk.out
        show _ = _
        rw [hj] at hkn hlt ⊢
        exact (left_is hkn (by omega)).symm
      clear hk
      go_wp2_with fail
      go_ret
      exact ⟨by rw [← hq.out]; rfl, rfl⟩
end Go.Proofs.YtandcacobahmbaaDoor.Dg
