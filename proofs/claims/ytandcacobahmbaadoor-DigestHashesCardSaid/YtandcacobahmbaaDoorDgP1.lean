/-
  Contracts of the program of layer 6: Crc, Hash, the bytes of a hash, Pair, the root of one string, the first part.
-/
import Derived.Test.YtandcacobahmbaaDoorDgTab
import Derived.Test.YtandcacobahmbaaDoorDgBlk
namespace Go.Proofs.YtandcacobahmbaaDoor.Dg
open Go.RowKit

set_option maxHeartbeats 1000000 in
set_option maxRecDepth 100000 in
theorem pshift_any (u : Nat) (w : World) (hT : Halves w) (hu : u < 4294967296) : Calls Tryd.prog 26 #[.int .u32 (u : Int)] w fun e w' => e = .returned (.int .u32 (crc4 u : Int)) ∧ w = w' := by
  obtain ⟨m, hm⟩ : ∃ m, u % 16 = m := ⟨_, rfl⟩
  have hm16 : m < 16 := by omega
  have hc := hT.at_ m hm16
  have ht := halfT_lt m hm16
  have hr := crc4_is u
  rw [hm] at hr
  have q1 : bits .and .u32 (u : Int) 15 = (m : Int) := by
    have := u32_and_nat u 15 hu (by decide)
    rw [nat_mask4, hm] at this
    exact this
  have hq : u / 16 < 4294967296 := by omega
  generalize halfT.getD m 0 = t at hc ht hr
  have q2 : bits .xor .u32 ((u : Int) / 16) (t : Int) = (crc4 u : Int) := by
    rw [hr]
    exact xor32 (u / 16) t hq ht
  have hm0 : (m : Int) < 16 := by omega
  clear hr ht hm hm16 hT hq
  generalize crc4 u = R at q2 ⊢
  go_enter Tryd.func26, Tryd.ntmps26
  go_wp2_with fail
  go_ret
  exact ⟨rfl, rfl⟩

set_option maxHeartbeats 1000000 in
set_option maxRecDepth 100000 in
theorem pcrc_any (s : ByteArray) (w : World) (hT : Halves w) (hs : s.size ≤ 1000000) : Calls Tryd.prog 11 #[.string s] w fun e w' => e = .returned (.int .u32 (crcN s.data.toList : Int)) ∧ w = w' := by
  have hlen : s.data.toList.length = s.size := (Lib.size_eq s).symm
  have hs' : (s.size : Int) ≤ 1000000 := by omega
  have cS := Lib.hid (fun u (hu : u < 4294967296) => pshift_any u w hT hu)
  clear hT
  go_enter Tryd.func11, Tryd.ntmps11
  go_wp2_with fail
  go_loopw [3, 4, 7] (fun r _ i wr => ∃ j u : Nat, r = .int .u32 (u : Int) ∧ i = .int .i64 (j : Int) ∧ j ≤ s.size ∧ w = wr ∧ u < 4294967296 ∧ Hid (u = crcR 4294967295 (s.data.toList.take j))) (fun _ _ i _ => s.size - (intOf i).toNat)
  case atStart => exact ⟨0, 4294967295, rfl, rfl, Nat.zero_le _, by trivial, by decide, rfl⟩
  case round =>
    obtain ⟨j, u, rfl, rfl, hj, rfl, hu32, hu⟩ := hrel
    by_cases hlt : j < s.size
    · have hlt' : (j : Int) < (s.size : Int) := by omega
      obtain ⟨d, hd⟩ : ∃ d, s[j] = d := ⟨_, rfl⟩
      have hdn : s[j].toNat = d.toNat := by rw [hd]
      have hri : s.data.toList[j]? = some d := by
        rw [← hd, List.getElem?_eq_getElem (by omega)]; rfl
      have hv : Hid (crc8 (u ^^^ d.toNat) = crcR 4294967295 (s.data.toList.take (j + 1))) := by
        show _ = _
        rw [List.take_add_one, hri]
        show _ = crcR _ (s.data.toList.take j ++ [d])
        rw [crcR_snoc, ← hu.out]; rfl
      have hd8 := d.toNat_lt
      obtain ⟨D, hD⟩ : ∃ D, d.toNat = D := ⟨_, rfl⟩
      rw [hD] at hdn hv hd8
      have q2 : IntKind.u32.wrap (D : Int) = (D : Int) := by rw [IntKind.wrap_u32]; omega
      have q3 := xor32 u D hu32 (by omega)
      have hX : u ^^^ D < 4294967296 := Nat.xor_lt_two_pow (n := 32) hu32 (by omega)
      obtain ⟨X, hXe⟩ : ∃ X, u ^^^ D = X := ⟨_, rfl⟩
      rw [hXe] at q3 hX hv
      have s1 := Lib.hid (cS.out X hX)
      have hX1 : crc4 X < 4294967296 := crc4_lt hX
      have s2 := Lib.hid (cS.out (crc4 X) hX1)
      have hX2 : crc4 (crc4 X) < 4294967296 := crc4_lt hX1
      have hv2 : Hid (crc4 (crc4 X) = crcR 4294967295 (s.data.toList.take (j + 1))) := hv
      generalize crc4 (crc4 X) = Z at s2 hX2 hv2
      generalize crc4 X = Y at s1 s2
      clear hu hd hD hd8 hri hu32 hXe hv hX hX1
      go_wp2_with fail
      refine s1.out.mono ?_; rintro e w1 ⟨rfl, rfl⟩
      go_wp2_with fail
      refine s2.out.mono ?_; rintro e w1 ⟨rfl, rfl⟩
      go_wp2_with fail
      exact ⟨⟨j + 1, Z, rfl, rfl, hlt, by trivial, hX2, hv2.out⟩, by simp [intOf]; omega⟩
    · obtain rfl : j = s.size := by omega
      have q3 := xor32 4294967295 u (by decide) hu32
      have hq : Hid (4294967295 ^^^ u = crcN s.data.toList) := by
        show _ = _
        unfold crcN
        rw [hu.out, List.take_of_length_le (by omega), Nat.xor_comm]
      rw [hq.out] at q3
      have q3' : bits .xor .u32 IntKind.u32.max (u : Int) = (crcN s.data.toList : Int) := q3
      have hlt' : ¬ (s.size : Int) < (s.size : Int) := by omega
      clear hu q3
      go_wp2_with fail
      go_ret
      exact ⟨rfl, rfl⟩

set_option maxHeartbeats 1000000 in
set_option maxRecDepth 100000 in
theorem pextend_any (h0 : Nat) (s : ByteArray) (w : World) (hh : h0 < 18446744073709551616) (hs : s.size ≤ 1000000) : Calls Tryd.prog 27 #[.int .u64 (h0 : Int), .string s] w fun e w' => e = .returned (.int .u64 (fnvR h0 s.data.toList : Int)) ∧ w = w' := by
  have hlen : s.data.toList.length = s.size := (Lib.size_eq s).symm
  have hs' : (s.size : Int) ≤ 1000000 := by omega
  have hh' : Hid (h0 < 18446744073709551616) := hh
  clear hh
  go_enter Tryd.func27, Tryd.ntmps27
  go_wp2_with fail
  go_loopw [0, 5, 8] (fun r _ i wr => ∃ j u : Nat, r = .int .u64 (u : Int) ∧ i = .int .i64 (j : Int) ∧ j ≤ s.size ∧ wr = w ∧ u < 18446744073709551616 ∧ Hid (u = fnvR h0 (s.data.toList.take j))) (fun _ _ i _ => s.size - (intOf i).toNat)
  case atStart => exact ⟨0, h0, rfl, rfl, Nat.zero_le _, by trivial, hh'.out, rfl⟩
  case round =>
    obtain ⟨j, u, rfl, rfl, hj, rfl, hu64, hu⟩ := hrel
    by_cases hlt : j < s.size
    · have hlt' : (j : Int) < (s.size : Int) := by omega
      obtain ⟨d, hd⟩ : ∃ d, s[j] = d := ⟨_, rfl⟩
      have hdn : s[j].toNat = d.toNat := by rw [hd]
      have hri : s.data.toList[j]? = some d := by
        rw [← hd, List.getElem?_eq_getElem (by omega)]; rfl
      have hv : Hid (fnvS u d = fnvR h0 (s.data.toList.take (j + 1))) := by
        show _ = _
        rw [List.take_add_one, hri, Option.toList_some, fnvR_snoc, ← hu.out]
      have hd8 := d.toNat_lt
      have hF := fnvS_eq u d
      have hFl := fnvS_lt u d
      obtain ⟨F, hFe⟩ : ∃ F, fnvS u d = F := ⟨_, rfl⟩
      rw [hFe] at hv hF hFl
      obtain ⟨D, hD⟩ : ∃ D, d.toNat = D := ⟨_, rfl⟩
      rw [hD] at hdn hd8 hF
      have q2 : IntKind.u64.wrap (D : Int) = (D : Int) := IntWalk.u64_in _ (by omega)
      have q3 := xor64 u D hu64 (by omega)
      obtain ⟨X, hXe⟩ : ∃ X, u ^^^ D = X := ⟨_, rfl⟩
      rw [hXe] at q3 hF
      have q4 : IntKind.u64.wrap ((X : Int) * 1099511628211) = (F : Int) := by
        rw [IntKind.wrap_u64, hF]; omega
      clear hu hd hD hd8 hri hu64 hXe hF hFe
      go_wp2_with fail
      exact ⟨⟨j + 1, F, rfl, rfl, hlt, by trivial, hFl, hv.out⟩, by simp [intOf]; omega⟩
    · obtain rfl : j = s.size := by omega
      have hq : Hid (u = fnvR h0 s.data.toList) := by
        show _ = _
        rw [hu.out, List.take_of_length_le (by omega)]
      have hlt' : ¬ (s.size : Int) < (s.size : Int) := by omega
      clear hu
      go_wp2_with fail
      go_ret
      exact ⟨by rw [← hq.out]; rfl, rfl⟩

set_option maxHeartbeats 1000000 in
set_option maxRecDepth 100000 in
theorem phash_any (s : ByteArray) (w : World) (hs : s.size ≤ 1000000) : Calls Tryd.prog 14 #[.string s] w fun e w' => e = .returned (.int .u64 (fnvN s.data.toList : Int)) ∧ w = w' := by
  have c1 := Lib.hid (pextend_any 14695981039346656037 s w (by decide) hs)
  have hP : Hid (fnvR 14695981039346656037 s.data.toList = fnvN s.data.toList) := rfl
  rw [hP.out] at c1
  go_enter Tryd.func14, Tryd.ntmps14
  go_wp2_with fail
  refine c1.out.mono ?_; rintro e w1 ⟨rfl, rfl⟩
  go_wp2_with fail
  go_ret
  exact ⟨rfl, rfl⟩

theorem under8 : Tryd.prog.underlying 59 = some (.array (Tryd.prog.arrayLen 59) (Tryd.prog.elem 59)) := by kernel_rfl
theorem len8 : Tryd.prog.arrayLen 59 = 8 := by kernel_rfl
theorem size8 (w : World) : (sizeOf (Tryd.prog.elem 59)).run Tryd.prog w = .ok 1 w := by kernel_rfl
abbrev zero8 : Obj := .cells #[.int .u8 0, .int .u8 0, .int .u8 0, .int .u8 0, .int .u8 0, .int .u8 0, .int .u8 0, .int .u8 0] 59
theorem zero8_at (w : World) (v : Nat) : BytesAt (w.alloc zero8) w.heap.size (upto8 v 0) := by
  have hn : (w.alloc zero8).heap[w.heap.size]? = some zero8 := heap_alloc_new w _
  refine ⟨by show _ < (w.heap.push _).size; rw [Array.size_push]; exact Nat.lt_succ_self _, fun j c hc => ?_, fun j hj => ?_⟩
  · rw [World.cell?_alloc_mark w #[.int .u8 0, .int .u8 0, .int .u8 0, .int .u8 0, .int .u8 0, .int .u8 0, .int .u8 0, .int .u8 0] 59 (0, 0) j]
    have hj : j < 8 := by have := (List.getElem?_eq_some_iff.1 hc).1; rw [upto8_len v (Nat.zero_le _)] at this; exact this
    have e : upto8 v 0 = [0, 0, 0, 0, 0, 0, 0, 0] := by unfold upto8; rfl
    rw [e] at hc
    match j, hj with
    | 0, _ => cases hc; rfl
    | 1, _ => cases hc; rfl
    | 2, _ => cases hc; rfl
    | 3, _ => cases hc; rfl
    | 4, _ => cases hc; rfl
    | 5, _ => cases hc; rfl
    | 6, _ => cases hc; rfl
    | 7, _ => cases hc; rfl
  · simp only [World.frozen?, hn]
    simp
set_option maxHeartbeats 1000000 in
set_option maxRecDepth 100000 in
theorem pbytes_any (v : Nat) (w : World) (hv : v < 18446744073709551616) : Calls Tryd.prog 28 #[.int .u64 (v : Int)] w fun e w' => e = .returned (.string (toS (Cb.beL v 8))) ∧ Below w.heap.size w w' := by
  have hv' : Hid (v < 18446744073709551616) := hv
  have hz := Lib.hid (zero8_at w v)
  have hB0 := (Below.refl w.heap.size w).alloc (Nat.le_refl _) zero8
  clear hv
  go_enter Tryd.func28, Tryd.ntmps28
  go_wp2_with fail
  go_loopw [4, 5] (fun _ i wr => ∃ k : Nat, i = .int .i64 k ∧ k ≤ 8 ∧ Below w.heap.size w wr ∧ BytesAt wr w.heap.size (upto8 v k)) (fun _ i _ => 8 - (intOf i).toNat)
  case atStart => exact ⟨0, rfl, Nat.zero_le _, hB0, hz.out⟩
  case round =>
    obtain ⟨k, rfl, hk, hbw, hb⟩ := hrel
    by_cases hlt : k < 8
    · have hlt' : (k : Int) < 8 := by omega
      have k1 := hb.at_ k 0 (upto8_at v hlt)
      have f1 := hb.fz k (by rw [upto8_len v hk]; exact hlt)
      obtain ⟨S, hS⟩ : ∃ S, 8 * (7 - k) = S := ⟨_, rfl⟩
      have q1 : IntKind.i64.wrap (7 - (k : Int)) = 7 - (k : Int) := IntWalk.i64_in _ (by omega)
      have q2 : IntKind.i64.wrap (8 * (7 - (k : Int))) = (S : Int) := by rw [IntWalk.i64_in _ (by omega)]; omega
      have q3 : (0 : Int) ≤ (S : Int) := by omega
      have q4 : (S : Int) ≤ 64 := by omega
      have hset := (hb.set (j := k) (by rw [upto8_len v hk]; exact hlt) (UInt8.ofNat (v / 256 ^ (7 - k) % 256))).keep (w' := (wr.setCell ⟨w.heap.size, k, none⟩ (.int .u8 ((UInt8.ofNat (v / 256 ^ (7 - k) % 256)).toNat : Int)))) (Nat.le_refl _) rfl
      rw [upto8_set v hlt] at hset
      have e5 : 256 ^ (7 - k) = 2 ^ S := by rw [← hS, Nat.pow_mul]
      have q5 : IntKind.u8.wrap ((v : Int) / 2 ^ S) = ((UInt8.ofNat (v / 256 ^ (7 - k) % 256)).toNat : Int) := by
        rw [e5, UInt8.toNat_ofNat_of_lt' (by show _ % 256 < 256; exact Nat.mod_lt _ (by decide)), IntKind.wrap_u8]
        simp
      have hB2 := hbw.setCell (p := ⟨w.heap.size, k, none⟩) (Nat.le_refl _) (.int .u8 ((UInt8.ofNat (v / 256 ^ (7 - k) % 256)).toNat : Int))
      generalize (UInt8.ofNat (v / 256 ^ (7 - k) % 256)).toNat = D at hset q5 hB2
      have hset := Lib.hid hset
      clear e5 hS hb
      go_wp2_with fail
      exact ⟨⟨k + 1, rfl, hlt, hB2, hset.out⟩, by simp [intOf]; omega⟩
    · obtain rfl : k = 8 := by omega
      rw [upto8_all] at hb
      have hc := hb.conv 8 8 (Cb.beL_length 8 v)
      clear hb
      go_wp2_with fail
      go_ret
      exact ⟨rfl, hbw⟩
set_option maxHeartbeats 1000000 in
set_option maxRecDepth 100000 in
theorem ppair_any (a b : Nat) (w : World) (ha : a < 18446744073709551616) (hb : b < 18446744073709551616) : Calls Tryd.prog 16 #[.int .u64 (a : Int), .int .u64 (b : Int)] w fun e w' => e = .returned (.int .u64 (pairN a b : Int)) ∧ Below w.heap.size w w' := by
  have c1 := Lib.hid (fun w => pbytes_any a w ha)
  have c2 := Lib.hid (fun w => pbytes_any b w hb)
  have la := Cb.beL_length 8 a
  have lb := Cb.beL_length 8 b
  have e1 : ∀ W : World, (Op.stringOp .add ⟨#[1]⟩ (toS (Cb.beL a 8))).run Tryd.prog W = .ok (.string (toS (1 :: Cb.beL a 8))) W := add_lists [1] (Cb.beL a 8) (by rw [la]; decide)
  have e2 : ∀ W : World, (Op.stringOp .add (toS (1 :: Cb.beL a 8)) (toS (Cb.beL b 8))).run Tryd.prog W = .ok (.string (toS (1 :: Cb.beL a 8 ++ Cb.beL b 8))) W := add_lists (1 :: Cb.beL a 8) (Cb.beL b 8) (by rw [List.length_cons, la, lb]; decide)
  have c3 := Lib.hid (fun w => phash_any (toS (1 :: Cb.beL a 8 ++ Cb.beL b 8)) w (by rw [toS_size, List.length_append, List.length_cons, la, lb]; decide))
  rw [data_toS] at c3
  have hP : Hid (fnvN (1 :: Cb.beL a 8 ++ Cb.beL b 8) = pairN a b) := rfl
  rw [hP.out] at c3
  generalize toS (1 :: Cb.beL a 8 ++ Cb.beL b 8) = Z at c3 e2
  generalize toS (1 :: Cb.beL a 8) = Y at e1 e2
  generalize toS (Cb.beL a 8) = A at c1 e1
  generalize toS (Cb.beL b 8) = B at c2 e2
  clear ha hb la lb
  go_enter Tryd.func16, Tryd.ntmps16
  go_wp2_with fail
  refine (c1.out _).mono ?_; rintro e w1 ⟨rfl, b1⟩
  go_wp2_with fail
  refine (c2.out _).mono ?_; rintro e w2 ⟨rfl, b2⟩
  go_wp2_with fail
  refine (c3.out _).mono ?_; rintro e w3 ⟨rfl, rfl⟩
  go_wp2_with fail
  go_ret
  exact ⟨rfl, stepB b1 b2⟩
set_option maxHeartbeats 1000000 in
set_option maxRecDepth 100000 in
theorem pleaf_any (s : ByteArray) (w : World) (hs : s.size ≤ 100000) : Calls Tryd.prog 30 #[.string s] w fun e w' => e = .returned (.int .u64 (leafN s.data.toList : Int)) ∧ w = w' := by
  have c1 := Lib.hid (fun w => phash_any ⟨#[0]⟩ w (by decide))
  have hlt : fnvN (ByteArray.mk #[0]).data.toList < 18446744073709551616 := fnvN_lt _
  have c2 := Lib.hid (fun w => pextend_any (fnvN (ByteArray.mk #[0]).data.toList) s w hlt (by omega))
  have hP : Hid (fnvR (fnvN (ByteArray.mk #[0]).data.toList) s.data.toList = leafN s.data.toList) := (fnvR_app 14695981039346656037 [0] s.data.toList).symm
  rw [hP.out] at c2
  generalize fnvN (ByteArray.mk #[0]).data.toList = Z at c1 c2 hlt
  clear hlt hs
  go_enter Tryd.func30, Tryd.ntmps30
  go_wp2_with fail
  refine (c1.out _).mono ?_; rintro e w1 ⟨rfl, rfl⟩
  go_wp2_with fail
  refine (c2.out _).mono ?_; rintro e w2 ⟨rfl, rfl⟩
  go_wp2_with fail
  go_ret
  exact ⟨rfl, rfl⟩
set_option maxHeartbeats 1000000 in
set_option maxRecDepth 100000 in
theorem pleft_any (n : Nat) (w : World) (h2 : 2 ≤ n) (h63 : n ≤ 9223372036854775807) : Calls Tryd.prog 31 #[.int .i64 (n : Int)] w fun e w' => e = .returned (.int .i64 (leftN n : Int)) ∧ w = w' := by
  have h63' : (n : Int) ≤ 9223372036854775807 := by omega
  have h63'' := Lib.hid h63
  clear h63
  go_enter Tryd.func31, Tryd.ntmps31
  go_wp2_with fail
  go_loopw [3] (fun x wr => ∃ k : Nat, x = .int .i64 (k : Int) ∧ 1 ≤ k ∧ k < n ∧ wr = w ∧ Hid (∃ j, k = 2 ^ j)) (fun x _ => n - (intOf x).toNat)
  case atStart => exact ⟨1, rfl, Nat.le_refl _, by omega, by trivial, ⟨0, rfl⟩⟩
  case round =>
    obtain ⟨k, rfl, hk1, hkn, rfl, hk⟩ := hrel
    have q1 : IntKind.i64.wrap ((n : Int) - (k : Int)) = (n : Int) - (k : Int) := IntWalk.i64_in _ (by omega)
    by_cases hlt : k < n - k
    · have hlt' : (k : Int) < (n : Int) - (k : Int) := by omega
      have q2 : IntKind.i64.wrap ((k : Int) * 2) = (k : Int) * 2 := IntWalk.i64_in _ (by omega)
      have hk2 : Hid (∃ j, k * 2 = 2 ^ j) := by
        obtain ⟨j, hj⟩ := hk.out
        exact ⟨j + 1, by rw [Nat.pow_succ, ← hj]⟩
      clear hk
      go_wp2_with fail
      exact ⟨⟨k * 2, rfl, by omega, by omega, by trivial, hk2.out⟩, by simp [intOf]; omega⟩
    · have hlt' : ¬ (k : Int) < (n : Int) - (k : Int) := by omega
      have hq : Hid (k = leftN n) := by
        obtain ⟨j, hj⟩ := hk.out
        show _ = _
        rw [hj] at hkn hlt ⊢
        exact (left_is hkn (by omega)).symm
      clear hk
      go_wp2_with fail
      go_ret
      exact ⟨by rw [← hq.out]; rfl, rfl⟩
end Go.Proofs.YtandcacobahmbaaDoor.Dg
