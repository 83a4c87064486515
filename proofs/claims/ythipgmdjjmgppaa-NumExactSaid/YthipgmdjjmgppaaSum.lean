/-
  Contracts of Sum, of num and of the reference.
-/
import Derived.Test.YthipgmdjjmgppaaMulr
namespace Go.Proofs.Ythipgmdjjmgppaa
open Go.RowKit

def sumTo (zs : List Int) (k : Nat) : Int := (zs.take k).sum
theorem sumTo_succ (zs : List Int) (k : Nat) (hk : k < zs.length) : sumTo zs (k + 1) = sumTo zs k + zs.getD k 0 := by
  unfold sumTo
  rw [List.take_succ_eq_append_getElem hk, List.sum_append]
  simp [List.getD, List.getElem?_eq_getElem hk]
def sumQ (s : Int) : Int := if -9223372036854775808 ≤ s ∧ s ≤ 9223372036854775807 then s else 0
def sumE (s : Int) : Int := if -9223372036854775808 ≤ s ∧ s ≤ 9223372036854775807 then 0 else 21
def SumEnd (s : Int) (w : World) (e : Ending) (w' : World) : Prop := e = .returned (.tuple #[.int .i64 (sumQ s), .int .i64 (sumE s)]) ∧ w = w'

/-- The sum so far is 'n', and 2^64 for each wrap. -/
def SumInv (zs : List Int) (n c i : Value) : Prop :=
  ∃ (k : Nat) (m x : Int), k ≤ zs.length ∧ i = .int .i64 k ∧ n = .int .i64 m ∧ c = .int .i64 x ∧ -9223372036854775808 ≤ m ∧ m ≤ 9223372036854775807 ∧ -(k : Int) ≤ x ∧ x ≤ k ∧ Hid (sumTo zs k = m + 18446744073709551616 * x)

theorem sum_zero (zs : List Int) : SumInv zs (.int .i64 0) (.int .i64 0) (.int .i64 0) :=
  ⟨0, 0, 0, by omega, rfl, rfl, rfl, by omega, by omega, by omega, by omega, by show _ = _; simp [sumTo]⟩

theorem sums_end (zs : List Int) (m x : Int) (h : Hid (sumTo zs zs.length = m + 18446744073709551616 * x)) (h1 : -9223372036854775808 ≤ m) (h2 : m ≤ 9223372036854775807) :
    (x = 0 → m = sumQ zs.sum ∧ 0 = sumE zs.sum) ∧ (x ≠ 0 → 0 = sumQ zs.sum ∧ 21 = sumE zs.sum) := by
  have h := h.out
  unfold sumTo at h
  rw [List.take_length] at h
  unfold sumQ sumE
  rw [h]
  constructor
  · rintro rfl
    rw [if_pos (by omega), if_pos (by omega)]
    exact ⟨by omega, rfl⟩
  · intro hx
    rw [if_neg (by omega), if_neg (by omega)]
    exact ⟨rfl, rfl⟩

set_option maxHeartbeats 400000 in
theorem sum_any (b off cap : Nat) (zs : List Int) (w : World) (hbig : zs.length ≤ 9223372036854775806) (hc : ∀ j, j < zs.length → w.cell? ⟨b, off + j, none⟩ = some (.int .i64 (zs.getD j 0)))
    (hw : ∀ j, -9223372036854775808 ≤ zs.getD j 0 ∧ zs.getD j 0 ≤ 9223372036854775807) :
    Calls Try.prog 24 #[.slice (some ⟨b, off, none⟩) zs.length cap] w (SumEnd zs.sum w) := by
  have HC := Lib.hid hc
  have HW := Lib.hid hw
  obtain ⟨len, hlen⟩ : ∃ len, zs.length = len := ⟨_, rfl⟩
  have HL := Lib.hid hlen
  rw [hlen] at hbig ⊢
  clear hc hw hlen
  go_enter Try.func24, Try.ntmps24
  go_wp2
  go_loop [2, 4, 10] (fun n c i => SumInv zs n c i) (fun _ _ i => len - (intOf i).toNat)
  case atStart => exact sum_zero zs
  case round =>
    obtain ⟨k, m, x, hk, rfl, rfl, rfl, h1, h2, h3, h4, hs⟩ := hrel
    rw [HL.out] at hk
    by_cases hlt : k < len
    · obtain ⟨z, hz⟩ : ∃ z, zs.getD k 0 = z := ⟨_, rfl⟩
      have hcell : w.cell? ⟨b, off + k, none⟩ = some (.int .i64 z) := by rw [← hz]; exact HC.out k (by rw [HL.out]; exact hlt)
      have hz1 : -9223372036854775808 ≤ z := by rw [← hz]; exact (HW.out k).1
      have hz2 : z ≤ 9223372036854775807 := by rw [← hz]; exact (HW.out k).2
      have HS := Lib.hid (sumTo_succ zs k (by rw [HL.out]; exact hlt))
      have HZ := Lib.hid hz
      clear hz
      go_wp2
      all_goals
        refine ⟨⟨k + 1, _, _, by rw [HL.out]; omega, by go_num, rfl, rfl, ?_, ?_, ?_, ?_, ?_⟩, by simp [intOf]; omega⟩
        · unfold wrap64; omega
        · unfold wrap64; omega
        · omega
        · omega
        · show _ = _
          rw [HS.out, HZ.out, hs.out]
          unfold wrap64 at *
          omega
    · obtain rfl : k = len := by omega
      have E := Lib.hid (sums_end zs m x (by rw [HL.out]; exact hs) h1 h2)
      by_cases hx : x = 0
      · have E0 := Lib.hid (E.out.1 hx)
        clear E
        subst hx
        go_wp2
        go_ret2
        exact ⟨ret2 E0.out.1 E0.out.2, rfl⟩
      · have hx' : (x != 0) = true := by simpa using hx
        have HX := Lib.hid hx
        clear hx
        go_wp2
        go_ret2
        exact ⟨ret2 (E.out.2 HX.out).1 (E.out.2 HX.out).2, rfl⟩

set_option maxHeartbeats 400000 in
theorem sum_empty (a : Option Addr) (cap : Nat) (w : World) : Calls Try.prog 24 #[.slice a 0 cap] w (SumEnd 0 w) := by
  go_enter Try.func24, Try.ntmps24
  go_wp2
  go_loop [2, 4, 10] (fun n c i => n = .int .i64 0 ∧ c = .int .i64 0 ∧ i = .int .i64 0) (fun _ _ _ => 0)
  case atStart => exact ⟨rfl, rfl, rfl⟩
  case round =>
    obtain ⟨rfl, rfl, rfl⟩ := hrel
    go_wp2
    go_ret2
    exact ⟨ret2 (by decide) (by decide), rfl⟩

/-! ### The reference: upper and lower halves -/
theorem i64_and_low32 (n : Int) : bits .and .i64 n 4294967295 = n % 4294967296 := by
  have h32 : (BitVec.ofInt 64 4294967295).toNat = 2 ^ 32 - 1 := by decide
  have key : (BitVec.ofInt 64 n &&& BitVec.ofInt 64 4294967295).toNat = (n % ((2 ^ 64 : Nat) : Int)).toNat % 2 ^ 32 := by
    rw [BitVec.toNat_and, BitVec.toNat_ofInt, h32, Nat.and_two_pow_sub_one_eq_mod]
  show IntKind.i64.wrap ((BitVec.ofInt 64 n &&& BitVec.ofInt 64 4294967295).toNat : Nat) = n % 4294967296
  rw [key, IntKind.wrap_i64]
  omega

def RSumInv (zs : List Int) (h l i : Value) : Prop :=
  ∃ (k : Nat) (p q : Int), k ≤ zs.length ∧ i = .int .i64 k ∧ h = .int .i64 p ∧ l = .int .i64 q ∧ -(2147483648 * (k : Int)) ≤ p ∧ p ≤ 2147483648 * (k : Int) ∧ 0 ≤ q ∧ q ≤ 4294967296 * (k : Int) ∧ Hid (sumTo zs k = p * 4294967296 + q)

theorem rsums_end (zs : List Int) (p q : Int) (h : Hid (sumTo zs zs.length = p * 4294967296 + q)) (_h0 : 0 ≤ q) :
    (p + q / 4294967296 < -2147483648 ∨ 2147483648 ≤ p + q / 4294967296 → 0 = sumQ zs.sum ∧ 21 = sumE zs.sum) ∧
    (-2147483648 ≤ p + q / 4294967296 ∧ p + q / 4294967296 < 2147483648 → (p + q / 4294967296) * 4294967296 + q % 4294967296 = sumQ zs.sum ∧ 0 = sumE zs.sum) := by
  have h := h.out
  unfold sumTo at h
  rw [List.take_length] at h
  unfold sumQ sumE
  rw [h]
  constructor
  · intro hx
    rw [if_neg (by omega), if_neg (by omega)]
    exact ⟨rfl, rfl⟩
  · intro hx
    rw [if_pos (by omega), if_pos (by omega)]
    exact ⟨by omega, rfl⟩

set_option maxHeartbeats 400000 in
theorem refSum_any (b off cap : Nat) (zs : List Int) (w : World) (hbig : zs.length ≤ 10000) (hc : ∀ j, j < zs.length → w.cell? ⟨b, off + j, none⟩ = some (.int .i64 (zs.getD j 0)))
    (hw : ∀ j, -9223372036854775808 ≤ zs.getD j 0 ∧ zs.getD j 0 ≤ 9223372036854775807) :
    Calls Try.prog 25 #[.slice (some ⟨b, off, none⟩) zs.length cap] w (SumEnd zs.sum w) := by
  have HC := Lib.hid hc
  have HW := Lib.hid hw
  obtain ⟨len, hlen⟩ : ∃ len, zs.length = len := ⟨_, rfl⟩
  have HL := Lib.hid hlen
  rw [hlen] at hbig ⊢
  clear hc hw hlen
  go_enter Try.func25, Try.ntmps25
  go_wp2
  go_loop [4, 5, 6] (fun h l i => RSumInv zs h l i) (fun _ _ i => len - (intOf i).toNat)
  case atStart => exact ⟨0, 0, 0, by omega, rfl, rfl, rfl, by omega, by omega, by omega, by omega, by show _ = _; simp [sumTo]⟩
  case round =>
    obtain ⟨k, p, q, hk, rfl, rfl, rfl, h1, h2, h3, h4, hs⟩ := hrel
    rw [HL.out] at hk
    by_cases hlt : k < len
    · obtain ⟨z, hz⟩ : ∃ z, zs.getD k 0 = z := ⟨_, rfl⟩
      have hcell : w.cell? ⟨b, off + k, none⟩ = some (.int .i64 z) := by rw [← hz]; exact HC.out k (by rw [HL.out]; exact hlt)
      have hz1 : -9223372036854775808 ≤ z := by rw [← hz]; exact (HW.out k).1
      have hz2 : z ≤ 9223372036854775807 := by rw [← hz]; exact (HW.out k).2
      have HS := Lib.hid (sumTo_succ zs k (by rw [HL.out]; exact hlt))
      have HZ := Lib.hid hz
      have hb := i64_and_low32 z
      clear hz
      go_wp2
      refine ⟨⟨k + 1, _, _, by rw [HL.out]; omega, by go_num, rfl, rfl, by omega, by omega, by omega, by omega, ?_⟩, by simp [intOf]; omega⟩
      show _ = _
      rw [HS.out, HZ.out, hs.out]
      omega
    · obtain rfl : k = len := by omega
      have E := Lib.hid (rsums_end zs p q (by rw [HL.out]; exact hs) h3)
      go_wp2
      · rename_i ht _
        go_ret2
        exact ⟨ret2 (E.out.1 ht).1 (E.out.1 ht).2, rfl⟩
      · rename_i ht _
        go_ret2
        exact ⟨ret2 (by rw [i64_and_low32, ← (E.out.2 ht).1]; exact IntWalk.wrap64_in _ (by omega)) (E.out.2 ht).2, rfl⟩
      · rename_i ht
        go_ret2
        exact ⟨ret2 (E.out.1 (.inl ht)).1 (E.out.1 (.inl ht)).2, rfl⟩

set_option maxHeartbeats 400000 in
theorem refSum_empty (a : Option Addr) (cap : Nat) (w : World) : Calls Try.prog 25 #[.slice a 0 cap] w (SumEnd 0 w) := by
  go_enter Try.func25, Try.ntmps25
  go_wp2
  go_loop [4, 5, 6] (fun h l i => h = .int .i64 0 ∧ l = .int .i64 0 ∧ i = .int .i64 0) (fun _ _ _ => 0)
  case atStart => exact ⟨rfl, rfl, rfl⟩
  case round =>
    obtain ⟨rfl, rfl, rfl⟩ := hrel
    go_wp2
    go_ret2
    exact ⟨ret2 (by rw [i64_and_low32]; unfold wrap64; decide) (by decide), rfl⟩
end Go.Proofs.Ythipgmdjjmgppaa
