/-
  Contract of Root.
-/
import Derived.Test.YthipgmdjjmgppaaMulr
namespace Go.Proofs.Ythipgmdjjmgppaa
open Go.RowKit

def RootInv (n : Nat) (root i : Value) : Prop :=
  ∃ k r : Nat, k ≤ 32 ∧ i = .int .i64 k ∧ root = .int .u64 (r : Int) ∧ r < 4294967296 ∧ Hid (r % 2 ^ (32 - k) = 0 ∧ r + 2 ^ (32 - k) ≤ 4294967296 ∧ r * r ≤ n ∧ n < (r + 2 ^ (32 - k)) * (r + 2 ^ (32 - k)))
def RootPost (n : Nat) (w : World) (e : Ending) (w' : World) : Prop := ∃ r : Nat, e = .returned (.int .i64 (r : Int)) ∧ r < 4294967296 ∧ r * r ≤ n ∧ n < (r + 1) * (r + 1) ∧ w = w'

theorem root_neg (n : Int) (w : World) (_h1 : -9223372036854775808 ≤ n) (h2 : n < 0) :
    Calls Try.prog 23 #[.int .i64 n] w fun e w' => e = .returned (.int .i64 0) ∧ w = w' := by
  go_enter Try.func23, Try.ntmps23
  go_wp2
  go_ret
  exact ⟨rfl, rfl⟩

theorem pow_bit (k : Nat) (hk : k < 32) : 2 ^ (32 - k) = 2 * 2 ^ (31 - k) ∧ 1 ≤ 2 ^ (31 - k) ∧ 2 ^ (31 - k) ≤ 2147483648 := by
  refine ⟨?_, Nat.two_pow_pos _, ?_⟩
  · rw [← Nat.pow_succ']; congr 1; omega
  · exact Nat.le_trans (Nat.pow_le_pow_right (by omega) (show 31 - k ≤ 31 by omega)) (by decide)
theorem root_or (r k : Nat) (hk : k < 32) (hr : r < 4294967296) (hm : r % 2 ^ (32 - k) = 0) :
    bits BinOp.or IntKind.u64 (r : Int) (IntKind.u64.wrap (2 ^ (31 - k))) = ((r + 2 ^ (31 - k) : Nat) : Int) := by
  obtain ⟨h1, h2, h3⟩ := pow_bit k hk
  have e : ((2 : Int) ^ (31 - k)) = ((2 ^ (31 - k) : Nat) : Int) := by rw [Int.natCast_pow]; rfl
  have e2 : ((2 : Int) ^ (32 - k)) = ((2 ^ (32 - k) : Nat) : Int) := by rw [Int.natCast_pow]; rfl
  rw [e, IntWalk.u64_in _ (by omega)]
  rw [bits_join .u64 64 (by decide) wraps_u64 (32 - k) (r : Int) _ (by omega) (by rw [e2, ← Int.natCast_emod, hm]; rfl) (by omega) (by omega) (by rw [e2]; omega) (by omega)]
  omega
theorem sq_wrap (x : Nat) (h : x ≤ 4294967295) : IntKind.u64.wrap ((x : Int) * (x : Int)) = ((x * x : Nat) : Int) := by
  have := Nat.mul_le_mul h h
  rw [← Int.natCast_mul]
  exact IntWalk.u64_in _ (by omega)
theorem root_yes (n k r : Nat) (hk : k < 32) (h : r % 2 ^ (32 - k) = 0 ∧ r + 2 ^ (32 - k) ≤ 4294967296 ∧ r * r ≤ n ∧ n < (r + 2 ^ (32 - k)) * (r + 2 ^ (32 - k)))
    (ht : (r + 2 ^ (31 - k)) * (r + 2 ^ (31 - k)) ≤ n) : RootInv n (.int .u64 ((r + 2 ^ (31 - k) : Nat) : Int)) (.int .i64 ((k : Int) + 1)) := by
  obtain ⟨h1, h2, h3⟩ := pow_bit k hk
  have e : 32 - (k + 1) = 31 - k := by omega
  obtain ⟨a, b, c, d⟩ := h
  refine ⟨k + 1, _, by omega, by go_num, rfl, by omega, ?_⟩
  rw [e]
  refine ⟨?_, by omega, ht, ?_⟩
  · have : 2 ^ (31 - k) ∣ r := Nat.dvd_trans ⟨2, by rw [h1, Nat.mul_comm]⟩ (Nat.dvd_of_mod_eq_zero a)
    rw [Nat.add_mod_right]
    exact Nat.mod_eq_zero_of_dvd this
  · rw [show r + 2 ^ (31 - k) + 2 ^ (31 - k) = r + 2 ^ (32 - k) by omega]; exact d
theorem root_no (n k r : Nat) (hk : k < 32) (hr : r < 4294967296) (h : r % 2 ^ (32 - k) = 0 ∧ r + 2 ^ (32 - k) ≤ 4294967296 ∧ r * r ≤ n ∧ n < (r + 2 ^ (32 - k)) * (r + 2 ^ (32 - k)))
    (ht : n < (r + 2 ^ (31 - k)) * (r + 2 ^ (31 - k))) : RootInv n (.int .u64 (r : Int)) (.int .i64 ((k : Int) + 1)) := by
  obtain ⟨h1, h2, h3⟩ := pow_bit k hk
  have e : 32 - (k + 1) = 31 - k := by omega
  obtain ⟨a, b, c, d⟩ := h
  refine ⟨k + 1, _, by omega, by go_num, rfl, hr, ?_⟩
  rw [e]
  refine ⟨?_, by omega, c, ht⟩
  have : 2 ^ (31 - k) ∣ r := Nat.dvd_trans ⟨2, by rw [h1, Nat.mul_comm]⟩ (Nat.dvd_of_mod_eq_zero a)
  exact Nat.mod_eq_zero_of_dvd this

set_option maxHeartbeats 400000 in
theorem root_any (n : Nat) (w : World) (h2 : n ≤ 9223372036854775807) :
    Calls Try.prog 23 #[.int .i64 (n : Int)] w (RootPost n w) := by
  go_enter Try.func23, Try.ntmps23
  go_wp2
  go_loop [3, 8] (fun root i => RootInv n root i) (fun _ i => 32 - (intOf i).toNat)
  case atStart => exact ⟨0, 0, by omega, rfl, rfl, by omega, by simp, by omega, by omega, by omega⟩
  case round =>
    obtain ⟨k, r, hk, rfl, rfl, hr, hI⟩ := hrel
    by_cases hlt : k < 32
    · have h := hI.out
      have ho := Lib.hid (root_or r k hlt hr h.1)
      have hx : r + 2 ^ (31 - k) ≤ 4294967295 := by have := pow_bit k hlt; omega
      have hq := Lib.hid (sq_wrap (r + 2 ^ (31 - k)) hx)
      have h := Lib.hid h
      clear hx
      go_wp2
      · rename_i ht
        rw [ho.out, hq.out] at ht
        rw [ho.out]
        exact ⟨root_yes n k r hlt h.out (by omega), by simp [intOf]; omega⟩
      · rename_i ht
        rw [ho.out, hq.out] at ht
        exact ⟨root_no n k r hlt hr h.out (by omega), by simp [intOf]; omega⟩
    · obtain rfl : k = 32 := by omega
      have h := Lib.hid (show r * r ≤ n ∧ n < (r + 1) * (r + 1) by have h := hI.out; simp at h; exact ⟨h.2.2.1, h.2.2.2⟩)
      clear hI
      go_wp2
      go_ret
      exact ⟨r, ret_int rfl, hr, h.out.1, h.out.2, rfl⟩
end Go.Proofs.Ythipgmdjjmgppaa
