/-
  Contracts of multiply, divideLong, positive, negative, MulDiv, and of the reference's product, signed, MulDiv.
-/
import Derived.Test.YthipgmdjjmgppaaDivb
namespace Go.Proofs.Ythipgmdjjmgppaa
open Go.RowKit

theorem ret2k {k l : IntKind} {a b a' b' : Int} (h1 : a = a') (h2 : b = b') : Ending.returned (.tuple #[.int k a, .int l b]) = .returned (.tuple #[.int k a', .int l b']) := by rw [h1, h2]

theorem wraps_u64 (n : Int) (h0 : 0 ≤ n) (h1 : n < 2 ^ 64) : IntKind.u64.wrap n = n := by rw [IntKind.wrap_u64]; omega
theorem or_bit (x b : Int) (h0 : 0 ≤ x) (h : x % 2 = 0) (h1 : x < 18446744073709551616) (h2 : 0 ≤ b) (h3 : b < 2) : bits .or .u64 x b = x + b :=
  bits_join .u64 64 (by decide) wraps_u64 1 x b h0 (by omega) (by omega) h2 (by omega) (by omega)
theorem or_half (x b : Int) (h0 : 0 ≤ x) (h : x % 4294967296 = 0) (h1 : x < 18446744073709551616) (h2 : 0 ≤ b) (h3 : b < 4294967296) : bits .or .u64 x b = x + b :=
  bits_join .u64 64 (by decide) wraps_u64 32 x b h0 (by omega) (by omega) h2 (by omega) (by omega)
theorem and_bit (x : Int) (h0 : 0 ≤ x) (h1 : x < 18446744073709551616) : bits .and .u64 x 1 = x % 2 :=
  bits_mask .u64 64 (by decide) wraps_u64 1 (by decide) x h0 (by omega)

theorem mul_low (a b : Nat) : IntKind.u64.wrap ((a : Int) * (b : Int)) = ((a * b % 18446744073709551616 : Nat) : Int) := by
  rw [IntKind.wrap_u64, ← Int.natCast_mul]; omega

theorem mul_high (a b : Nat) (h1 : a ≤ 18446744073709551615) (h2 : b ≤ 18446744073709551615) :
    (IntKind.u64.wrap
              (IntKind.u64.wrap
                  (IntKind.u64.wrap ((a : Int) / 4294967296 * ((b : Int) / 4294967296)) +
                    IntKind.u64.wrap
                        (IntKind.u64.wrap ((a : Int) / 4294967296 * bits BinOp.and IntKind.u64 (b : Int) 4294967295) +
                          IntKind.u64.wrap
                              (bits BinOp.and IntKind.u64 (a : Int) 4294967295 *
                                bits BinOp.and IntKind.u64 (b : Int) 4294967295) /
                            4294967296) /
                      4294967296) +
                IntKind.u64.wrap
                    (IntKind.u64.wrap (bits BinOp.and IntKind.u64 (a : Int) 4294967295 * ((b : Int) / 4294967296)) +
                      bits BinOp.and IntKind.u64
                        (IntKind.u64.wrap
                          (IntKind.u64.wrap ((a : Int) / 4294967296 * bits BinOp.and IntKind.u64 (b : Int) 4294967295) +
                            IntKind.u64.wrap
                                (bits BinOp.and IntKind.u64 (a : Int) 4294967295 *
                                  bits BinOp.and IntKind.u64 (b : Int) 4294967295) /
                              4294967296))
                        4294967295) /
                  4294967296)) = ((a * b / 18446744073709551616 : Nat) : Int) := by
  have e1 := and_low32 (a : Int) (by omega) (by omega)
  have e2 := and_low32 (b : Int) (by omega) (by omega)
  rw [e1, e2]
  rw [and_low32 (IntKind.u64.wrap _) (by rw [IntKind.wrap_u64]; omega) (by rw [IntKind.wrap_u64]; omega)]
  simp only [IntKind.wrap_u64]
  have h := mul64_arith (a : Int) (b : Int) (by omega) (by omega) (by omega) (by omega)
  rw [Int.add_comm (_ % 18446744073709551616 % 4294967296) _] at h
  rw [Int.natCast_ediv, Int.natCast_mul]
  exact h

set_option maxHeartbeats 400000 in
theorem multiply_any (a b : Nat) (w : World) (h1 : a ≤ 18446744073709551615) (h2 : b ≤ 18446744073709551615) :
    Calls Try.prog 32 #[.int .u64 (a : Int), .int .u64 (b : Int)] w fun e w' => e = .returned (.tuple #[.int .u64 (mulHi a b : Int), .int .u64 (mulLo a b : Int)]) ∧ w = w' := by
  go_enter Try.func32, Try.ntmps32
  go_wp2
  go_ret2
  exact ⟨ret2k (mul_high a b h1 h2) (mul_low a b), rfl⟩

def DlInv (h l d : Nat) (q r i : Value) : Prop :=
  ∃ k : Nat, k ≤ 64 ∧ i = .int .i64 k ∧ q = .int .u64 ((dlM h l k / d : Nat) : Int) ∧ r = .int .u64 ((dlM h l k % d : Nat) : Int)

theorem dl_bit (l k : Nat) (hl : l ≤ 18446744073709551615) : bits BinOp.and IntKind.u64 ((l : Int) / 2 ^ (63 - k)) 1 = ((l / 2 ^ (63 - k) % 2 : Nat) : Int) := by
  have e : ((l : Int) / 2 ^ (63 - k)) = ((l / 2 ^ (63 - k) : Nat) : Int) := by rw [Int.natCast_ediv]; congr 1
  have : l / 2 ^ (63 - k) ≤ l := Nat.div_le_self _ _
  rw [e]
  generalize l / 2 ^ (63 - k) = t at *
  rw [and_bit _ (by omega) (by omega)]
  rfl
theorem dl_rest (M d l k : Nat) (hl : l ≤ 18446744073709551615) (h : M % d ≤ 9223372036854775807) :
    bits BinOp.or IntKind.u64 ((M : Int) % (d : Int) * 2) (bits BinOp.and IntKind.u64 ((l : Int) / 2 ^ (63 - k)) 1) = ((2 * (M % d) + l / 2 ^ (63 - k) % 2 : Nat) : Int) := by
  rw [dl_bit l k hl, ← Int.natCast_emod, or_bit _ _ (by omega) (by omega) (by omega) (by omega) (by omega)]
  omega
theorem dl_one (q : Nat) (h : q ≤ 9223372036854775807) : bits BinOp.or IntKind.u64 (IntKind.u64.wrap ((q : Int) * 2)) 1 = ((2 * q + 1 : Nat) : Int) := by
  rw [IntWalk.u64_in _ (by omega), or_bit _ _ (by omega) (by omega) (by omega) (by omega) (by omega)]
  omega
theorem val_int {k : IntKind} {a b : Int} (h : a = b) : Value.int k a = .int k b := by rw [h]

set_option maxHeartbeats 400000 in
theorem divideLong_any (h l d : Nat) (w : World) (h0 : h < d) (hd : d ≤ 9223372036854775808) (hl : l ≤ 18446744073709551615) :
    Calls Try.prog 33 #[.int .u64 (h : Int), .int .u64 (l : Int), .int .u64 (d : Int)] w fun e w' => e = .returned (.tuple #[.int .u64 (dlQ h l d : Int), .int .u64 (dlR h l d : Int)]) ∧ w = w' := by
  have z := Lib.hid (dlM_zero h l hl)
  have z' := Lib.hid (dlM_end h l)
  go_enter Try.func33, Try.ntmps33
  go_wp2
  go_loop [6, 7, 11] (fun q r i => DlInv h l d q r i) (fun _ _ i => 64 - (intOf i).toNat)
  case atStart => exact ⟨0, by omega, rfl, by rw [z.out, Nat.div_eq_of_lt h0]; rfl, by rw [z.out, Nat.mod_eq_of_lt h0]⟩
  case round =>
    obtain ⟨k, hk, rfl, rfl, rfl⟩ := hrel
    by_cases hlt : k < 64
    · have b1 : dlM h l k % d < d := Nat.mod_lt _ (by omega)
      have b2 : dlM h l k / d ≤ 9223372036854775807 := dlM_bd h l d k h0 hl hlt
      have b3 : dlM h l k % d ≤ 9223372036854775807 := by omega
      have hs := Lib.hid (dlM_succ h l k hlt)
      have hr := Lib.hid (dl_rest (dlM h l k) d l k hl b3)
      have h1 := Lib.hid (dl_one (dlM h l k / d) b2)
      have hb : l / 2 ^ (63 - k) % 2 < 2 := by omega
      go_wp2
      · rename_i ht
        rw [hr.out] at ht
        have ht : d ≤ 2 * (dlM h l k % d) + l / 2 ^ (63 - k) % 2 := by
          rcases ht with ht | ht
          · exfalso
            have : ((dlM h l k : Int) % (d : Int) / 9223372036854775808) = 1 := by simpa using ht
            rw [← Int.natCast_emod] at this
            omega
          · omega
        have t := twice_yes (dlM h l k) d _ hb ht (by omega)
        go_round
        case rel =>
          refine ⟨k + 1, by omega, by go_num, val_int ?_, val_int ?_⟩
          · rw [hs.out, t.1, ← h1.out]; rfl
          · rw [hs.out, t.2, hr.out, IntWalk.u64_in _ (by omega)]
            omega
        case measure => simp [intOf]; omega
      · rename_i ht
        rw [hr.out] at ht
        have t := twice_no (dlM h l k) d (l / 2 ^ (63 - k) % 2) (by omega)
        go_round
        case rel =>
          refine ⟨k + 1, by omega, by go_num, val_int ?_, val_int ?_⟩
          · rw [hs.out, t.1, ← Int.natCast_ediv, IntWalk.u64_in _ (by omega)]; omega
          · rw [hs.out, t.2, hr.out]
        case measure => simp [intOf]; omega
    · have e : k = 64 := by omega
      subst e
      go_wp2
      go_ret2
      rw [z'.out]
      exact ⟨ret2k rfl rfl, rfl⟩
end Go.Proofs.Ythipgmdjjmgppaa
