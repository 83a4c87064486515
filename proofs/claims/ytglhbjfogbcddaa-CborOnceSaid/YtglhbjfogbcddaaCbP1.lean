/-
  Contracts of the program's tools for heads of layer 5: shortest, following, encodeHead, argumentOf.
-/
import Derived.Test.YtglhbjfogbcddaaCbAll
namespace Go.Proofs.Ytglhbjfogbcddaa.Cb
open Go.RowKit

theorem info_u8 : (Try.prog.info? 5).map (fun i => (i.zero, i.size, i.bytes)) = some (some (.int .u8 0), 1, 1) := by kernel_rfl
theorem wraps8 (n : Int) (h0 : 0 ≤ n) (h1 : n < 2 ^ 8) : IntKind.u8.wrap n = n := by rw [IntKind.wrap_u8]; omega
theorem wraps64 (n : Int) (h0 : 0 ≤ n) (h1 : n < 2 ^ 64) : IntKind.u64.wrap n = n := by rw [IntKind.wrap_u64]; omega
theorem or_low5 (x b : Int) (h0 : 0 ≤ x) (h : x % 32 = 0) (h1 : x < 256) (h2 : 0 ≤ b) (h3 : b < 32) : bits .or .u8 x b = x + b :=
  bits_join .u8 8 (by decide) wraps8 5 x b h0 (by omega) (by omega) h2 (by omega) (by omega)
theorem or_byte (x b : Int) (h0 : 0 ≤ x) (h : x % 256 = 0) (h1 : x < 18446744073709551616) (h2 : 0 ≤ b) (h3 : b < 256) : bits .or .u64 x b = x + b :=
  bits_join .u64 64 (by decide) wraps64 8 x b h0 (by omega) (by omega) h2 (by omega) (by omega)
theorem and_low5 (x : Int) (h0 : 0 ≤ x) (h1 : x < 256) : bits .and .u8 x 31 = x % 32 :=
  bits_mask .u8 8 (by decide) wraps8 5 (by decide) x h0 (by omega)

set_option maxHeartbeats 1000000 in
theorem pshortest_any (v : Nat) (w : World) (hv : v < 18446744073709551616) : Calls Try.prog 48 #[.int .u64 (v : Int)] w fun e w' => e = .returned (.int .u8 (lowOf v : Int)) ∧ w = w' := by
  by_cases h24 : v < 24
  · have h24' : (v : Int) < 24 := by omega
    have e1 : lowOf v = v := (nOf_small v h24).1
    have e2 : IntKind.u8.wrap (v : Int) = (v : Int) := wraps8 _ (by omega) (by omega)
    rw [e1]
    clear hv h24
    go_enter Try.func48, Try.ntmps48
    go_wp2_with fail
    go_ret
    exact ⟨rfl, rfl⟩
  · have h24' : ¬ (v : Int) < 24 := by omega
    by_cases h1 : v ≤ 255
    · have h1' : (v : Int) < 256 := by omega
      have e1 : lowOf v = 24 := by unfold lowOf; rw [if_neg h24, if_pos h1]
      rw [e1]
      clear hv h24 h1
      go_enter Try.func48, Try.ntmps48
      go_wp2_with fail
      go_ret
      exact ⟨rfl, rfl⟩
    · have h1' : ¬ (v : Int) < 256 := by omega
      by_cases h2 : v ≤ 65535
      · have h2' : (v : Int) < 65536 := by omega
        have e1 : lowOf v = 25 := by unfold lowOf; rw [if_neg h24, if_neg h1, if_pos h2]
        rw [e1]
        clear hv h24 h1 h2
        go_enter Try.func48, Try.ntmps48
        go_wp2_with fail
        go_ret
        exact ⟨rfl, rfl⟩
      · have h2' : ¬ (v : Int) < 65536 := by omega
        by_cases h3 : v ≤ 4294967295
        · have h3' : (v : Int) < 4294967296 := by omega
          have e1 : lowOf v = 26 := by unfold lowOf; rw [if_neg h24, if_neg h1, if_neg h2, if_pos h3]
          rw [e1]
          clear hv h24 h1 h2 h3
          go_enter Try.func48, Try.ntmps48
          go_wp2_with fail
          go_ret
          exact ⟨rfl, rfl⟩
        · have h3' : ¬ (v : Int) < 4294967296 := by omega
          have e1 : lowOf v = 27 := by unfold lowOf; rw [if_neg h24, if_neg h1, if_neg h2, if_neg h3]
          rw [e1]
          clear hv h24 h1 h2 h3
          go_enter Try.func48, Try.ntmps48
          go_wp2_with fail
          go_ret
          exact ⟨rfl, rfl⟩

/-- How many bytes follow a first byte with these low bits. -/
def folN (L : Nat) : Nat := if L < 24 then 0 else 2 ^ (L - 24)
theorem folN_low (v : Nat) : folN (lowOf v) = nOf v := by
  by_cases h : v < 24
  · obtain ⟨e1, e2⟩ := nOf_small v h
    rw [e1, e2, folN, if_pos h]
  · obtain ⟨e1, e2⟩ := nOf_low v (by omega)
    rw [folN, if_neg (by omega), e2]
theorem folN_le {L : Nat} (h : L ≤ 27) : folN L ≤ 8 := by
  unfold folN
  split
  · exact Nat.zero_le _
  · exact Nat.pow_le_pow_right (n := 2) (by decide) (show L - 24 ≤ 3 by omega)
set_option maxHeartbeats 1000000 in
theorem pfollowing_any (L : Nat) (w : World) (hL : L ≤ 27) : Calls Try.prog 49 #[.int .u8 (L : Int)] w fun e w' => e = .returned (.int .i64 (folN L : Int)) ∧ w = w' := by
  by_cases h24 : L < 24
  · have h24' : (L : Int) < 24 := by omega
    have e1 : folN L = 0 := if_pos h24
    rw [e1]
    clear hL h24
    go_enter Try.func49, Try.ntmps49
    go_wp2_with fail
    go_ret
    exact ⟨rfl, rfl⟩
  · have hc : L = 24 ∨ L = 25 ∨ L = 26 ∨ L = 27 := by omega
    clear h24 hL
    rcases hc with rfl | rfl | rfl | rfl <;>
    · go_enter Try.func49, Try.ntmps49
      go_wp2_with fail
      go_ret
      exact ⟨rfl, rfl⟩
end Go.Proofs.Ytglhbjfogbcddaa.Cb
