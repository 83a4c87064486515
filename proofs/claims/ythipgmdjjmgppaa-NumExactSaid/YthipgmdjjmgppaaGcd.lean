/-
  Contracts of Gcd (num and reference) and of Root.
-/
import Derived.Test.YthipgmdjjmgppaaMulr
namespace Go.Proofs.Ythipgmdjjmgppaa
open Go.RowKit

def gcdN (a b : Int) : Nat := Nat.gcd a.natAbs b.natAbs
def gcdV (a b : Int) : Int := if gcdN a b ≤ 9223372036854775807 then gcdN a b else 0
def One (r : Int) (w : World) (e : Ending) (w' : World) : Prop := e = .returned (.int .i64 r) ∧ ∃ n, w' = w.drewN n
theorem gcdN_le (a b : Int) (h1 : a.natAbs ≤ 9223372036854775808) (h2 : b.natAbs ≤ 9223372036854775808) : gcdN a b ≤ 9223372036854775808 := by
  unfold gcdN
  by_cases h : a.natAbs = 0
  · rw [h, Nat.gcd_zero_left]; exact h2
  · exact Nat.le_trans (Nat.gcd_le_left _ (by omega)) h1

def GcdInv (a b : Int) (x y : Value) : Prop := ∃ p q : Nat, x = .int .u64 (p : Int) ∧ y = .int .u64 (q : Int) ∧ p ≤ 9223372036854775808 ∧ q ≤ 9223372036854775808 ∧ Hid (Nat.gcd p q = gcdN a b)
theorem gcdInv_step (a b : Int) (p q : Nat) (_hp : p ≤ 9223372036854775808) (hq : q ≤ 9223372036854775808) (h0 : 0 < q) (h : Hid (Nat.gcd p q = gcdN a b)) :
    GcdInv a b (.int .u64 (q : Int)) (.int .u64 ((p : Int) % (q : Int))) := by
  refine ⟨q, p % q, rfl, by rw [Int.natCast_emod], hq, ?_, ?_⟩
  · have := Nat.mod_lt p h0; omega
  · show _ = _
    rw [← h.out, Nat.gcd_comm q, ← Nat.gcd_rec, Nat.gcd_comm]

set_option maxHeartbeats 400000 in
theorem gcd_any (a b : Int) (w : World) (h1 : -9223372036854775808 ≤ a) (h2 : a ≤ 9223372036854775807) (h3 : -9223372036854775808 ≤ b) (h4 : b ≤ 9223372036854775807) :
    Calls Try.prog 21 #[.int .i64 a, .int .i64 b] w (One (gcdV a b) w) := by
  have hx : a.natAbs ≤ 9223372036854775808 := by omega
  have hy : b.natAbs ≤ 9223372036854775808 := by omega
  go_enter Try.func21, Try.ntmps21
  go_wp2_with (go_at_call 31; refine (magnitude_any _ _ (by assumption) (by assumption)).mono ?_; rintro e w' ⟨rfl, rfl⟩)
  go_loopw [5, 6] (fun x y wr => GcdInv a b x y ∧ ∃ n, wr = w.drewN n) (fun _ y _ => (intOf y).toNat)
  case atStart => exact ⟨⟨_, _, rfl, rfl, hx, hy, rfl⟩, 0, rfl⟩
  case round =>
    obtain ⟨⟨p, q, rfl, rfl, hp, hq, hg⟩, n, rfl⟩ := hrel
    by_cases h0 : 0 < q
    · have hq0 : ¬ (q : Int) = 0 := by omega
      go_wp2
      go_quiet (fail)
      go_roundw
      case rel => ((repeat apply Exists.intro); exact ⟨⟨gcdInv_step a b p q hp hq h0 hg, n + nq, by rw [World.drewN_drewN]⟩, rfl⟩)
      case measure => simp [intOf]; have := Nat.mod_lt p h0; rw [← Int.natCast_emod]; omega
    · obtain rfl : q = 0 := by omega
      have hG := gcdN_le a b hx hy
      have e := hg.out
      rw [Nat.gcd_zero_right] at e
      subst e
      by_cases hb : gcdN a b ≤ 9223372036854775807
      · have E := Lib.hid (show (gcdN a b : Int) = gcdV a b by unfold gcdV; rw [if_pos hb])
        have hb' : (gcdN a b : Int) ≤ 9223372036854775807 := by omega
        clear hb
        go_wp2
        go_ret
        exact ⟨ret_int E.out, _, rfl⟩
      · have E := Lib.hid (show 0 = gcdV a b by unfold gcdV; rw [if_neg hb])
        have hb' : (9223372036854775807 : Int) < (gcdN a b : Int) := by omega
        clear hb
        go_wp2
        go_ret
        exact ⟨ret_int E.out, _, rfl⟩

set_option maxHeartbeats 400000 in
theorem refGcd_any (a b : Int) (w : World) (h1 : -9223372036854775808 ≤ a) (h2 : a ≤ 9223372036854775807) (h3 : -9223372036854775808 ≤ b) (h4 : b ≤ 9223372036854775807) :
    Calls Try.prog 22 #[.int .i64 a, .int .i64 b] w (One (gcdV a b) w) := by
  have hx : a.natAbs ≤ 9223372036854775808 := by omega
  have hy : b.natAbs ≤ 9223372036854775808 := by omega
  go_enter Try.func22, Try.ntmps22
  go_wp2_with (go_at_call 37; refine (mag_any _ _ (by assumption) (by assumption)).mono ?_; rintro e w' ⟨rfl, rfl⟩)
  go_loopw [5, 6] (fun x y wr => GcdInv a b x y ∧ ∃ n, wr = w.drewN n) (fun _ y _ => (intOf y).toNat)
  case atStart => exact ⟨⟨_, _, rfl, rfl, hx, hy, rfl⟩, 0, rfl⟩
  case round =>
    obtain ⟨⟨p, q, rfl, rfl, hp, hq, hg⟩, n, rfl⟩ := hrel
    by_cases h0 : 0 < q
    · have hq0 : ¬ (q : Int) = 0 := by omega
      go_wp2
      go_quiet (fail)
      go_roundw
      case rel => ((repeat apply Exists.intro); exact ⟨⟨gcdInv_step a b p q hp hq h0 hg, n + nq, by rw [World.drewN_drewN]⟩, rfl⟩)
      case measure => simp [intOf]; have := Nat.mod_lt p h0; rw [← Int.natCast_emod]; omega
    · obtain rfl : q = 0 := by omega
      have hG := gcdN_le a b hx hy
      have e := hg.out
      rw [Nat.gcd_zero_right] at e
      subst e
      by_cases hb : gcdN a b ≤ 9223372036854775807
      · have E := Lib.hid (show (gcdN a b : Int) = gcdV a b by unfold gcdV; rw [if_pos hb])
        have hb' : (gcdN a b : Int) ≤ 9223372036854775807 := by omega
        clear hb
        go_wp2
        go_ret
        exact ⟨ret_int E.out, _, rfl⟩
      · have E := Lib.hid (show 0 = gcdV a b by unfold gcdV; rw [if_neg hb])
        have hb' : (9223372036854775807 : Int) < (gcdN a b : Int) := by omega
        clear hb
        go_wp2
        go_ret
        exact ⟨ret_int E.out, _, rfl⟩
end Go.Proofs.Ythipgmdjjmgppaa
