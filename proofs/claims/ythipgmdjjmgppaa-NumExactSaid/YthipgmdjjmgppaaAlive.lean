/-
  The examples of the chapter: 'alive' returns true.
-/
import Derived.Test.YthipgmdjjmgppaaTextR
import Derived.Test.YthipgmdjjmgppaaParseR
import Derived.Test.YthipgmdjjmgppaaSum
import Derived.Test.YthipgmdjjmgppaaRoot
import Derived.Test.YthipgmdjjmgppaaGcd
import Derived.WalkSmall
namespace Go.Proofs.Ythipgmdjjmgppaa
open Go.RowKit

theorem al_floor (w : World) : Calls Try.prog 12 #[.int .i64 7, .int .i64 (-2)] w (Two (-4) 0 w) := by
  have h := floor_any 7 (-2) w (by omega) (by omega) (by omega) (by omega)
  rw [show divQ 7 (-2) = -4 by decide, show divE 7 (-2) = 0 by decide] at h
  exact h
theorem al_ceil (w : World) : Calls Try.prog 14 #[.int .i64 7, .int .i64 (-2)] w (Two (-3) 0 w) := by
  have h := ceil_any 7 (-2) w (by omega) (by omega) (by omega) (by omega)
  rw [show ceilQ 7 (-2) = -3 by decide, show divE 7 (-2) = 0 by decide] at h
  exact h
theorem al_round (w : World) : Calls Try.prog 16 #[.int .i64 (-5), .int .i64 2] w (Two (-2) 0 w) := by
  have h := round_any (-5) 2 w (by omega) (by omega) (by omega) (by omega)
  rw [show roundQ (-5) 2 = -2 by decide, show divE (-5) 2 = 0 by decide] at h
  exact h
theorem al_mulDiv (w : World) : Calls Try.prog 19 #[.int .i64 4611686018427387904, .int .i64 6, .int .i64 8] w fun e w' => e = .returned (.tuple #[.int .i64 3458764513820540928, .int .i64 0]) ∧ w = w' := by
  have h := mulDiv_any 4611686018427387904 6 8 w (by omega) (by omega) (by omega) (by omega) (by omega) (by omega)
  rw [show mdQ 4611686018427387904 6 8 = 3458764513820540928 by decide, show mdE 4611686018427387904 6 8 = 0 by decide] at h
  exact h
theorem al_over (w : World) : Calls Try.prog 12 #[.int .i64 (-9223372036854775808), .int .i64 (-1)] w (Two 0 21 w) := by
  have h := floor_any (-9223372036854775808) (-1) w (by omega) (by omega) (by omega) (by omega)
  rw [show divQ (-9223372036854775808) (-1) = 0 by decide, show divE (-9223372036854775808) (-1) = 21 by decide] at h
  exact h
theorem al_gcd (w : World) : Calls Try.prog 21 #[.int .i64 (-12), .int .i64 18] w (One 6 w) := by
  have h := gcd_any (-12) 18 w (by omega) (by omega) (by omega) (by omega)
  rw [show gcdV (-12) 18 = 6 by decide] at h
  exact h
theorem al_root (w : World) : Calls Try.prog 23 #[.int .i64 99] w fun e w' => e = .returned (.int .i64 9) ∧ w = w' := by
  refine (root_any 99 w (by omega)).mono ?_
  rintro e w' ⟨r, he, h1, h2, h3, hw⟩
  have hr : r = 9 := by
    rcases Nat.lt_or_ge r 10 with x | x
    · rcases Nat.lt_or_ge r 9 with y | y
      · have := Nat.mul_le_mul (show r + 1 ≤ 9 by omega) (show r + 1 ≤ 9 by omega); omega
      · omega
    · have := Nat.mul_le_mul x x; omega
  subst hr
  exact ⟨he, hw⟩
theorem al_sum (W : World) (g : Nat) (h0 : W.cell? ⟨g, 0, none⟩ = some (.int .i64 9223372036854775807)) (h1 : W.cell? ⟨g, 1, none⟩ = some (.int .i64 1)) (h2 : W.cell? ⟨g, 2, none⟩ = some (.int .i64 (-1))) :
    Calls Try.prog 24 #[.slice (some ⟨g, 0, none⟩) 3 3] W fun e w' => e = .returned (.tuple #[.int .i64 9223372036854775807, .int .i64 0]) ∧ W = w' := by
  have h := sum_any g 0 3 [9223372036854775807, 1, -1] W (by simp) (fun j hj => by
    match j, hj with
    | 0, _ => exact h0
    | 1, _ => exact h1
    | 2, _ => exact h2) (fun j => by
    match j with
    | 0 => exact ⟨by decide, by decide⟩
    | 1 => exact ⟨by decide, by decide⟩
    | 2 => exact ⟨by decide, by decide⟩
    | j + 3 => simp)
  exact h
theorem al_parse (w : World) : Calls Try.prog 27 #[.string ⟨#[45, 49, 50]⟩] w fun e w' => e = .returned (.tuple #[.int .i64 (-12), .int .i64 0]) ∧ w = w' :=
  parse_any ⟨#[45, 49, 50]⟩ w (by decide)
theorem al_parse2 (w : World) : Calls Try.prog 27 #[.string ⟨#[48, 49, 50]⟩] w fun e w' => e = .returned (.tuple #[.int .i64 0, .int .i64 5]) ∧ w = w' :=
  parse_any ⟨#[48, 49, 50]⟩ w (by decide)
theorem al_text (w : World) : Calls Try.prog 26 #[.int .i64 (-12)] w fun e w' => e = .returned (.string ⟨#[45, 49, 50]⟩) ∧ Below w.heap.size w w' := by
  have h := text_any (-12) w (by omega) (by omega)
  rw [show textB (-12) = ⟨#[45, 49, 50]⟩ by decide] at h
  exact h

set_option maxRecDepth 100000 in
set_option maxHeartbeats 1000000 in
theorem alive_any (w : World) : Calls Try.prog 18 #[] w fun e w' => e = .returned (.bool true) ∧ Below w.heap.size w w' := by
  go_enter Try.func18, Try.ntmps18
  go_wp2_with fail
  refine (al_floor _).mono ?_; rintro e w1 ⟨rfl, n1, rfl⟩
  go_wp2_with fail
  refine (al_ceil _).mono ?_; rintro e w1 ⟨rfl, n2, rfl⟩
  go_wp2_with fail
  refine (al_round _).mono ?_; rintro e w1 ⟨rfl, n3, rfl⟩
  go_wp2_with fail
  refine (al_mulDiv _).mono ?_; rintro e w1 ⟨rfl, rfl⟩
  go_wp2_with fail
  refine (al_over _).mono ?_; rintro e w1 ⟨rfl, n4, rfl⟩
  go_wp2_with fail
  refine (al_sum _ _ ((Blk.new (w.drewN _) _ _).cell 0) ((Blk.new (w.drewN _) _ _).cell 1) ((Blk.new (w.drewN _) _ _).cell 2)).mono ?_; rintro e w1 ⟨rfl, rfl⟩
  go_wp2_with fail
  refine (al_parse _).mono ?_; rintro e w1 ⟨rfl, rfl⟩
  go_wp2_with fail
  refine (al_parse2 _).mono ?_; rintro e w1 ⟨rfl, rfl⟩
  go_wp2_with fail
  refine (al_gcd _).mono ?_; rintro e w1 ⟨rfl, n5, rfl⟩
  go_wp2_with fail
  refine (al_root _).mono ?_; rintro e w1 ⟨rfl, rfl⟩
  go_wp2_with fail
  refine (al_text _).mono ?_; rintro e w1 ⟨rfl, hb⟩
  go_wp2_with fail
  go_ret
  exact ⟨rfl, ((below_drewN (((below_drewN (Below.refl _ w) _).alloc (Nat.le_refl _) _)) _).trans (hb.mono (by simp)))⟩
end Go.Proofs.Ythipgmdjjmgppaa
