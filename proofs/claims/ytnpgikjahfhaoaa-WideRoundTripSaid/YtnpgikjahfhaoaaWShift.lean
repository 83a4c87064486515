/-
  Doubles and halves of magnitudes.
-/
import Derived.Test.YtnpgikjahfhaoaaWSplit
namespace Go.Proofs.Ytnpgikjahfhaoaa
open Go.RowKit Go.Proofs.WM

theorem wd_half (n i : Nat) : wd (n / 2) i = wd n i / 2 + wd n (i + 1) % 2 * 9223372036854775808 := by
  have h := div_step 18446744073709551616 n i
  have e : n / 2 / 18446744073709551616 ^ i = n / 18446744073709551616 ^ i / 2 := by rw [Nat.div_div_eq_div_mul, Nat.div_div_eq_div_mul, Nat.mul_comm]
  have hx := wd_lt n i
  unfold wd at *
  rw [show dg 18446744073709551616 (n / 2) i = n / 2 / 18446744073709551616 ^ i % 18446744073709551616 from rfl, e, h, show dg 18446744073709551616 n (i + 1) = n / 18446744073709551616 ^ (i + 1) % 18446744073709551616 from rfl]
  generalize dg 18446744073709551616 n i = x at *
  generalize n / 18446744073709551616 ^ (i + 1) = q at *
  omega
theorem wd_twice0 (n : Nat) : wd (2 * n) 0 = 2 * wd n 0 % 18446744073709551616 := by
  unfold wd dg
  rw [Nat.pow_zero, Nat.div_one, Nat.div_one]
  omega
theorem wd_twice (n i : Nat) : wd (2 * n) (i + 1) = 2 * wd n (i + 1) % 18446744073709551616 + wd n i / 9223372036854775808 := by
  have h1 := dg_add (b := 18446744073709551616) (by decide) n n (i + 1)
  have h2 := cy_succ (b := 18446744073709551616) (by decide) n n i
  have h3 := cy_le (b := 18446744073709551616) (by decide) n n i
  have hx := wd_lt n i
  have hy := wd_lt n (i + 1)
  unfold wd at *
  rw [Nat.two_mul, h1, h2]
  generalize dg 18446744073709551616 n i = x at *
  generalize dg 18446744073709551616 n (i + 1) = y at *
  generalize cy 18446744073709551616 n n i = c at *
  omega

theorem half_word {x z : Nat} (hx : x < 18446744073709551616) : bits .or .u64 ((x : Int) / 2) (IntKind.u64.wrap ((z : Int) * 9223372036854775808)) = ((x / 2 + z % 2 * 9223372036854775808 : Nat) : Int) := by
  rw [IntKind.wrap_u64, or_comm, or_top _ _ (by omega) (by omega) (by omega) (by omega) (by omega)]
  omega
theorem twice_word {x z : Nat} (hz : z < 18446744073709551616) : bits .or .u64 (IntKind.u64.wrap ((x : Int) * 2)) ((z : Int) / 9223372036854775808) = ((2 * x % 18446744073709551616 + z / 9223372036854775808 : Nat) : Int) := by
  rw [IntKind.wrap_u64, or_bit _ _ (by omega) (by omega) (by omega) (by omega) (by omega)]
  omega

theorem halve_any (n : Nat) (w : World) (hn : n < M256) : Calls Try.prog 62 #[.agg (magL n)] w (Gives (.agg (magL (n / 2))) w) := by
  have e0 := half_word (z := wd n 1) (wd_lt n 0)
  have e1 := half_word (z := wd n 2) (wd_lt n 1)
  have e2 := half_word (z := wd n 3) (wd_lt n 2)
  rw [← wd_half] at e0 e1 e2
  have e3 : ((wd n 3 : Nat) : Int) / 2 = ((wd (n / 2) 3 : Nat) : Int) := by
    rw [wd_half, show wd n (3 + 1) = 0 from dg_of_lt (m_pow4 ▸ hn)]; omega
  unfold magL
  generalize wd (n / 2) 0 = y0 at *
  generalize wd (n / 2) 1 = y1 at *
  generalize wd (n / 2) 2 = y2 at *
  generalize wd (n / 2) 3 = y3 at *
  generalize wd n 0 = x0 at *
  generalize wd n 1 = x1 at *
  generalize wd n 2 = x2 at *
  generalize wd n 3 = x3 at *
  clear hn
  go_enter Try.func62, Try.ntmps62
  go_wp2
  refine bodyPost_ret (v := .agg #[.int .u64 (y0 : Int), .int .u64 (y1 : Int), .int .u64 (y2 : Int), .int .u64 (y3 : Int)]) (by simp [results, Try.results62, go_sem]) rfl ⟨rfl, (((Below.refl _ _).alloc (Nat.le_refl _) _).alloc (by simp) _)⟩
theorem double_any (n : Nat) (w : World) : Calls Try.prog 63 #[.agg (magL n)] w (Gives (.agg (magL (2 * n))) w) := by
  have e1 := twice_word (x := wd n 1) (wd_lt n 0)
  have e2 := twice_word (x := wd n 2) (wd_lt n 1)
  have e3 := twice_word (x := wd n 3) (wd_lt n 2)
  rw [← wd_twice] at e1 e2 e3
  have e0 : IntKind.u64.wrap (((wd n 0 : Nat) : Int) * 2) = ((wd (2 * n) 0 : Nat) : Int) := by
    rw [wd_twice0, IntKind.wrap_u64]; omega
  unfold magL
  generalize wd (2 * n) 0 = y0 at *
  generalize wd (2 * n) (0 + 1) = y1 at *
  generalize wd (2 * n) (1 + 1) = y2 at *
  generalize wd (2 * n) (2 + 1) = y3 at *
  generalize wd n 0 = x0 at *
  generalize wd n 1 = x1 at *
  generalize wd n 2 = x2 at *
  generalize wd n 3 = x3 at *
  go_enter Try.func63, Try.ntmps63
  go_wp2
  refine bodyPost_ret (v := .agg #[.int .u64 (y0 : Int), .int .u64 (y1 : Int), .int .u64 (y2 : Int), .int .u64 (y3 : Int)]) (by simp [results, Try.results63, go_sem]) rfl ⟨rfl, (((Below.refl _ _).alloc (Nat.le_refl _) _).alloc (by simp) _)⟩
end Go.Proofs.Ytnpgikjahfhaoaa
