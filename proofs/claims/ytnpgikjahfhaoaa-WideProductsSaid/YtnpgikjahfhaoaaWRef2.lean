/-
  The reference's Int.
-/
import Derived.Test.YtnpgikjahfhaoaaWOps2
namespace Go.Proofs.Ytnpgikjahfhaoaa
open Go.RowKit Go.Proofs.WM Go.Proofs.Reg

theorem rint_small (s : Bool) (n : Nat) (w : World) (h1 : n < 18446744073709551616) :
    Calls Try.prog 14 #[.agg #[.bool s, .int .u64 (n : Int), .int .u64 0, .int .u64 0, .int .u64 0]] w (Gives (.tuple #[.int .i64 (intV s n), .bool (intB s n)]) w) := by
  by_cases h2 : n ≤ 9223372036854775807
  · have t : decide ((n : Int) < 9223372036854775808) = true := by simp; omega
    have v : IntKind.i64.wrap (n : Int) = (n : Int) := by rw [IntKind.wrap_i64]; omega
    have v2 : IntKind.i64.wrap (-(n : Int)) = -(n : Int) := by rw [IntKind.wrap_i64]; omega
    have E2 := Lib.hid (show true = intB s n by unfold intB; rw [decide_eq_true (show n ≤ 9223372036854775808 by omega), decide_eq_true h2]; cases s <;> rfl)
    cases s
    · have E1 := Lib.hid (show (n : Int) = intV false n by unfold intV; rw [if_neg (by simp), if_pos ⟨rfl, h2⟩])
      clear h1 h2
      go_enter Try.func14, Try.ntmps14
      go_wp2
      go_ret2
      exact ⟨ret2v (by rw [← E1.out]; rfl) (by rw [← E2.out]; rfl), below1 _ _⟩
    · have E1 := Lib.hid (show -(n : Int) = intV true n by unfold intV; rw [if_pos ⟨rfl, by omega⟩])
      clear h1 h2
      go_enter Try.func14, Try.ntmps14
      go_wp2
      go_ret2
      exact ⟨ret2v (by rw [← E1.out]; rfl) (by rw [← E2.out]; rfl), below1 _ _⟩
  · have t : decide ((n : Int) < 9223372036854775808) = false := by simp; omega
    cases s
    · have E1 := Lib.hid (show 0 = intV false n by unfold intV; rw [if_neg (by simp), if_neg (by simp; omega)])
      have E2 := Lib.hid (show false = intB false n by simp [intB]; omega)
      clear h1 h2
      go_enter Try.func14, Try.ntmps14
      go_wp2
      go_ret2
      exact ⟨ret2v (by rw [← E1.out]; rfl) (by rw [← E2.out]; rfl), below1 _ _⟩
    · by_cases h3 : n = 9223372036854775808
      · have t3 : ((n : Int) == 9223372036854775808) = true := by simp; omega
        have E1 := Lib.hid (show (-9223372036854775808 : Int) = intV true n by unfold intV; rw [if_pos ⟨rfl, by omega⟩]; omega)
        have E2 := Lib.hid (show true = intB true n by unfold intB; rw [decide_eq_true (show n ≤ 9223372036854775808 by omega)]; rfl)
        clear h1 h2 h3
        go_enter Try.func14, Try.ntmps14
        go_wp2
        go_ret2
        exact ⟨ret2v (by rw [← E1.out]; rfl) (by rw [← E2.out]; rfl), below1 _ _⟩
      · have t3 : ((n : Int) == 9223372036854775808) = false := by simp; omega
        have E1 := Lib.hid (show 0 = intV true n by unfold intV; rw [if_neg (by simp; omega), if_neg (by simp)])
        have E2 := Lib.hid (show false = intB true n by simp [intB]; omega)
        clear h1 h2 h3
        go_enter Try.func14, Try.ntmps14
        go_wp2
        go_ret2
        exact ⟨ret2v (by rw [← E1.out]; rfl) (by rw [← E2.out]; rfl), below1 _ _⟩

theorem rint_any (s : Bool) (n : Nat) (w : World) (hn : n < M256) :
    Calls Try.prog 14 #[.agg (widL s n)] w (Gives (.tuple #[.int .i64 (intV s n), .bool (intB s n)]) w) := by
  by_cases h1 : n < 18446744073709551616
  · obtain ⟨x0, x1, x2, x3⟩ := wd_small n h1
    have h := rint_small s n w h1
    unfold widL
    rw [x0, x1, x2, x3]
    exact h
  · have E1 := Lib.hid (show 0 = intV s n by unfold intV; rw [if_neg (by omega), if_neg (by omega)])
    have E2 := Lib.hid (show false = intB s n by unfold intB; rw [decide_eq_false (by omega), decide_eq_false (by omega)]; cases s <;> rfl)
    have hz : ¬ (wd n 1 = 0 ∧ wd n 2 = 0 ∧ wd n 3 = 0) := fun ⟨a, b, c⟩ => by
      have := ofW_wd hn
      rw [a, b, c] at this
      have h0 := wd_lt n 0
      unfold ofW at this
      omega
    unfold widL
    generalize wd n 0 = a0 at *
    generalize wd n 1 = a1 at *
    generalize wd n 2 = a2 at *
    generalize wd n 3 = a3 at *
    by_cases b1 : a1 = 0
    · subst b1
      rw [show (((0 : Nat)) : Int) = 0 from rfl]
      by_cases b2 : a2 = 0
      · subst b2
        rw [show (((0 : Nat)) : Int) = 0 from rfl]
        have b3 : ¬ a3 = 0 := fun e => hz ⟨rfl, rfl, e⟩
        have c3 : ((a3 : Int) == 0) = false := by simp; omega
        clear hn h1 hz
        go_enter Try.func14, Try.ntmps14
        go_wp2
        go_ret2
        exact ⟨ret2v (by rw [← E1.out]; rfl) (by rw [← E2.out]; rfl), below1 _ _⟩
      · have c2 : ((a2 : Int) == 0) = false := by simp; omega
        clear hn h1 hz
        go_enter Try.func14, Try.ntmps14
        go_wp2
        go_ret2
        exact ⟨ret2v (by rw [← E1.out]; rfl) (by rw [← E2.out]; rfl), below1 _ _⟩
    · have c1 : ((a1 : Int) == 0) = false := by simp; omega
      clear hn h1 hz
      go_enter Try.func14, Try.ntmps14
      go_wp2
      go_ret2
      exact ⟨ret2v (by rw [← E1.out]; rfl) (by rw [← E2.out]; rfl), below1 _ _⟩
end Go.Proofs.Ytnpgikjahfhaoaa
