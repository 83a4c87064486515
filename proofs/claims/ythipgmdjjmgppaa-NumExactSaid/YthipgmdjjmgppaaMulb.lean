/-
  Contracts of positive, negative, MulDiv.
-/
import Derived.Test.YthipgmdjjmgppaaMul
namespace Go.Proofs.Ythipgmdjjmgppaa
open Go.RowKit

def posQ (s : Nat) : Int := if s ≤ 9223372036854775807 then s else 0
def posE (s : Nat) : Int := if s ≤ 9223372036854775807 then 0 else 21
/-- Down from '-s', by one more where a rest is left. -/
def negV (s r : Nat) : Int := if r = 0 then -(s : Int) else -(s : Int) - 1
def negQ (s r : Nat) : Int := if -9223372036854775808 ≤ negV s r then negV s r else 0
def negE (s r : Nat) : Int := if -9223372036854775808 ≤ negV s r then 0 else 21

set_option maxHeartbeats 400000 in
theorem positive_any (s : Nat) (w : World) (h : s ≤ 18446744073709551615) :
    Calls Try.prog 34 #[.int .u64 (s : Int)] w fun e w' => e = .returned (.tuple #[.int .i64 (posQ s), .int .i64 (posE s)]) ∧ w = w' := by
  by_cases hs : s ≤ 9223372036854775807
  · go_enter Try.func34, Try.ntmps34
    go_wp2
    go_ret2
    exact ⟨ret2 (by simp [posQ, hs]) (by simp [posE, hs]), rfl⟩
  · go_enter Try.func34, Try.ntmps34
    go_wp2
    go_ret2
    exact ⟨ret2 (by simp [posQ, hs]) (by simp [posE, hs]), rfl⟩

theorem neg_small (s : Nat) (h : s ≤ 9223372036854775807) : wrap64 (-(s : Int)) = -(s : Int) := IntWalk.wrap64_in _ (by omega)

set_option maxHeartbeats 400000 in
theorem negative_any (s r : Nat) (w : World) (h : s ≤ 18446744073709551615) (hr : r ≤ 18446744073709551615) :
    Calls Try.prog 35 #[.int .u64 (s : Int), .int .u64 (r : Int)] w fun e w' => e = .returned (.tuple #[.int .i64 (negQ s r), .int .i64 (negE s r)]) ∧ w = w' := by
  by_cases hs : s ≤ 9223372036854775807
  · by_cases h0 : r = 0
    · subst h0
      go_enter Try.func35, Try.ntmps35
      go_wp2
      go_ret2
      exact ⟨ret2 (by simp [negQ, negV]; omega) (by simp [negE, negV]; omega), rfl⟩
    · have h0' : ((r : Int) != 0) = true := by simpa using h0
      have H := Lib.hid h0
      clear h0
      go_enter Try.func35, Try.ntmps35
      go_wp2
      go_ret2
      have h0 := H.out
      exact ⟨ret2 (by simp [negQ, negV, h0]; omega) (by simp [negE, negV, h0]; omega), rfl⟩
  · by_cases hb : s ≤ 9223372036854775808
    · obtain rfl : s = 9223372036854775808 := by omega
      by_cases h0 : r = 0
      · subst h0
        go_enter Try.func35, Try.ntmps35
        go_wp2
        go_ret2
        exact ⟨ret2 (by simp [negQ, negV, wrap64]) (by simp [negE, negV]), rfl⟩
      · have h0' : ((r : Int) != 0) = true := by simpa using h0
        have H := Lib.hid h0
        clear h0
        go_enter Try.func35, Try.ntmps35
        go_wp2
        go_ret2
        have h0 := H.out
        exact ⟨ret2 (by simp [negQ, negV, h0]) (by simp [negE, negV, h0]), rfl⟩
    · have hn : 0 = negQ s r ∧ 21 = negE s r := by
        have hn : ¬ (-9223372036854775808 ≤ negV s r) := by unfold negV; split <;> omega
        unfold negQ negE
        rw [if_neg hn, if_neg hn]
        exact ⟨rfl, rfl⟩
      have HN := Lib.hid hn
      clear hn
      go_enter Try.func35, Try.ntmps35
      go_wp2
      go_ret2
      exact ⟨ret2 HN.out.1 HN.out.2, rfl⟩

theorem md_zero (a b : Int) (w : World) :
    Calls Try.prog 19 #[.int .i64 a, .int .i64 b, .int .i64 0] w fun e w' => e = .returned (.tuple #[.int .i64 (mdQ a b 0), .int .i64 (mdE a b 0)]) ∧ w = w' := by
  go_enter Try.func19, Try.ntmps19
  go_wp2_with fail
  go_ret2
  exact ⟨ret2 (by simp [mdQ]) (by simp [mdE]), rfl⟩

theorem prod_le (x y : Nat) (hx : x ≤ 9223372036854775808) (hy : y ≤ 9223372036854775808) : x * y ≤ 85070591730234615865843651857942052864 :=
  Nat.le_trans (Nat.mul_le_mul hx hy) (by decide)

theorem md_great (a b c : Int) (hc : c ≠ 0) (h : c.natAbs ≤ a.natAbs * b.natAbs / 18446744073709551616) : 0 = mdQ a b c ∧ 21 = mdE a b c := by
  have hd : 0 < c.natAbs := by omega
  have hq : 18446744073709551616 ≤ a.natAbs * b.natAbs / c.natAbs := by
    rw [Nat.le_div_iff_mul_le hd]
    have := (Nat.le_div_iff_mul_le (show 0 < 18446744073709551616 by omega)).1 h
    rw [Nat.mul_comm]; exact this
  have hn : mdOk a b c = false := by
    unfold mdOk
    rw [md_val a b c hc]
    generalize a.natAbs * b.natAbs / c.natAbs = q at *
    by_cases hs : mdNeg a b c = true
    · rw [if_pos hs]
      split <;> simp <;> omega
    · rw [if_neg hs]
      simp; omega
  unfold mdQ mdE
  rw [if_neg hc, if_neg hc, hn]
  exact ⟨rfl, rfl⟩

theorem md_pos (a b c : Int) (hc : c ≠ 0) (hs : mdNeg a b c = false) : posQ (a.natAbs * b.natAbs / c.natAbs) = mdQ a b c ∧ posE (a.natAbs * b.natAbs / c.natAbs) = mdE a b c := by
  unfold mdQ mdE mdOk posQ posE
  rw [if_neg hc, if_neg hc, md_val a b c hc, hs]
  generalize a.natAbs * b.natAbs / c.natAbs = q
  by_cases h : q ≤ 9223372036854775807
  · simp [h]; omega
  · simp [h]; omega
theorem negV_le (s r : Nat) : negV s r ≤ 9223372036854775807 := by unfold negV; split <;> omega
theorem md_neg (a b c : Int) (hc : c ≠ 0) (hs : mdNeg a b c = true) :
    negQ (a.natAbs * b.natAbs / c.natAbs) (a.natAbs * b.natAbs % c.natAbs) = mdQ a b c ∧ negE (a.natAbs * b.natAbs / c.natAbs) (a.natAbs * b.natAbs % c.natAbs) = mdE a b c := by
  have e : (a * b).fdiv c = negV (a.natAbs * b.natAbs / c.natAbs) (a.natAbs * b.natAbs % c.natAbs) := by
    rw [md_val a b c hc, if_pos hs]
    unfold negV
    split <;> omega
  have hle := negV_le (a.natAbs * b.natAbs / c.natAbs) (a.natAbs * b.natAbs % c.natAbs)
  unfold mdQ mdE mdOk negQ negE
  rw [if_neg hc, if_neg hc, e]
  generalize negV (a.natAbs * b.natAbs / c.natAbs) (a.natAbs * b.natAbs % c.natAbs) = q at *
  by_cases h : -9223372036854775808 ≤ q
  · simp [h, hle]
  · simp [h]

theorem sgn_eq (a b c : Int) (h : ((!decide (a < 0) == decide (b < 0)) == decide (c < 0)) = true) : mdNeg a b c = false := by
  unfold mdNeg
  generalize decide (a < 0) = x at *
  generalize decide (b < 0) = y at *
  generalize decide (c < 0) = z at *
  revert h; cases x <;> cases y <;> cases z <;> decide
theorem sgn_ne (a b c : Int) (h : ((!decide (a < 0) == decide (b < 0)) == decide (c < 0)) = false) : mdNeg a b c = true := by
  unfold mdNeg
  generalize decide (a < 0) = x at *
  generalize decide (b < 0) = y at *
  generalize decide (c < 0) = z at *
  revert h; cases x <;> cases y <;> cases z <;> decide

set_option maxHeartbeats 400000 in
theorem mulDiv_any (a b c : Int) (w : World) (h1 : -9223372036854775808 ≤ a) (h2 : a ≤ 9223372036854775807) (h3 : -9223372036854775808 ≤ b) (h4 : b ≤ 9223372036854775807) (h5 : -9223372036854775808 ≤ c) (h6 : c ≤ 9223372036854775807) :
    Calls Try.prog 19 #[.int .i64 a, .int .i64 b, .int .i64 c] w fun e w' => e = .returned (.tuple #[.int .i64 (mdQ a b c), .int .i64 (mdE a b c)]) ∧ w = w' := by
  by_cases hc0 : c = 0
  · subst hc0; exact md_zero a b w
  · have hc : (c == 0) = false := by simpa using hc0
    have hx : a.natAbs ≤ 9223372036854775808 := by omega
    have hy : b.natAbs ≤ 9223372036854775808 := by omega
    have hz : c.natAbs ≤ 9223372036854775808 := by omega
    have hl := mulLo_le a.natAbs b.natAbs
    by_cases hg : c.natAbs ≤ mulHi a.natAbs b.natAbs
    · have g := Lib.hid (md_great a b c hc0 hg)
      go_enter Try.func19, Try.ntmps19
      go_wp2_with (first | (go_at_call 31; refine (magnitude_any _ _ (by assumption) (by assumption)).mono ?_; rintro e w' ⟨rfl, rfl⟩) | (go_at_call 32; refine (multiply_any _ _ _ (by omega) (by omega)).mono ?_; rintro e w' ⟨rfl, rfl⟩))
      go_ret2
      exact ⟨ret2 g.out.1 g.out.2, rfl⟩
    · have hg' : mulHi a.natAbs b.natAbs < c.natAbs := by omega
      have q1 := dlQ_le (mulHi a.natAbs b.natAbs) (mulLo a.natAbs b.natAbs) c.natAbs hg' hl
      have q2 := dlR_lt (mulHi a.natAbs b.natAbs) (mulLo a.natAbs b.natAbs) c.natAbs hg'
      have e1 := Lib.hid (show dlQ (mulHi a.natAbs b.natAbs) (mulLo a.natAbs b.natAbs) c.natAbs = a.natAbs * b.natAbs / c.natAbs by unfold dlQ; rw [mul_words])
      have e2 := Lib.hid (show dlR (mulHi a.natAbs b.natAbs) (mulLo a.natAbs b.natAbs) c.natAbs = a.natAbs * b.natAbs % c.natAbs by unfold dlR; rw [mul_words])
      go_enter Try.func19, Try.ntmps19
      go_wp2_with (first | (go_at_call 31; refine (magnitude_any _ _ (by assumption) (by assumption)).mono ?_; rintro e w' ⟨rfl, rfl⟩) | (go_at_call 32; refine (multiply_any _ _ _ (by omega) (by omega)).mono ?_; rintro e w' ⟨rfl, rfl⟩) | (go_at_call 33; refine (divideLong_any _ _ _ _ (by omega) (by omega) (by omega)).mono ?_; rintro e w' ⟨rfl, rfl⟩) | (go_at_call 34; refine (positive_any _ _ (by omega)).mono ?_; rintro e w' ⟨rfl, rfl⟩) | (go_at_call 35; refine (negative_any _ _ _ (by omega) (by omega)).mono ?_; rintro e w' ⟨rfl, rfl⟩))
      · rename_i ht
        have m := md_pos a b c hc0 (sgn_eq a b c ht)
        rw [← e1.out] at m
        go_ret2
        exact ⟨ret2 m.1 m.2, rfl⟩
      · rename_i ht
        have m := md_neg a b c hc0 (sgn_ne a b c ht)
        rw [← e1.out, ← e2.out] at m
        go_ret2
        exact ⟨ret2 m.1 m.2, rfl⟩
end Go.Proofs.Ythipgmdjjmgppaa
