/-
  Contracts of Floor, Ceil and Round, of num and of the reference: both hand back floorings by the same plain functions.
-/
import Derived.Test.YthipgmdjjmgppaaDiv
namespace Go.Proofs.Ythipgmdjjmgppaa
open Go.RowKit

def ceilQ (a b : Int) : Int := if divR a b = 0 then divQ a b else divQ a b + 1
def roundQ (a b : Int) : Int := if divR a b = 0 then divQ a b else if (b.natAbs : Int) - (divR a b).natAbs ≤ (divR a b).natAbs then divQ a b + 1 else divQ a b

def Two (q r : Int) (w : World) (e : Ending) (w' : World) : Prop := e = .returned (.tuple #[.int .i64 q, .int .i64 r]) ∧ ∃ n, w' = w.drewN n

/-- What is known of the three numbers. -/
theorem div_facts (a b : Int) (h1 : -9223372036854775808 ≤ a) (h2 : a ≤ 9223372036854775807) (h3 : -9223372036854775808 ≤ b) (h4 : b ≤ 9223372036854775807) :
    (b = 0 ∧ divQ a b = 0 ∧ divR a b = 0 ∧ divE a b = 22) ∨ (a = -9223372036854775808 ∧ b = -1 ∧ divQ a b = 0 ∧ divR a b = 0 ∧ divE a b = 21) ∨
    (b ≠ 0 ∧ ¬ (a = -9223372036854775808 ∧ b = -1) ∧ divE a b = 0 ∧ divQ a b = a.fdiv b ∧ divR a b = a.fmod b ∧ b * divQ a b + divR a b = a ∧ (divR a b).natAbs < b.natAbs ∧
      (0 < b → 0 ≤ divR a b) ∧ (b < 0 → divR a b ≤ 0) ∧ -9223372036854775808 ≤ divQ a b ∧ divQ a b ≤ 9223372036854775807 ∧ (divR a b ≠ 0 → divQ a b ≤ 9223372036854775806) ∧ (a.tmod b = 0 ↔ divR a b = 0)) := by
  by_cases hb : b = 0
  · left; simp [divQ, divR, divE, hb]
  · by_cases hm : a = imin ∧ b = -1
    · right; left; simp [divQ, divR, divE, hm, imin]
    · right; right
      have hm' : ¬ (a = -9223372036854775808 ∧ b = -1) := hm
      have eE : divE a b = 0 := by simp [divE, hb, hm]
      have eQ : divQ a b = a.fdiv b := by simp [divQ, hb, hm]
      have eR : divR a b = a.fmod b := by simp [divR, hb, hm]
      have sum := Int.mul_fdiv_add_fmod a b
      have hs : (0 < b → 0 ≤ a.fmod b ∧ a.fmod b < b) := fun h => ⟨Int.fmod_nonneg_of_pos a h, Int.fmod_lt_of_pos a h⟩
      have hs' : (b < 0 → a.fmod b ≤ 0 ∧ b < a.fmod b) := fun h => by
        have e : (-a).fmod (-b) = -(a.fmod b) := Int.neg_fmod_neg _ _
        have x := Int.fmod_nonneg_of_pos (-a) (show 0 < -b by omega)
        have y := Int.fmod_lt_of_pos (-a) (show 0 < -b by omega)
        omega
      have hz : a.tmod b = 0 ↔ a.fmod b = 0 := by
        rw [← Int.dvd_iff_tmod_eq_zero, ← Int.dvd_iff_fmod_eq_zero]
      have q0 : -9223372036854775808 ≤ a.fdiv b ∧ a.fdiv b ≤ 9223372036854775807 ∧ (a.fmod b ≠ 0 → a.fdiv b ≤ 9223372036854775806) := by
        by_cases hc : a.tmod b = 0 ∨ ((a < 0) ↔ (b < 0))
        · have f := tdiv_fdiv_same a b hb hc
          have g := tdiv_bd a b h1 h2 hb (fun x y => hm ⟨x, y⟩)
          rw [f.1] at g
          refine ⟨g.1, g.2, fun hne => ?_⟩
          have : (a.tdiv b).natAbs ≤ a.natAbs / 2 := by
            rw [Int.natAbs_tdiv]; exact Nat.div_le_div_left (by omega) (by omega)
          rw [f.1] at this
          omega
        · have f := tdiv_fdiv_less a b hb (fun x => hc (.inl x)) (fun x => hc (.inr x))
          have g := less_bd a b h1 h2 h3 h4 hb (fun x => hc (.inr x)) (fun x => hc (.inl x))
          have g0 := tdiv_bd a b h1 h2 hb (fun x y => hm ⟨x, y⟩)
          have : (a.tdiv b).natAbs ≤ a.natAbs / 2 := by
            have : ¬ a.tmod b = 0 := fun x => hc (.inl x)
            have hm : (a.tmod b).natAbs < b.natAbs := by rw [Int.natAbs_tmod]; exact Nat.mod_lt _ (by omega)
            rw [Int.natAbs_tdiv]; exact Nat.div_le_div_left (by omega) (by omega)
          omega
      refine ⟨hb, hm', eE, eQ, eR, ?_, ?_, ?_, ?_, ?_, ?_, ?_, ?_⟩
      · rw [eQ, eR]; exact sum
      · rw [eR]; rcases Int.lt_or_le b 0 with x | x <;> omega
      · rw [eR]; intro x; exact (hs x).1
      · rw [eR]; intro x; exact (hs' x).1
      · rw [eQ]; exact q0.1
      · rw [eQ]; exact q0.2.1
      · rw [eQ, eR]; exact q0.2.2
      · rw [eR]; exact hz

set_option maxHeartbeats 400000 in
theorem floor_any (a b : Int) (w : World) (h1 : -9223372036854775808 ≤ a) (h2 : a ≤ 9223372036854775807) (h3 : -9223372036854775808 ≤ b) (h4 : b ≤ 9223372036854775807) :
    Calls Try.prog 12 #[.int .i64 a, .int .i64 b] w (Two (divQ a b) (divE a b) w) := by
  go_enter Try.func12, Try.ntmps12
  go_wp2_with (go_at_call 30; refine (divide_any _ _ _ h1 h2 h3 h4).mono ?_; rintro e w' ⟨rfl, nq, rfl⟩)
  go_ret2
  exact ⟨rfl, nq, rfl⟩

set_option maxHeartbeats 400000 in
theorem ceil_any (a b : Int) (w : World) (h1 : -9223372036854775808 ≤ a) (h2 : a ≤ 9223372036854775807) (h3 : -9223372036854775808 ≤ b) (h4 : b ≤ 9223372036854775807) :
    Calls Try.prog 14 #[.int .i64 a, .int .i64 b] w (Two (ceilQ a b) (divE a b) w) := by
  have F := Lib.hid (div_facts a b h1 h2 h3 h4)
  by_cases hr : (divR a b != 0) = true
  · go_enter Try.func14, Try.ntmps14
    go_wp2_with (go_at_call 30; refine (divide_any _ _ _ h1 h2 h3 h4).mono ?_; rintro e w' ⟨rfl, nq, rfl⟩)
    go_ret2
    exact ⟨ret2 (by
      have hr' : divR a b ≠ 0 := by simpa using hr
      unfold ceilQ
      rw [if_neg hr']
      refine IntWalk.wrap64_in _ ?_
      have := F.out
      omega) rfl, nq, rfl⟩
  · have hr : (divR a b != 0) = false := by simpa using hr
    go_enter Try.func14, Try.ntmps14
    go_wp2_with (go_at_call 30; refine (divide_any _ _ _ h1 h2 h3 h4).mono ?_; rintro e w' ⟨rfl, nq, rfl⟩)
    go_ret2
    exact ⟨ret2 (by
      have hr' : divR a b = 0 := by simpa using hr
      unfold ceilQ
      rw [if_pos hr']) rfl, nq, rfl⟩

set_option maxHeartbeats 400000 in
theorem round_any (a b : Int) (w : World) (h1 : -9223372036854775808 ≤ a) (h2 : a ≤ 9223372036854775807) (h3 : -9223372036854775808 ≤ b) (h4 : b ≤ 9223372036854775807) :
    Calls Try.prog 16 #[.int .i64 a, .int .i64 b] w (Two (roundQ a b) (divE a b) w) := by
  have F := Lib.hid (div_facts a b h1 h2 h3 h4)
  by_cases hr : (divR a b != 0) = true
  · have hr' : divR a b ≠ 0 := by simpa using hr
    have hR : (divR a b).natAbs < b.natAbs ∧ -9223372036854775808 ≤ divR a b ∧ divR a b ≤ 9223372036854775807 := by have := F.out; omega
    have b1 : -9223372036854775808 ≤ divR a b := hR.2.1
    have b2 : divR a b ≤ 9223372036854775807 := hR.2.2
    have b3 : 0 ≤ (b.natAbs : Int) - (divR a b).natAbs := by omega
    have b4 : (b.natAbs : Int) - (divR a b).natAbs ≤ 18446744073709551615 := by omega
    clear hr' hR
    by_cases hc : (b.natAbs : Int) - (divR a b).natAbs ≤ (divR a b).natAbs
    all_goals
      go_enter Try.func16, Try.ntmps16
      go_wp2_with (first | (go_at_call 30; refine (divide_any _ _ _ h1 h2 h3 h4).mono ?_; rintro e w' ⟨rfl, nq, rfl⟩) | (go_at_call 31; refine (magnitude_any _ _ (by assumption) (by assumption)).mono ?_; rintro e w' ⟨rfl, rfl⟩))
    · go_ret2
      exact ⟨ret2 (by
        have F := F.out
        have hr' : divR a b ≠ 0 := by simpa using hr
        unfold roundQ
        rw [if_neg hr', if_pos hc]
        refine IntWalk.wrap64_in _ ?_
        omega) rfl, nq, rfl⟩
    · go_ret2
      exact ⟨ret2 (by
        have hr' : divR a b ≠ 0 := by simpa using hr
        unfold roundQ
        rw [if_neg hr', if_neg (by omega)]) rfl, nq, rfl⟩
  · have hr : (divR a b != 0) = false := by simpa using hr
    go_enter Try.func16, Try.ntmps16
    go_wp2_with (go_at_call 30; refine (divide_any _ _ _ h1 h2 h3 h4).mono ?_; rintro e w' ⟨rfl, nq, rfl⟩)
    go_ret2
    exact ⟨ret2 (by
      have hr' : divR a b = 0 := by simpa using hr
      unfold roundQ
      rw [if_pos hr']) rfl, nq, rfl⟩

/-! ### The reference -/
set_option maxHeartbeats 400000 in
theorem refFloor_any (a b : Int) (w : World) (h1 : -9223372036854775808 ≤ a) (h2 : a ≤ 9223372036854775807) (h3 : -9223372036854775808 ≤ b) (h4 : b ≤ 9223372036854775807) :
    Calls Try.prog 13 #[.int .i64 a, .int .i64 b] w fun e w' => e = .returned (.tuple #[.int .i64 (divQ a b), .int .i64 (divE a b)]) ∧ w = w' := by
  by_cases hb : b = 0
  · subst hb
    go_enter Try.func13, Try.ntmps13
    go_wp2
    go_ret2
    exact ⟨ret2 (by simp [divQ]) (by simp [divE]), rfl⟩
  · by_cases ho : a = -9223372036854775808 ∧ b = -1
    · obtain ⟨rfl, rfl⟩ := ho
      go_enter Try.func13, Try.ntmps13
      go_wp2
      go_ret2
      exact ⟨ret2 (by simp [divQ, imin]) (by simp [divE, imin]), rfl⟩
    · have hm : ¬ (a = imin ∧ b = -1) := ho
      have hb' : (b == 0) = false := by simpa using hb
      have wq := wrap_tdiv a b h1 h2 hb (fun x y => ho ⟨x, y⟩)
      have hx : ((a == -9223372036854775808) = false) ∨ ((a == -9223372036854775808) = true ∧ (b == -1) = false) := by
        by_cases h : a = -9223372036854775808
        · right; exact ⟨by simpa using h, by simp; exact fun y => ho ⟨h, y⟩⟩
        · left; simpa using h
      have HM := Lib.hid hm
      clear hm ho
      rcases hx with hx | ⟨hx, hx1⟩
      all_goals
        go_enter Try.func13, Try.ntmps13
        go_wp2
        · rename_i hz
          have f := fin_same a b hb' HM.out (.inl hz)
          go_ret2
          exact ⟨ret2 f.1 f.2.2, rfl⟩
        · rename_i hz hs
          have hs := sign_no a b hs.2
          have f := fin_less a b hb' HM.out hz hs
          have g := less_bd a b h1 h2 h3 h4 hb hs hz
          go_ret2
          exact ⟨ret2 (g.1.trans f.1) f.2.2, rfl⟩
        · rename_i hz hs
          have hs : (a < 0) ↔ (b < 0) := by
            rcases hs with hs | hs
            · simp [hz] at hs
            · exact sign_yes a b hs
          have f := fin_same a b hb' HM.out (.inr hs)
          go_ret2
          exact ⟨ret2 f.1 f.2.2, rfl⟩

set_option maxHeartbeats 400000 in
theorem refCeil_any (a b : Int) (w : World) (h1 : -9223372036854775808 ≤ a) (h2 : a ≤ 9223372036854775807) (h3 : -9223372036854775808 ≤ b) (h4 : b ≤ 9223372036854775807) :
    Calls Try.prog 15 #[.int .i64 a, .int .i64 b] w fun e w' => e = .returned (.tuple #[.int .i64 (ceilQ a b), .int .i64 (divE a b)]) ∧ w = w' := by
  have F := Lib.hid (div_facts a b h1 h2 h3 h4)
  by_cases he : (divE a b != 0) = true
  · go_enter Try.func15, Try.ntmps15
    go_wp2_with (go_at_call 13; refine (refFloor_any _ _ _ h1 h2 h3 h4).mono ?_; rintro e w' ⟨rfl, rfl⟩)
    go_ret2
    exact ⟨ret2 (by
      have F := F.out
      have he : divE a b ≠ 0 := by simpa using he
      unfold ceilQ
      rw [if_pos (by omega)]
      omega) rfl, rfl⟩
  · have he : (divE a b != 0) = false := by simpa using he
    have hE : divE a b = 0 := by simpa using he
    have hb : ¬ b = 0 := by have := F.out; omega
    have HE := Lib.hid hE
    clear hE
    by_cases hz : (a.tmod b != 0) = true
    all_goals
      go_enter Try.func15, Try.ntmps15
      go_wp2_with (go_at_call 13; refine (refFloor_any _ _ _ h1 h2 h3 h4).mono ?_; rintro e w' ⟨rfl, rfl⟩)
    · go_ret2
      exact ⟨ret2 (by
        have F := F.out
        have hE := HE.out
        have hz : a.tmod b ≠ 0 := by simpa using hz
        unfold ceilQ
        rw [if_neg (by omega)]
        exact IntWalk.wrap64_in _ (by omega)) HE.out.symm, rfl⟩
    · go_ret2
      exact ⟨ret2 (by
        have F := F.out
        have hE := HE.out
        have hz : a.tmod b = 0 := by simpa using hz
        unfold ceilQ
        rw [if_pos (by omega)]) HE.out.symm, rfl⟩

theorem rest_eq (a b q r : Int) (h1 : -9223372036854775808 ≤ r) (h2 : r ≤ 9223372036854775807) (h : b * q + r = a) : wrap64 (a - wrap64 (q * b)) = r := by
  rw [Int.mul_comm] at h
  unfold wrap64
  omega

set_option maxHeartbeats 400000 in
theorem refRound_any (a b : Int) (w : World) (h1 : -9223372036854775808 ≤ a) (h2 : a ≤ 9223372036854775807) (h3 : -9223372036854775808 ≤ b) (h4 : b ≤ 9223372036854775807) :
    Calls Try.prog 17 #[.int .i64 a, .int .i64 b] w fun e w' => e = .returned (.tuple #[.int .i64 (roundQ a b), .int .i64 (divE a b)]) ∧ w = w' := by
  have F := Lib.hid (div_facts a b h1 h2 h3 h4)
  by_cases he : (divE a b != 0) = true
  · go_enter Try.func17, Try.ntmps17
    go_wp2_with (go_at_call 13; refine (refFloor_any _ _ _ h1 h2 h3 h4).mono ?_; rintro e w' ⟨rfl, rfl⟩)
    go_ret2
    exact ⟨ret2 (by
      have F := F.out
      have he : divE a b ≠ 0 := by simpa using he
      unfold roundQ
      rw [if_pos (by omega)]
      omega) rfl, rfl⟩
  · have he : (divE a b != 0) = false := by simpa using he
    have hE : divE a b = 0 := by simpa using he
    have hb : ¬ b = 0 := by have := F.out; omega
    have r1 : -9223372036854775808 ≤ divR a b := by have := F.out; omega
    have r2 : divR a b ≤ 9223372036854775807 := by have := F.out; omega
    have R1 := rest_eq a b (divQ a b) (divR a b) r1 r2 (by have := F.out; omega)
    have R2 : IntKind.i64.wrap (a - wrap64 (divQ a b * b)) = divR a b := by rw [IntWalk.i64_left]; exact R1
    have HE := Lib.hid hE
    clear hE
    by_cases hp : 0 < b
    · have r3 : 0 ≤ divR a b := by have := F.out; omega
      have r4 : divR a b < b := by have := F.out; omega
      by_cases hc : b - divR a b ≤ divR a b
      all_goals
        go_enter Try.func17, Try.ntmps17
        go_wp2_with (go_at_call 13; refine (refFloor_any _ _ _ h1 h2 h3 h4).mono ?_; rintro e w' ⟨rfl, rfl⟩)
      · go_ret2
        exact ⟨ret2 (by
          have F := F.out
          have hE := HE.out
          unfold roundQ
          rw [if_neg (by omega), if_pos (by omega)]
          exact IntWalk.wrap64_in _ (by omega)) HE.out.symm, rfl⟩
      · go_ret2
        exact ⟨ret2 (by
          have F := F.out
          have hE := HE.out
          unfold roundQ
          by_cases hz : divR a b = 0
          · rw [if_pos hz]
          · rw [if_neg hz, if_neg (by omega)]) HE.out.symm, rfl⟩
    · have hn : b < 0 := by omega
      have r3 : divR a b ≤ 0 := by have := F.out; omega
      have r4 : b < divR a b := by have := F.out; omega
      by_cases hc : divR a b ≤ b - divR a b
      all_goals
        go_enter Try.func17, Try.ntmps17
        go_wp2_with (go_at_call 13; refine (refFloor_any _ _ _ h1 h2 h3 h4).mono ?_; rintro e w' ⟨rfl, rfl⟩)
      · go_ret2
        exact ⟨ret2 (by
          have F := F.out
          have hE := HE.out
          unfold roundQ
          rw [if_neg (by omega), if_pos (by omega)]
          exact IntWalk.wrap64_in _ (by omega)) HE.out.symm, rfl⟩
      · go_ret2
        exact ⟨ret2 (by
          have F := F.out
          have hE := HE.out
          unfold roundQ
          by_cases hz : divR a b = 0
          · rw [if_pos hz]
          · rw [if_neg hz, if_neg (by omega)]) HE.out.symm, rfl⟩
end Go.Proofs.Ythipgmdjjmgppaa
