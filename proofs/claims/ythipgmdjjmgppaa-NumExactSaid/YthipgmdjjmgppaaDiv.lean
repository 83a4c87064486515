/-
  Contracts of num's and the reference's division functions: divide, Floor, Ceil, Round, magnitude.
-/
import Derived.Test.YthipgmdjjmgppaaMath
import Derived.Test.YthipgmdjjmgppaaProg
import Derived.WalkKit
import Derived.WalkSpells
import Derived.WalkLawsBesides
import Derived.BigQuiet
import Derived.Deep.QuietTactic
import Derived.Lib.Hide
namespace Go.Proofs.Ythipgmdjjmgppaa
open Go.RowKit

theorem ret_int {k : IntKind} {a b : Int} (h : a = b) : Ending.returned (.int k a) = .returned (.int k b) := by rw [h]

theorem mag_neg (a : Int) (h1 : -9223372036854775808 ≤ a) (h : a < 0) : IntKind.u64.wrap (-IntKind.u64.wrap a) = (a.natAbs : Int) := by
  rw [IntKind.wrap_u64, IntKind.wrap_u64]; omega
theorem mag_pos (a : Int) (h : 0 ≤ a) : a = (a.natAbs : Int) := by omega

theorem magnitude_any (a : Int) (w : World) (h1 : -9223372036854775808 ≤ a) (h2 : a ≤ 9223372036854775807) :
    Calls Try.prog 31 #[.int .i64 a] w fun e w' => e = .returned (.int .u64 (a.natAbs : Int)) ∧ w = w' := by
  by_cases h : a < 0
  · go_enter Try.func31, Try.ntmps31
    go_wp2
    go_ret
    exact ⟨ret_int (mag_neg a h1 h), rfl⟩
  · go_enter Try.func31, Try.ntmps31
    go_wp2
    go_ret
    exact ⟨ret_int (mag_pos a (by omega)), rfl⟩

theorem mag_any (a : Int) (w : World) (h1 : -9223372036854775808 ≤ a) (h2 : a ≤ 9223372036854775807) :
    Calls Try.prog 37 #[.int .i64 a] w fun e w' => e = .returned (.int .u64 (a.natAbs : Int)) ∧ w = w' := by
  by_cases h : a < 0
  · go_enter Try.func37, Try.ntmps37
    go_wp2
    go_ret
    exact ⟨ret_int (mag_neg a h1 h), rfl⟩
  · go_enter Try.func37, Try.ntmps37
    go_wp2
    go_ret
    exact ⟨ret_int (mag_pos a (by omega)), rfl⟩

def Div3 (a b : Int) (w : World) (e : Ending) (w' : World) : Prop :=
  e = .returned (.tuple #[.int .i64 (divQ a b), .int .i64 (divR a b), .int .i64 (divE a b)]) ∧ ∃ n, w' = w.drewN n

theorem ret3 {a b c a' b' c' : Int} (h1 : a = a') (h2 : b = b') (h3 : c = c') : Ending.returned (.tuple #[.int .i64 a, .int .i64 b, .int .i64 c]) = .returned (.tuple #[.int .i64 a', .int .i64 b', .int .i64 c']) := by rw [h1, h2, h3]
theorem ret2 {a b a' b' : Int} (h1 : a = a') (h2 : b = b') : Ending.returned (.tuple #[.int .i64 a, .int .i64 b]) = .returned (.tuple #[.int .i64 a', .int .i64 b']) := by rw [h1, h2]

set_option maxHeartbeats 400000 in
theorem divide_zero (a : Int) (w : World) :
    Calls Try.prog 30 #[.int .i64 a, .int .i64 0] w (Div3 a 0 w) := by
  go_enter Try.func30, Try.ntmps30
  go_wp2
  go_ret3
  exact ⟨ret3 (by simp [divQ]) (by simp [divR]) (by simp [divE]), 0, rfl⟩

set_option maxHeartbeats 400000 in
theorem divide_over (w : World) :
    Calls Try.prog 30 #[.int .i64 (-9223372036854775808), .int .i64 (-1)] w (Div3 (-9223372036854775808) (-1) w) := by
  go_enter Try.func30, Try.ntmps30
  go_wp2
  go_ret3
  exact ⟨ret3 (by simp [divQ, imin]) (by simp [divR, imin]) (by simp [divE, imin]), 0, rfl⟩

theorem tdiv_bd (a b : Int) (h1 : -9223372036854775808 ≤ a) (h2 : a ≤ 9223372036854775807) (hb : b ≠ 0) (ho : a = -9223372036854775808 → b ≠ -1) :
    -9223372036854775808 ≤ a.tdiv b ∧ a.tdiv b ≤ 9223372036854775807 := by
  have hn := Int.natAbs_tdiv a b
  by_cases hb1 : b.natAbs = 1
  · rcases Int.natAbs_eq_iff.1 hb1 with h | h
    · subst h; simp; omega
    · subst h; simp; omega
  · have : a.natAbs / b.natAbs ≤ a.natAbs / 2 := Nat.div_le_div_left (by omega) (by omega)
    have e : (a.tdiv b).natAbs = a.natAbs / b.natAbs := by rw [hn]; rfl
    omega

theorem tmod_bd (a b : Int) (h1 : -9223372036854775808 ≤ a) (h2 : a ≤ 9223372036854775807) :
    -9223372036854775808 ≤ a.tmod b ∧ a.tmod b ≤ 9223372036854775807 := by
  have hn := Int.natAbs_tmod a b
  have : a.natAbs % b.natAbs ≤ a.natAbs := Nat.mod_le _ _
  by_cases h : a.tmod b = 0
  · omega
  · by_cases ha : 0 ≤ a
    · have := Int.tmod_nonneg b ha; omega
    · have : 0 ≤ (-a).tmod b := Int.tmod_nonneg b (by omega)
      rw [Int.neg_tmod] at this
      omega

theorem wrap_tdiv (a b : Int) (h1 : -9223372036854775808 ≤ a) (h2 : a ≤ 9223372036854775807) (hb : b ≠ 0) (ho : a = -9223372036854775808 → b ≠ -1) :
    IntKind.i64.wrap (a.tdiv b) = a.tdiv b := IntWalk.i64_in _ (tdiv_bd a b h1 h2 hb ho)
theorem wrap_tmod (a b : Int) (h1 : -9223372036854775808 ≤ a) (h2 : a ≤ 9223372036854775807) :
    IntKind.i64.wrap (a.tmod b) = a.tmod b := IntWalk.i64_in _ (tmod_bd a b h1 h2)

theorem fin_same (a b : Int) (hb : (b == 0) = false) (hm : ¬ (a = imin ∧ b = -1)) (h : a.tmod b = 0 ∨ ((a < 0) ↔ (b < 0))) : a.tdiv b = divQ a b ∧ a.tmod b = divR a b ∧ 0 = divE a b := by
  have hb' : b ≠ 0 := by simpa using hb
  have := tdiv_fdiv_same a b hb' h
  unfold divQ divR divE
  rw [if_neg hb', if_neg hb', if_neg hb', if_neg hm, if_neg hm, if_neg hm]
  exact ⟨this.1, this.2, rfl⟩
theorem fin_less (a b : Int) (hb : (b == 0) = false) (hm : ¬ (a = imin ∧ b = -1)) (h0 : a.tmod b ≠ 0) (h : ¬ ((a < 0) ↔ (b < 0))) : a.tdiv b - 1 = divQ a b ∧ a.tmod b + b = divR a b ∧ 0 = divE a b := by
  have hb' : b ≠ 0 := by simpa using hb
  have := tdiv_fdiv_less a b hb' h0 h
  unfold divQ divR divE
  rw [if_neg hb', if_neg hb', if_neg hb', if_neg hm, if_neg hm, if_neg hm]
  exact ⟨this.1, this.2, rfl⟩

theorem sign_no (a b : Int) (h : (!decide (a < 0) == decide (b < 0)) = true) : ¬ ((a < 0) ↔ (b < 0)) := by
  by_cases h1 : a < 0 <;> by_cases h2 : b < 0 <;> simp_all
theorem sign_yes (a b : Int) (h : (!decide (a < 0) == decide (b < 0)) = false) : ((a < 0) ↔ (b < 0)) := by
  by_cases h1 : a < 0 <;> by_cases h2 : b < 0 <;> simp_all <;> omega
theorem less_bd (a b : Int) (h1 : -9223372036854775808 ≤ a) (h2 : a ≤ 9223372036854775807) (h3 : -9223372036854775808 ≤ b) (h4 : b ≤ 9223372036854775807) (hb : ¬ b = 0)
    (h : ¬ ((a < 0) ↔ (b < 0))) (hz : ¬ a.tmod b = 0) : wrap64 (a.tdiv b - 1) = a.tdiv b - 1 ∧ wrap64 (a.tmod b + b) = a.tmod b + b := by
  have hm : (a.tmod b).natAbs < b.natAbs := by rw [Int.natAbs_tmod]; exact Nat.mod_lt _ (by omega)
  have hs : 0 ≤ a → 0 ≤ a.tmod b := fun ha => Int.tmod_nonneg b ha
  have hs' : a < 0 → a.tmod b ≤ 0 := fun ha => by
    have := Int.tmod_nonneg (a := -a) b (by omega)
    rw [Int.neg_tmod] at this
    omega
  refine ⟨IntWalk.wrap64_in _ ?_, IntWalk.wrap64_in _ ?_⟩
  · have hb2 : (a.tdiv b).natAbs ≤ a.natAbs / 2 := by
      rw [Int.natAbs_tdiv]; exact Nat.div_le_div_left (by omega) (by omega)
    omega
  · omega

set_option maxHeartbeats 400000 in
theorem divide_ok (a b : Int) (w : World) (h1 : -9223372036854775808 ≤ a) (h2 : a ≤ 9223372036854775807) (h3 : -9223372036854775808 ≤ b) (h4 : b ≤ 9223372036854775807)
    (hb : (b == 0) = false) (ha : (a == -9223372036854775808) = false) :
    Calls Try.prog 30 #[.int .i64 a, .int .i64 b] w (Div3 a b w) := by
  have hm : ¬ (a = imin ∧ b = -1) := fun h => by simp [imin, h.1] at ha
  have hb' : ¬ b = 0 := by simpa using hb
  have wq := wrap_tdiv a b h1 h2 (by simpa using hb) (fun h => by simp [h] at ha)
  have wr := wrap_tmod a b h1 h2
  go_enter Try.func30, Try.ntmps30
  go_wp2
  go_quiet (fail)
  go_wp2
  · rename_i hz
    have f := fin_same a b hb hm (.inl hz)
    go_ret3
    exact ⟨ret3 f.1 (by rw [← f.2.1, hz]) f.2.2, nq, rfl⟩
  · rename_i hz hs
    have hs := sign_no a b hs.2
    have f := fin_less a b hb hm hz hs
    have g := less_bd a b h1 h2 h3 h4 hb' hs hz
    go_ret3
    exact ⟨ret3 (g.1.trans f.1) (g.2.trans f.2.1) f.2.2, nq, rfl⟩
  · rename_i hz hs
    have hs : (a < 0) ↔ (b < 0) := by
      rcases hs with hs | hs
      · simp [hz] at hs
      · exact sign_yes a b hs
    have f := fin_same a b hb hm (.inr hs)
    go_ret3
    exact ⟨ret3 f.1 f.2.1 f.2.2, nq, rfl⟩

set_option maxHeartbeats 400000 in
theorem divide_least (a b : Int) (w : World) (ha : a = -9223372036854775808) (h3 : -9223372036854775808 ≤ b) (h4 : b ≤ 9223372036854775807) (hb' : ¬ b = 0) (hb1 : ¬ b = -1) :
    Calls Try.prog 30 #[.int .i64 a, .int .i64 b] w (Div3 a b w) := by
  have hm : ¬ (a = imin ∧ b = -1) := fun h => hb1 h.2
  have hb : (b == 0) = false := by simpa using hb'
  have hbm : (b == -1) = false := by simpa using hb1
  have h1 : -9223372036854775808 ≤ a := by omega
  have h2 : a ≤ 9223372036854775807 := by omega
  have ha' : (a == -9223372036854775808) = true := by simpa using ha
  have H := Lib.hid ha; clear ha
  have wq := wrap_tdiv a b h1 h2 hb' (fun _ => hb1)
  have wr := wrap_tmod a b h1 h2
  go_enter Try.func30, Try.ntmps30
  go_wp2
  go_quiet (fail)
  go_wp2
  · rename_i hz
    have f := fin_same a b hb hm (.inl hz)
    go_ret3
    exact ⟨ret3 f.1 (by rw [← f.2.1, hz]) f.2.2, nq, rfl⟩
  · rename_i hz hs
    have hs := sign_no a b hs.2
    have f := fin_less a b hb hm hz hs
    have g := less_bd a b h1 h2 h3 h4 hb' hs hz
    go_ret3
    exact ⟨ret3 (g.1.trans f.1) (g.2.trans f.2.1) f.2.2, nq, rfl⟩
  · rename_i hz hs
    have hs : (a < 0) ↔ (b < 0) := by
      rcases hs with hs | hs
      · simp [hz] at hs
      · exact sign_yes a b hs
    have f := fin_same a b hb hm (.inr hs)
    go_ret3
    exact ⟨ret3 f.1 f.2.1 f.2.2, nq, rfl⟩

theorem divide_any (a b : Int) (w : World) (h1 : -9223372036854775808 ≤ a) (h2 : a ≤ 9223372036854775807) (h3 : -9223372036854775808 ≤ b) (h4 : b ≤ 9223372036854775807) :
    Calls Try.prog 30 #[.int .i64 a, .int .i64 b] w (Div3 a b w) := by
  by_cases hb : b = 0
  · subst hb; exact divide_zero a w
  · by_cases ha : a = -9223372036854775808
    · by_cases hb1 : b = -1
      · subst ha hb1; exact divide_over w
      · exact divide_least a b w ha h3 h4 hb hb1
    · exact divide_ok a b w h1 h2 h3 h4 (by simpa using hb) (by simpa using ha)
end Go.Proofs.Ythipgmdjjmgppaa
