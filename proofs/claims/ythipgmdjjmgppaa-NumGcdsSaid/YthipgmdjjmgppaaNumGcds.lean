/-
  For all ints a, b and d the law NumGcds (P1.3) returns true and leaves its arguments alone: Gcd agrees with the reference, divides both numbers and is a multiple of every common divisor. No condition.
-/
import Derived.Test.YthipgmdjjmgppaaRows
import Derived.WalkKit
import Derived.ProofKit
import Derived.OpenShut
import Derived.ChangeOld
import Derived.Below
import Derived.Test.YthipgmdjjmgppaaAlive
import Derived.ShutString
namespace Go.Proofs.Ythipgmdjjmgppaa.numGcds
open Go.ChangeShapes Go.WideShapes Go.ChangeAt Go.RowKit
open Go.ChangeMaps (open_string shut_string)
set_option linter.unusedVariables false      -- a walk need not use every 'w<i>' (that an integer argument fits its kind)

theorem own : ownKnob Try.prog.godebug = none := by kernel_rfl

theorem gcdN_zero (a : Int) (b : Int) (h : gcdN a b = 0) : a = 0 ∧ b = 0 := by
  unfold gcdN at h
  have := Nat.gcd_eq_zero_iff.1 h
  omega
theorem abs_of_dvd (a : Int) (h2 : a ≤ 9223372036854775807) (h1 : -9223372036854775808 ≤ a) (h : 9223372036854775808 ∣ a.natAbs) : a = 0 ∨ a = -9223372036854775808 := by
  obtain ⟨k, hk⟩ := h
  rcases Nat.eq_zero_or_pos k with x | x
  · subst x; left; omega
  · right
    have : 9223372036854775808 * 1 ≤ 9223372036854775808 * k := Nat.mul_le_mul_left _ x
    omega
theorem gcdV_zero (a b : Int) (h1 : -9223372036854775808 ≤ a) (h2 : a ≤ 9223372036854775807) (h3 : -9223372036854775808 ≤ b) (h4 : b ≤ 9223372036854775807) (h : gcdV a b = 0) :
    (a = 0 ∨ a = -9223372036854775808) ∧ (b = 0 ∨ b = -9223372036854775808) := by
  have hle := gcdN_le a b (by omega) (by omega)
  unfold gcdV at h
  by_cases hb : gcdN a b ≤ 9223372036854775807
  · rw [if_pos hb] at h
    have := gcdN_zero a b (by omega)
    exact ⟨.inl this.1, .inl this.2⟩
  · have e : gcdN a b = 9223372036854775808 := by omega
    exact ⟨abs_of_dvd a h2 h1 (by rw [← e]; exact Nat.gcd_dvd_left _ _), abs_of_dvd b h4 h3 (by rw [← e]; exact Nat.gcd_dvd_right _ _)⟩
theorem tmod_of_dvd (a : Int) (g : Nat) (h : g ∣ a.natAbs) : a.tmod (g : Int) = 0 := Int.tmod_eq_zero_of_dvd (Int.natAbs_dvd_natAbs.1 (by rw [Int.natAbs_natCast]; exact h))
theorem gcdV_pos (a b : Int) (h : gcdV a b ≠ 0) :
    0 < gcdV a b ∧ gcdV a b ≤ 9223372036854775807 ∧ a.tmod (gcdV a b) = 0 ∧ b.tmod (gcdV a b) = 0 ∧ ∀ d : Int, a.tmod d = 0 → b.tmod d = 0 → (gcdV a b).tmod d = 0 := by
  unfold gcdV at *
  by_cases hb : gcdN a b ≤ 9223372036854775807
  · rw [if_pos hb] at *
    refine ⟨by omega, by omega, tmod_of_dvd a _ (Nat.gcd_dvd_left _ _), tmod_of_dvd b _ (Nat.gcd_dvd_right _ _), fun d hd he => ?_⟩
    refine Int.tmod_eq_zero_of_dvd ?_
    have ha := Int.natAbs_dvd_natAbs.2 (Int.dvd_of_tmod_eq_zero hd)
    have hb := Int.natAbs_dvd_natAbs.2 (Int.dvd_of_tmod_eq_zero he)
    exact Int.natAbs_dvd_natAbs.1 (by rw [Int.natAbs_natCast]; exact Nat.dvd_gcd ha hb)
  · rw [if_neg hb] at h
    exact absurd rfl h
/-! ### The walk: the law returns true, and writes nothing that was there. -/
theorem walk (a0 : Int) (a1 : Int) (a2 : Int) (w0 : (Lit.int .i64 a0).wf = true) (w1 : (Lit.int .i64 a1).wf = true) (w2 : (Lit.int .i64 a2).wf = true) (w : World) :
    Calls Try.prog 5 #[.int .i64 a0, .int .i64 a1, .int .i64 a2] w fun e w' => e = .returned (.bool true) ∧ Below w.heap.size w w' := by
  obtain ⟨l0, g0⟩ := bounds_i64 w0
  obtain ⟨l1, g1⟩ := bounds_i64 w1
  obtain ⟨l2, g2⟩ := bounds_i64 w2
  clear w0 w1 w2
  have c1 := Lib.hid (fun w => gcd_any a0 a1 w l0 g0 l1 g1)
  have c2 := Lib.hid (fun w => refGcd_any a0 a1 w l0 g0 l1 g1)
  by_cases hz : gcdV a0 a1 = 0
  · have z := Lib.hid (gcdV_zero a0 a1 l0 g0 l1 g1 hz)
    have xa : ((a0 == 0) = true) ∨ ((a0 == 0) = false ∧ (a0 == -9223372036854775808) = true) := by
      by_cases h : a0 = 0
      · left; simpa using h
      · right; exact ⟨by simpa using h, by have := z.out.1; simp; omega⟩
    have xb : ((a1 == 0) = true) ∨ ((a1 == 0) = false ∧ (a1 == -9223372036854775808) = true) := by
      by_cases h : a1 = 0
      · left; simpa using h
      · right; exact ⟨by simpa using h, by have := z.out.2; simp; omega⟩
    have hz' : (gcdV a0 a1 == 0) = true := by simpa using hz
    clear hz
    rcases xa with xa | ⟨xa, xa'⟩ <;> rcases xb with xb | ⟨xb, xb'⟩
    all_goals
      go_enter Try.func5, Try.ntmps5
      go_wp2_with fail
      refine (c1.out _).mono ?_; rintro e w1 ⟨rfl, n1, rfl⟩
      go_wp2_with fail
      refine (c2.out _).mono ?_; rintro e w1 ⟨rfl, n2, rfl⟩
      go_wp2_with fail
      refine (alive_any _).mono ?_; rintro e w1 ⟨rfl, hb⟩
      go_wp2_with fail
      go_ret
      exact ⟨rfl, (below_drewN (Below.refl _ _) _).trans hb⟩
  · obtain ⟨p1, p2, p3, p4, p5⟩ := gcdV_pos a0 a1 hz
    have hz' : (gcdV a0 a1 == 0) = false := by simpa using hz
    have hz0 : ¬ gcdV a0 a1 = 0 := hz
    have q3 : (a0.tmod (gcdV a0 a1) == 0) = true := by simpa using p3
    have q4 : (a1.tmod (gcdV a0 a1) == 0) = true := by simpa using p4
    have P5 := Lib.hid p5
    clear p3 p4 p5
    by_cases hd : a2 = 0
    · have hd' : (a2 == 0) = true := by simpa using hd
      clear hd
      go_enter Try.func5, Try.ntmps5
      go_wp2_with fail
      refine (c1.out _).mono ?_; rintro e w1 ⟨rfl, n1, rfl⟩
      go_wp2_with fail
      refine (c2.out _).mono ?_; rintro e w1 ⟨rfl, n2, rfl⟩
      go_wp2_with fail
      refine (alive_any _).mono ?_; rintro e w1 ⟨rfl, hb⟩
      go_wp2_with fail
      go_ret
      exact ⟨rfl, (below_drewN (Below.refl _ _) _).trans hb⟩
    · have hd' : (a2 == 0) = false := by simpa using hd
      have hd0 : ¬ a2 = 0 := hd
      have x : ((a0.tmod a2 != 0) = true) ∨ ((a0.tmod a2 != 0) = false ∧ (a1.tmod a2 != 0) = true) ∨ ((a0.tmod a2 != 0) = false ∧ (a1.tmod a2 != 0) = false ∧ (gcdV a0 a1 % a2 == 0) = true) := by
        by_cases h : a0.tmod a2 = 0
        · right
          by_cases h' : a1.tmod a2 = 0
          · right; exact ⟨by simpa using h, by simpa using h', by rw [← Int.tmod_eq_emod_of_nonneg (by omega : 0 ≤ gcdV a0 a1)]; simpa using P5.out a2 h h'⟩
          · left; exact ⟨by simpa using h, by simpa using h'⟩
        · left; simpa using h
      rcases x with x | ⟨x, x'⟩ | ⟨x, x', x''⟩
      all_goals
        go_enter Try.func5, Try.ntmps5
        go_wp2_with fail
        refine (c1.out _).mono ?_; rintro e w1 ⟨rfl, n1, rfl⟩
        go_wp2_with fail
        refine (c2.out _).mono ?_; rintro e w1 ⟨rfl, n2, rfl⟩
        go_wp2_with fail
        refine (alive_any _).mono ?_; rintro e w1 ⟨rfl, hb⟩
        go_wp2_with fail
        go_ret
        exact ⟨rfl, (below_drewN (Below.refl _ _) _).trans hb⟩

/-! ### The row's step -/
set_option maxRecDepth 100000 in
theorem lifted (os : Os) (started : os.Started) (H : Type) (enc : TypeId × Value → H) :
    ReturnsInHanded {} Try.checked os 5 .any (Rows.numGcdsSpec.pre6 enc Try.prog Try.f5 Rows.numGcdsRow.domain false) (Rows.numGcdsSpec.post enc Try.prog Try.f5 false true false false) := by
  refine returnsInHanded_of_change (C := Try.checked) own started (by kernel_rfl) Try.func5
    (ChangeSpec.witness6 (enc := enc) (C := Try.checked) false ⟨#[], #[.int .i64 0, .int .i64 0, .int .i64 0], []⟩ 8 (by kernel_rfl) (by kernel_rfl) (by kernel_rfl) (by kernel_rfl)) ?_
  intro W base args ds gs before hval0 hW hcnd _
  have hval : ∀ (j : Nat) t v, Try.f5.params[j]? = some t → args[j]? = some v → Value.okWide Try.prog W .any base t v := hval0
  have hW' := hW
  obtain ⟨p, q, hA0, hV, rfl, hfz, hnd⟩ := hW
  have hA : DataW.TrodAll enc Try.prog W 0 (fun _ => true) true Try.f5.params.toList args.toList ds p := hA0
  rw [Try.params5] at hA hval
  obtain ⟨v0, vs0, d0, ds0, p0, q0, hargs, rfl, rfl, h0, r0⟩ := trodAll_cons hA
  obtain ⟨v1, vs1, d1, ds1, p1, q1, rfl, rfl, rfl, h1, r1⟩ := trodAll_cons r0
  obtain ⟨v2, vs2, d2, ds2, p2, q2, rfl, rfl, rfl, h2, r2⟩ := trodAll_cons r1
  obtain ⟨rfl, rfl, rfl⟩ := trodAll_nil r2
  obtain rfl : args = #[v0, v1, v2] := by cases args; simp_all
  obtain ⟨rfl, rfl⟩ := trodVars_none hV
  obtain ⟨a0, rfl, rfl, rfl, w0⟩ := open_int Try.underlying3 (hval 0 3 v0 rfl rfl) h0
  obtain ⟨a1, rfl, rfl, rfl, w1⟩ := open_int Try.underlying3 (hval 1 3 v1 rfl rfl) h1
  obtain ⟨a2, rfl, rfl, rfl, w2⟩ := open_int Try.underlying3 (hval 2 3 v2 rfl rfl) h2
  clear hA0 hval0
  simp only [List.append_nil] at hW'
  refine (walk a0 a1 a2 w0 w1 w2 W).mono fun e W' ⟨he, hg⟩ => ?_
  subst he
  exact ⟨_, rfl, _, _, _, [], [], [], hW', (trodAll_cons_mk (shut_bool Try.underlying4 _) trodAll_mk0), (trodAll_cons_mk (shut_int Try.underlying3 w0) (trodAll_cons_mk (shut_int Try.underlying3 w1) (trodAll_cons_mk (shut_int Try.underlying3 w2) trodAll_mk0))), rfl, hg.frame _, fun h => by cases h⟩

theorem over : Rows.numGcdsRow.holds Try.pinned (OpenSpec.ofChange Rows.numGcdsSpec) :=
  OpenClaim.holds_of_wide 5 Try.f5 rfl rfl rfl rfl rfl rfl rfl ⟨rfl, rfl, rfl, rfl, rfl⟩ rfl rfl rfl rfl rfl (by kernel_rfl) Try.func5 (by kernel_rfl)
    (of_decide_eq_true (by kernel_rfl)) (by unfold Func.isWrapper; first | (rw [if_pos (by decide +kernel)]; kernel_rfl) | (rw [if_neg (by decide +kernel)]; exact ⟨rfl, rfl⟩))
    (fun os started H enc _ => lifted os started H enc)

/-- The statement. -/
theorem proved : Rows.NumGcdsSaid :=
  over
#print axioms proved
end Go.Proofs.Ythipgmdjjmgppaa.numGcds
