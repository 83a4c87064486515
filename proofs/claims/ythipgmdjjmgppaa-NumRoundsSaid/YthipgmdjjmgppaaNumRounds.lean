/-
  For all ints a and b the law NumRounds (P1.1, P1.8) returns true and leaves its arguments alone: Floor, Round and Ceil are next to each other and on the right sides of the quotient (the law itself asks this of a and b of at most 2^31 in magnitude). No condition.
-/
import Derived.Test.YthipgmdjjmgppaaRows
import Derived.WalkKit
import Derived.ProofKit
import Derived.OpenShut
import Derived.ChangeOld
import Derived.Below
import Derived.Test.YthipgmdjjmgppaaAlive
import Derived.ShutString
namespace Go.Proofs.Ythipgmdjjmgppaa.numRounds
open Go.ChangeShapes Go.WideShapes Go.ChangeAt Go.RowKit
open Go.ChangeMaps (open_string shut_string)
set_option linter.unusedVariables false      -- a walk need not use every 'w<i>' (that an integer argument fits its kind)

theorem own : ownKnob Try.prog.godebug = none := by kernel_rfl

theorem small_quo (a b : Int) (h1 : -2147483648 ≤ a) (h2 : a ≤ 2147483648) (h3 : -2147483648 ≤ b) (h4 : b ≤ 2147483648) (hb : b ≠ 0) : -2147483648 ≤ divQ a b ∧ divQ a b ≤ 2147483648 := by
  have hm : ¬ (a = imin ∧ b = -1) := fun h => by have := h.1; unfold imin at this; omega
  have e : divQ a b = a.fdiv b := by unfold divQ; rw [if_neg hb, if_neg hm]
  rw [e]
  have hn : (a.tdiv b).natAbs = a.natAbs / b.natAbs := Int.natAbs_tdiv a b
  have hle : a.natAbs / b.natAbs ≤ a.natAbs := Nat.div_le_self _ _
  by_cases hc : a.tmod b = 0 ∨ ((a < 0) ↔ (b < 0))
  · have f := (tdiv_fdiv_same a b hb hc).1
    omega
  · have f := (tdiv_fdiv_less a b hb (fun x => hc (.inl x)) (fun x => hc (.inr x))).1
    have h0 : a.tmod b ≠ 0 := fun x => hc (.inl x)
    have hl : (a.tmod b).natAbs < b.natAbs := by rw [Int.natAbs_tmod]; exact Nat.mod_lt _ (by omega)
    have : a.natAbs / b.natAbs ≤ a.natAbs / 2 := Nat.div_le_div_left (by omega) (by omega)
    omega
def Sides (a b p q r : Int) : Prop := p * b ≤ a ∧ a ≤ r * b ∧ 2 * q * b ≤ 2 * a + b ∧ 2 * a - b < 2 * q * b ∧ -4294967296 ≤ p * b ∧ r * b ≤ 4294967296 ∧ -17179869184 ≤ 2 * q * b ∧ 2 * q * b ≤ 17179869184
theorem rounds_facts (a b : Int) (h1 : -2147483648 ≤ a) (h2 : a ≤ 2147483648) (h3 : -2147483648 ≤ b) (h4 : b ≤ 2147483648) (hb : b ≠ 0) :
    divE a b = 0 ∧ divQ a b ≤ roundQ a b ∧ roundQ a b ≤ ceilQ a b ∧ ceilQ a b ≤ divQ a b + 1 ∧ ((divQ a b = ceilQ a b ∧ a.tmod b = 0) ∨ (divQ a b ≠ ceilQ a b ∧ a.tmod b ≠ 0)) ∧
    (0 < b → Sides a b (divQ a b) (roundQ a b) (ceilQ a b)) ∧ (b < 0 → Sides (-a) (-b) (divQ a b) (roundQ a b) (ceilQ a b)) := by
  rcases div_facts a b (by omega) (by omega) (by omega) (by omega) with f | f | f
  · exact absurd f.1 hb
  · omega
  · obtain ⟨_, _, fE, _, _, fs, fm, fp, fn, _, _, _, fz⟩ := f
    have hX : divQ a b * b + divR a b = a := by rw [Int.mul_comm]; exact fs
    have hp1 : (divQ a b + 1) * b = divQ a b * b + b := by rw [Int.add_mul, Int.one_mul]
    have h2p : 2 * divQ a b * b = 2 * (divQ a b * b) := Int.mul_assoc _ _ _
    have h2p1 : 2 * (divQ a b + 1) * b = 2 * (divQ a b * b) + 2 * b := by rw [Int.mul_assoc, hp1]; omega
    have n1 : divQ a b * -b = -(divQ a b * b) := Int.mul_neg _ _
    have n2 : (divQ a b + 1) * -b = -(divQ a b * b) - b := by rw [Int.mul_neg, hp1]; omega
    have n3 : 2 * divQ a b * -b = -(2 * (divQ a b * b)) := by rw [Int.mul_neg, h2p]
    have n4 : 2 * (divQ a b + 1) * -b = -(2 * (divQ a b * b)) - 2 * b := by rw [Int.mul_neg, h2p1]; omega
    unfold Sides roundQ ceilQ
    by_cases hz : divR a b = 0
    · rw [if_pos hz, if_pos hz, h2p, n1, n3]
      refine ⟨fE, by omega, by omega, by omega, .inl ⟨rfl, fz.2 hz⟩, fun _ => by omega, fun _ => by omega⟩
    · rw [if_neg hz, if_neg hz]
      have hzt : a.tmod b ≠ 0 := fun x => hz (fz.1 x)
      by_cases hc : (b.natAbs : Int) - (divR a b).natAbs ≤ (divR a b).natAbs
      · rw [if_pos hc, hp1, h2p1, n1, n2, n4]
        refine ⟨fE, by omega, by omega, by omega, .inr ⟨by omega, hzt⟩, fun _ => by omega, fun _ => by omega⟩
      · rw [if_neg hc, hp1, h2p, n1, n2, n3]
        refine ⟨fE, by omega, by omega, by omega, .inr ⟨by omega, hzt⟩, fun _ => by omega, fun _ => by omega⟩
/-! ### The walk: the law returns true, and writes nothing that was there. -/
set_option maxRecDepth 100000 in
set_option maxHeartbeats 1600000 in
theorem walk (a0 : Int) (a1 : Int) (w0 : (Lit.int .i64 a0).wf = true) (w1 : (Lit.int .i64 a1).wf = true) (w : World) :
    Calls Try.prog 10 #[.int .i64 a0, .int .i64 a1] w fun e w' => e = .returned (.bool true) ∧ Below w.heap.size w w' := by
  obtain ⟨l0, g0⟩ := bounds_i64 w0
  obtain ⟨l1, g1⟩ := bounds_i64 w1
  clear w0 w1
  by_cases hr : -2147483648 ≤ a0 ∧ a0 ≤ 2147483648 ∧ -2147483648 ≤ a1 ∧ a1 ≤ 2147483648 ∧ a1 ≠ 0
  · obtain ⟨r1, r2, r3, r4, hb⟩ := hr
    obtain ⟨s1, s2⟩ := small_quo a0 a1 r1 r2 r3 r4 hb
    obtain ⟨fE, f1, f2, f3, f4, f5, f6⟩ := rounds_facts a0 a1 r1 r2 r3 r4 hb
    have c1 := Lib.hid (fun w => floor_any a0 a1 w l0 g0 l1 g1)
    have c2 := Lib.hid (fun w => round_any a0 a1 w l0 g0 l1 g1)
    have c3 := Lib.hid (fun w => ceil_any a0 a1 w l0 g0 l1 g1)
    rw [fE] at c1 c2 c3
    generalize divQ a0 a1 = p at *
    generalize roundQ a0 a1 = q at *
    generalize ceilQ a0 a1 = r at *
    clear fE
    have hb' : (a1 == 0) = false := by simpa using hb
    have hb0 : ¬ a1 = 0 := hb
    have f4' : ((p == r) = true ∧ (a0.tmod a1 == 0) = true) ∨ ((p == r) = false ∧ (a0.tmod a1 == 0) = false) := by
      rcases f4 with ⟨x, y⟩ | ⟨x, y⟩
      · left; exact ⟨by simpa using x, by simpa using y⟩
      · right; exact ⟨by simpa using x, by simpa using y⟩
    have F5 := Lib.hid f5
    have F6 := Lib.hid f6
    clear f4 f5 f6 hb
    rcases Int.lt_or_le a1 0 with hs | hs
    · obtain ⟨u1, u2, u3, u4, u5, u6, u7, u8⟩ := F6.out hs
      rcases f4' with ⟨y1, y2⟩ | ⟨y1, y2⟩
      all_goals
        go_enter Try.func10, Try.ntmps10
        go_wp2_with fail
        refine (c1.out _).mono ?_; rintro e w1 ⟨rfl, n1, rfl⟩
        go_wp2_with fail
        refine (c2.out _).mono ?_; rintro e w1 ⟨rfl, n2, rfl⟩
        go_wp2_with fail
        refine (c3.out _).mono ?_; rintro e w1 ⟨rfl, n3, rfl⟩
        go_wp2_with fail
        refine (alive_any _).mono ?_; rintro e w1 ⟨rfl, hb⟩
        go_wp2_with fail
        go_ret
        exact ⟨rfl, (below_drewN (Below.refl _ _) _).trans hb⟩
    · have hs : 0 < a1 := by omega
      obtain ⟨u1, u2, u3, u4, u5, u6, u7, u8⟩ := F5.out hs
      rcases f4' with ⟨y1, y2⟩ | ⟨y1, y2⟩
      all_goals
        go_enter Try.func10, Try.ntmps10
        go_wp2_with fail
        refine (c1.out _).mono ?_; rintro e w1 ⟨rfl, n1, rfl⟩
        go_wp2_with fail
        refine (c2.out _).mono ?_; rintro e w1 ⟨rfl, n2, rfl⟩
        go_wp2_with fail
        refine (c3.out _).mono ?_; rintro e w1 ⟨rfl, n3, rfl⟩
        go_wp2_with fail
        refine (alive_any _).mono ?_; rintro e w1 ⟨rfl, hb⟩
        go_wp2_with fail
        go_ret
        exact ⟨rfl, (below_drewN (Below.refl _ _) _).trans hb⟩
  · have hr' : a0 < -2147483648 ∨ (-2147483648 ≤ a0 ∧ 2147483648 < a0) ∨ ((-2147483648 ≤ a0 ∧ a0 ≤ 2147483648) ∧ a1 < -2147483648) ∨ ((-2147483648 ≤ a0 ∧ a0 ≤ 2147483648) ∧ -2147483648 ≤ a1 ∧ 2147483648 < a1) ∨
        ((-2147483648 ≤ a0 ∧ a0 ≤ 2147483648) ∧ -2147483648 ≤ a1 ∧ a1 ≤ 2147483648 ∧ (a1 == 0) = true) := by
      by_cases hin : (-2147483648 ≤ a0 ∧ a0 ≤ 2147483648) ∧ (-2147483648 ≤ a1 ∧ a1 ≤ 2147483648)
      · have h : a1 = 0 := by omega
        exact .inr (.inr (.inr (.inr ⟨hin.1, hin.2.1, hin.2.2, by simpa using h⟩)))
      · have h : a0 < -2147483648 ∨ (-2147483648 ≤ a0 ∧ 2147483648 < a0) ∨ ((-2147483648 ≤ a0 ∧ a0 ≤ 2147483648) ∧ a1 < -2147483648) ∨ ((-2147483648 ≤ a0 ∧ a0 ≤ 2147483648) ∧ -2147483648 ≤ a1 ∧ 2147483648 < a1) := by omega
        rcases h with h | h | h | h
        · exact .inl h
        · exact .inr (.inl h)
        · exact .inr (.inr (.inl h))
        · exact .inr (.inr (.inr (.inl h)))
    clear hr
    rcases hr' with x1 | ⟨x1, x2⟩ | ⟨⟨x1, x2⟩, x3⟩ | ⟨⟨x1, x2⟩, x3, x4⟩ | ⟨⟨x1, x2⟩, x3, x4, x5⟩
    all_goals
      go_enter Try.func10, Try.ntmps10
      go_wp2_with fail
      refine (alive_any _).mono ?_; rintro e w1 ⟨rfl, hb⟩
      go_wp2_with fail
      go_ret
      exact ⟨rfl, hb⟩

/-! ### The row's step -/
set_option maxRecDepth 100000 in
theorem lifted (os : Os) (started : os.Started) (H : Type) (enc : TypeId × Value → H) :
    ReturnsInHanded {} Try.checked os 10 .any (Rows.numRoundsSpec.pre6 enc Try.prog Try.f10 Rows.numRoundsRow.domain false) (Rows.numRoundsSpec.post enc Try.prog Try.f10 false true false false) := by
  refine returnsInHanded_of_change (C := Try.checked) own started (by kernel_rfl) Try.func10
    (ChangeSpec.witness6 (enc := enc) (C := Try.checked) false ⟨#[], #[.int .i64 0, .int .i64 0], []⟩ 8 (by kernel_rfl) (by kernel_rfl) (by kernel_rfl) (by kernel_rfl)) ?_
  intro W base args ds gs before hval0 hW hcnd _
  have hval : ∀ (j : Nat) t v, Try.f10.params[j]? = some t → args[j]? = some v → Value.okWide Try.prog W .any base t v := hval0
  have hW' := hW
  obtain ⟨p, q, hA0, hV, rfl, hfz, hnd⟩ := hW
  have hA : DataW.TrodAll enc Try.prog W 0 (fun _ => true) true Try.f10.params.toList args.toList ds p := hA0
  rw [Try.params10] at hA hval
  obtain ⟨v0, vs0, d0, ds0, p0, q0, hargs, rfl, rfl, h0, r0⟩ := trodAll_cons hA
  obtain ⟨v1, vs1, d1, ds1, p1, q1, rfl, rfl, rfl, h1, r1⟩ := trodAll_cons r0
  obtain ⟨rfl, rfl, rfl⟩ := trodAll_nil r1
  obtain rfl : args = #[v0, v1] := by cases args; simp_all
  obtain ⟨rfl, rfl⟩ := trodVars_none hV
  obtain ⟨a0, rfl, rfl, rfl, w0⟩ := open_int Try.underlying3 (hval 0 3 v0 rfl rfl) h0
  obtain ⟨a1, rfl, rfl, rfl, w1⟩ := open_int Try.underlying3 (hval 1 3 v1 rfl rfl) h1
  clear hA0 hval0
  simp only [List.append_nil] at hW'
  refine (walk a0 a1 w0 w1 W).mono fun e W' ⟨he, hg⟩ => ?_
  subst he
  exact ⟨_, rfl, _, _, _, [], [], [], hW', (trodAll_cons_mk (shut_bool Try.underlying4 _) trodAll_mk0), (trodAll_cons_mk (shut_int Try.underlying3 w0) (trodAll_cons_mk (shut_int Try.underlying3 w1) trodAll_mk0)), rfl, hg.frame _, fun h => by cases h⟩

theorem over : Rows.numRoundsRow.holds Try.pinned (OpenSpec.ofChange Rows.numRoundsSpec) :=
  OpenClaim.holds_of_wide 10 Try.f10 rfl rfl rfl rfl rfl rfl rfl ⟨rfl, rfl, rfl, rfl, rfl⟩ rfl rfl rfl rfl rfl (by kernel_rfl) Try.func10 (by kernel_rfl)
    (of_decide_eq_true (by kernel_rfl)) (by unfold Func.isWrapper; first | (rw [if_pos (by decide +kernel)]; kernel_rfl) | (rw [if_neg (by decide +kernel)]; exact ⟨rfl, rfl⟩))
    (fun os started H enc _ => lifted os started H enc)

/-- The statement. -/
theorem proved : Rows.NumRoundsSaid :=
  over
#print axioms proved
end Go.Proofs.Ythipgmdjjmgppaa.numRounds
