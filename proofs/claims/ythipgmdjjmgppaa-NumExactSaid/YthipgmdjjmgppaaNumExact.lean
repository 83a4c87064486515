/-
  For all ints a, b and c the law NumExact (P1.2, P1.9) returns true and leaves its arguments alone: MulDiv takes back a multiplication, agrees with Floor, and leaves a rest with the sign of the divisor and a lesser magnitude. No condition.
-/
import Derived.Test.YthipgmdjjmgppaaRows
import Derived.WalkKit
import Derived.ProofKit
import Derived.OpenShut
import Derived.ChangeOld
import Derived.Below
import Derived.Test.YthipgmdjjmgppaaAlive
import Derived.ShutString
namespace Go.Proofs.Ythipgmdjjmgppaa.numExact
open Go.ChangeShapes Go.WideShapes Go.ChangeAt Go.RowKit
open Go.ChangeMaps (open_string shut_string)
set_option linter.unusedVariables false      -- a walk need not use every 'w<i>' (that an integer argument fits its kind)

theorem own : ownKnob Try.prog.godebug = none := by kernel_rfl

theorem ex_back (a c : Int) (h1 : -9223372036854775808 ≤ a) (h2 : a ≤ 9223372036854775807) (hc : c ≠ 0) : mdQ a c c = a ∧ mdE a c c = 0 := by
  have e : (a * c).fdiv c = a := Int.mul_fdiv_cancel a hc
  have ok : mdOk a c c = true := by unfold mdOk; rw [e]; simp [h1, h2]
  unfold mdQ mdE
  rw [if_neg hc, if_neg hc, ok, e]
  exact ⟨rfl, rfl⟩
theorem ex_floor (a c : Int) (h1 : -9223372036854775808 ≤ a) (h2 : a ≤ 9223372036854775807) (h3 : -9223372036854775808 ≤ c) (h4 : c ≤ 9223372036854775807) (hc : c ≠ 0) : mdQ a 1 c = divQ a c ∧ mdE a 1 c = divE a c := by
  have f := div_facts a c h1 h2 h3 h4
  rcases f with f | f | f
  · exact absurd f.1 hc
  · obtain ⟨rfl, rfl, _⟩ := f
    exact ⟨by decide, by decide⟩
  · obtain ⟨_, _, fE, fQ, _, _, _, _, _, q1, q2, _, _⟩ := f
    have ok : mdOk a 1 c = true := by
      unfold mdOk; rw [Int.mul_one, ← fQ]; simp [q1, q2]
    unfold mdQ mdE
    rw [if_neg hc, if_neg hc, ok, Int.mul_one, fQ, fE]
    exact ⟨rfl, rfl⟩
theorem ex_rest (a b c : Int) (ha1 : -2147483648 ≤ a) (ha2 : a ≤ 2147483648) (hb1 : -2147483648 ≤ b) (hb2 : b ≤ 2147483648) (hc : c ≠ 0) :
    mdE a b c = 0 ∧ -4611686018427387904 ≤ mdQ a b c ∧ mdQ a b c ≤ 4611686018427387904 ∧ a * b - mdQ a b c * c = (a * b).fmod c ∧ -4611686018427387904 ≤ a * b ∧ a * b ≤ 4611686018427387904 := by
  have hp : (a * b).natAbs ≤ 4611686018427387904 := by
    rw [Int.natAbs_mul]
    exact Nat.le_trans (Nat.mul_le_mul (show a.natAbs ≤ 2147483648 by omega) (show b.natAbs ≤ 2147483648 by omega)) (by decide)
  have hm := Int.mul_fdiv_add_fmod (a * b) c
  have hr : (0 < c → 0 ≤ (a * b).fmod c ∧ (a * b).fmod c < c) := fun h => ⟨Int.fmod_nonneg_of_pos _ h, Int.fmod_lt_of_pos _ h⟩
  have hr' : (c < 0 → (a * b).fmod c ≤ 0 ∧ c < (a * b).fmod c) := fun h => by
    have e : (-(a * b)).fmod (-c) = -((a * b).fmod c) := Int.neg_fmod_neg _ _
    have x := Int.fmod_nonneg_of_pos (-(a * b)) (show 0 < -c by omega)
    have y := Int.fmod_lt_of_pos (-(a * b)) (show 0 < -c by omega)
    omega
  have hq : -4611686018427387904 ≤ (a * b).fdiv c ∧ (a * b).fdiv c ≤ 4611686018427387904 := by
    have v := md_val a b c hc
    have hle : a.natAbs * b.natAbs / c.natAbs ≤ a.natAbs * b.natAbs := Nat.div_le_self _ _
    have hp' : a.natAbs * b.natAbs ≤ 4611686018427387904 := by rw [← Int.natAbs_mul]; exact hp
    have hlt : a.natAbs * b.natAbs % c.natAbs ≠ 0 → 2 ≤ c.natAbs := fun h => by
      rcases Nat.lt_or_ge c.natAbs 2 with x | x
      · have : c.natAbs = 1 := by omega
        rw [this, Nat.mod_one] at h; exact absurd rfl h
      · exact x
    have hd2 : 2 ≤ c.natAbs → a.natAbs * b.natAbs / c.natAbs ≤ a.natAbs * b.natAbs / 2 := fun h => Nat.div_le_div_left h (by omega)
    generalize a.natAbs * b.natAbs / c.natAbs = q at *
    generalize a.natAbs * b.natAbs % c.natAbs = r at *
    generalize a.natAbs * b.natAbs = n at *
    rw [v]
    split
    · split
      · omega
      · have := hd2 (hlt ‹_›); omega
    · omega
  have ok : mdOk a b c = true := by unfold mdOk; simp; omega
  have eq : mdQ a b c = (a * b).fdiv c := by unfold mdQ; rw [if_neg hc, ok]; rfl
  have ee : mdE a b c = 0 := by unfold mdE; rw [if_neg hc, ok]; rfl
  rw [eq, ee]
  refine ⟨rfl, hq.1, hq.2, ?_, by omega, by omega⟩
  rw [Int.mul_comm ((a * b).fdiv c) c]
  omega
theorem fmod_sign (x c : Int) (hc : c ≠ 0) : (0 < c ∧ 0 ≤ x.fmod c ∧ x.fmod c < c) ∨ (c < 0 ∧ x.fmod c ≤ 0 ∧ c < x.fmod c) := by
  rcases Int.lt_or_gt_of_ne hc with h | h
  · right
    have e : (-x).fmod (-c) = -(x.fmod c) := Int.neg_fmod_neg _ _
    have p := Int.fmod_nonneg_of_pos (-x) (show 0 < -c by omega)
    have q := Int.fmod_lt_of_pos (-x) (show 0 < -c by omega)
    omega
  · left; exact ⟨h, Int.fmod_nonneg_of_pos _ h, Int.fmod_lt_of_pos _ h⟩
/-! ### The walk: the law returns true, and writes nothing that was there. -/
set_option maxRecDepth 100000 in
set_option maxHeartbeats 1600000 in
theorem walk (a0 : Int) (a1 : Int) (a2 : Int) (w0 : (Lit.int .i64 a0).wf = true) (w1 : (Lit.int .i64 a1).wf = true) (w2 : (Lit.int .i64 a2).wf = true) (w : World) :
    Calls Try.prog 11 #[.int .i64 a0, .int .i64 a1, .int .i64 a2] w fun e w' => e = .returned (.bool true) ∧ Below w.heap.size w w' := by
  obtain ⟨l0, g0⟩ := bounds_i64 w0
  obtain ⟨l1, g1⟩ := bounds_i64 w1
  obtain ⟨l2, g2⟩ := bounds_i64 w2
  clear w0 w1 w2
  by_cases hc : a2 = 0
  · subst hc
    have c1 : Hid (∀ w, Calls Try.prog 19 #[.int .i64 a0, .int .i64 a1, .int .i64 0] w fun e w' => e = .returned (.tuple #[.int .i64 0, .int .i64 22]) ∧ w = w') := fun w => by
      have h := mulDiv_any a0 a1 0 w l0 g0 l1 g1 (by omega) (by omega)
      rw [show mdQ a0 a1 0 = 0 by simp [mdQ], show mdE a0 a1 0 = 22 by simp [mdE]] at h
      exact h
    go_enter Try.func11, Try.ntmps11
    go_wp2_with fail
    refine (c1.out _).mono ?_; rintro e w1 ⟨rfl, rfl⟩
    go_wp2_with fail
    refine (alive_any _).mono ?_; rintro e w1 ⟨rfl, hb⟩
    go_wp2_with fail
    go_ret
    exact ⟨rfl, hb⟩
  · have hc' : (a2 == 0) = false := by simpa using hc
    have c1 : Hid (∀ w, Calls Try.prog 19 #[.int .i64 a0, .int .i64 a2, .int .i64 a2] w fun e w' => e = .returned (.tuple #[.int .i64 a0, .int .i64 0]) ∧ w = w') := fun w => by
      have h := mulDiv_any a0 a2 a2 w l0 g0 l2 g2 l2 g2
      rw [(ex_back a0 a2 l0 g0 hc).1, (ex_back a0 a2 l0 g0 hc).2] at h
      exact h
    have c2 : Hid (∀ w, Calls Try.prog 19 #[.int .i64 a0, .int .i64 1, .int .i64 a2] w fun e w' => e = .returned (.tuple #[.int .i64 (divQ a0 a2), .int .i64 (divE a0 a2)]) ∧ w = w') := fun w => by
      have h := mulDiv_any a0 1 a2 w l0 g0 (by omega) (by omega) l2 g2
      rw [(ex_floor a0 a2 l0 g0 l2 g2 hc).1, (ex_floor a0 a2 l0 g0 l2 g2 hc).2] at h
      exact h
    have c3 := Lib.hid (fun w => floor_any a0 a2 w l0 g0 l2 g2)
    have HC := Lib.hid hc
    by_cases hr : -2147483648 ≤ a0 ∧ a0 ≤ 2147483648 ∧ -2147483648 ≤ a1 ∧ a1 ≤ 2147483648
    · obtain ⟨r1, r2, r3, r4⟩ := hr
      obtain ⟨x1, x2, x3, x4, x5, x6⟩ := ex_rest a0 a1 a2 r1 r2 r3 r4 hc
      have sg := Lib.hid (fmod_sign (a0 * a1) a2 hc)
      obtain ⟨s, hs⟩ : ∃ s, mdQ a0 a1 a2 = s := ⟨_, rfl⟩
      obtain ⟨m, hm⟩ : ∃ m, (a0 * a1).fmod a2 = m := ⟨_, rfl⟩
      rw [hs] at x2 x3 x4
      rw [hm] at x4 sg
      have c4 : Hid (∀ w, Calls Try.prog 19 #[.int .i64 a0, .int .i64 a1, .int .i64 a2] w fun e w' => e = .returned (.tuple #[.int .i64 s, .int .i64 0]) ∧ w = w') := fun w => by
        have h := mulDiv_any a0 a1 a2 w l0 g0 l1 g1 l2 g2
        rw [hs, x1] at h
        exact h
      have y1 : -9223372036854775808 ≤ m := by have := sg.out; omega
      have y2 : m ≤ 9223372036854775807 := by have := sg.out; omega
      have e1 : wrap64 (a0 * a1) = a0 * a1 := IntWalk.wrap64_in _ (by omega)
      have z : wrap64 (a0 * a1 - wrap64 (s * a2)) = m := by
        unfold wrap64; omega
      have z' : IntKind.i64.wrap (a0 * a1 - wrap64 (s * a2)) = m := by rw [IntWalk.i64_left]; exact z
      have z'' : wrap64 (a0 * a1 - s * a2) = m := by rw [x4]; exact IntWalk.wrap64_in _ (by omega)
      have z3 : IntKind.i64.wrap (a0 * a1 - s * a2) = m := by rw [IntWalk.i64_left]; exact z''
      have E1 := Lib.hid e1
      have X4 := Lib.hid x4
      clear hs hm x1 x4 e1 hc
      by_cases hm0 : m = 0
      · have hm' : (m == 0) = true := by simpa using hm0
        have HM := Lib.hid hm0
        clear hm0 sg
        go_enter Try.func11, Try.ntmps11
        go_wp2_with fail
        refine (c1.out _).mono ?_; rintro e w1 ⟨rfl, rfl⟩
        go_wp2_with fail
        refine (c2.out _).mono ?_; rintro e w1 ⟨rfl, rfl⟩
        go_wp2_with fail
        refine (c3.out _).mono ?_; rintro e w1 ⟨rfl, n1, rfl⟩
        go_wp2_with fail
        refine (c4.out _).mono ?_; rintro e w1 ⟨rfl, rfl⟩
        go_wp2_with fail
        refine (alive_any _).mono ?_; rintro e w1 ⟨rfl, hb⟩
        go_wp2_with fail
        go_ret
        exact ⟨rfl, (below_drewN (Below.refl _ _) _).trans hb⟩
      · have hm' : (m == 0) = false := by simpa using hm0
        have HM := Lib.hid hm0
        have sg' : (0 < a2 ∧ 0 < m ∧ m < a2) ∨ (a2 < 0 ∧ m < 0 ∧ a2 < m) := by have := sg.out; omega
        clear hm0 sg
        rcases sg' with ⟨s1, s2, s3⟩ | ⟨s1, s2, s3⟩
        all_goals
          go_enter Try.func11, Try.ntmps11
          go_wp2_with fail
          refine (c1.out _).mono ?_; rintro e w1 ⟨rfl, rfl⟩
          go_wp2_with fail
          refine (c2.out _).mono ?_; rintro e w1 ⟨rfl, rfl⟩
          go_wp2_with fail
          refine (c3.out _).mono ?_; rintro e w1 ⟨rfl, n1, rfl⟩
          go_wp2_with fail
          refine (c4.out _).mono ?_; rintro e w1 ⟨rfl, rfl⟩
          go_wp2_with fail
          refine (alive_any _).mono ?_; rintro e w1 ⟨rfl, hb⟩
          go_wp2_with fail
          go_ret
          exact ⟨rfl, (below_drewN (Below.refl _ _) _).trans hb⟩
    · have hr' : a0 < -2147483648 ∨ (-2147483648 ≤ a0 ∧ 2147483648 < a0) ∨ ((-2147483648 ≤ a0 ∧ a0 ≤ 2147483648) ∧ a1 < -2147483648) ∨ ((-2147483648 ≤ a0 ∧ a0 ≤ 2147483648) ∧ -2147483648 ≤ a1 ∧ 2147483648 < a1) := by omega
      clear hr hc
      rcases hr' with x1 | ⟨x1, x2⟩ | ⟨⟨x1, x2⟩, x3⟩ | ⟨⟨x1, x2⟩, x3, x4⟩
      all_goals
        go_enter Try.func11, Try.ntmps11
        go_wp2_with fail
        refine (c1.out _).mono ?_; rintro e w1 ⟨rfl, rfl⟩
        go_wp2_with fail
        refine (c2.out _).mono ?_; rintro e w1 ⟨rfl, rfl⟩
        go_wp2_with fail
        refine (c3.out _).mono ?_; rintro e w1 ⟨rfl, n1, rfl⟩
        go_wp2_with fail
        refine (alive_any _).mono ?_; rintro e w1 ⟨rfl, hb⟩
        go_wp2_with fail
        go_ret
        exact ⟨rfl, (below_drewN (Below.refl _ _) _).trans hb⟩

/-! ### The row's step -/
set_option maxRecDepth 100000 in
theorem lifted (os : Os) (started : os.Started) (H : Type) (enc : TypeId × Value → H) :
    ReturnsInHanded {} Try.checked os 11 .any (Rows.numExactSpec.pre6 enc Try.prog Try.f11 Rows.numExactRow.domain false) (Rows.numExactSpec.post enc Try.prog Try.f11 false true false false) := by
  refine returnsInHanded_of_change (C := Try.checked) own started (by kernel_rfl) Try.func11
    (ChangeSpec.witness6 (enc := enc) (C := Try.checked) false ⟨#[], #[.int .i64 0, .int .i64 0, .int .i64 0], []⟩ 8 (by kernel_rfl) (by kernel_rfl) (by kernel_rfl) (by kernel_rfl)) ?_
  intro W base args ds gs before hval0 hW hcnd _
  have hval : ∀ (j : Nat) t v, Try.f11.params[j]? = some t → args[j]? = some v → Value.okWide Try.prog W .any base t v := hval0
  have hW' := hW
  obtain ⟨p, q, hA0, hV, rfl, hfz, hnd⟩ := hW
  have hA : DataW.TrodAll enc Try.prog W 0 (fun _ => true) true Try.f11.params.toList args.toList ds p := hA0
  rw [Try.params11] at hA hval
  obtain ⟨v0, vs0, d0, ds0, p0, q0, hargs, rfl, rfl, h0, r0⟩ := trodAll_cons hA
  obtain ⟨v1, vs1, d1, ds1, p1, q1, rfl, rfl, rfl, h1, r1⟩ := trodAll_cons r0
  obtain ⟨v2, vs2, d2, ds2, p2, q2, rfl, rfl, rfl, h2, r2⟩ := trodAll_cons r1
  obtain ⟨rfl, rfl, rfl⟩ := trodAll_nil r2
  obtain rfl : args = #[v0, v1, v2] := by cases args; simp_all
  obtain ⟨rfl, rfl⟩ := trodVars_none hV
  obtain ⟨a0, rfl, rfl, rfl, w0⟩ := open_int Try.underlying3 (hval 0 3 v0 rfl rfl) h0
  obtain ⟨a1, rfl, rfl, rfl, w1⟩ := open_int Try.underlying3 (hval 1 3 v1 rfl rfl) h1
  obtain ⟨a2, rfl, rfl, rfl, w2⟩ := open_int Try.underlying3 (hval 2 3 v2 rfl rfl) h2
  clear hA0 hval0
  simp only [List.append_nil] at hW'
  refine (walk a0 a1 a2 w0 w1 w2 W).mono fun e W' ⟨he, hg⟩ => ?_
  subst he
  exact ⟨_, rfl, _, _, _, [], [], [], hW', (trodAll_cons_mk (shut_bool Try.underlying4 _) trodAll_mk0), (trodAll_cons_mk (shut_int Try.underlying3 w0) (trodAll_cons_mk (shut_int Try.underlying3 w1) (trodAll_cons_mk (shut_int Try.underlying3 w2) trodAll_mk0))), rfl, hg.frame _, fun h => by cases h⟩

theorem over : Rows.numExactRow.holds Try.pinned (OpenSpec.ofChange Rows.numExactSpec) :=
  OpenClaim.holds_of_wide 11 Try.f11 rfl rfl rfl rfl rfl rfl rfl ⟨rfl, rfl, rfl, rfl, rfl⟩ rfl rfl rfl rfl rfl (by kernel_rfl) Try.func11 (by kernel_rfl)
    (of_decide_eq_true (by kernel_rfl)) (by unfold Func.isWrapper; first | (rw [if_pos (by decide +kernel)]; kernel_rfl) | (rw [if_neg (by decide +kernel)]; exact ⟨rfl, rfl⟩))
    (fun os started H enc _ => lifted os started H enc)

/-- The statement. -/
theorem proved : Rows.NumExactSaid :=
  over
#print axioms proved
end Go.Proofs.Ythipgmdjjmgppaa.numExact
