/-
  For all strings a, b and c the law IdentOrders (P4.3, P4.7) returns true and leaves its arguments alone: the natural order is a total order (the law itself asks this of strings of at most 300 bytes). No condition.
-/
import Derived.Test.YthfchgifkalfdaaRows
import Derived.WalkKit
import Derived.ProofKit
import Derived.OpenShut
import Derived.ShutString
import Derived.ChangeOld
import Derived.Below
import Derived.Test.YthfchgifkalfdaaIdTot
namespace Go.Proofs.Ythfchgifkalfdaa.identOrders
open Go.ChangeShapes Go.WideShapes Go.ChangeAt Go.RowKit Go.Proofs.Ythfchgifkalfdaa.Id
open Go.ChangeMaps (open_string shut_string)
set_option linter.unusedVariables false

theorem own : ownKnob Try.prog.godebug = none := by kernel_rfl



/-! ### The walk: the law returns true, and writes nothing that was there. -/
set_option maxRecDepth 100000 in
set_option maxHeartbeats 16000000 in
theorem walk (b0 : ByteArray) (w0 : b0.size ≤ maxLen) (b1 : ByteArray) (w1 : b1.size ≤ maxLen) (b2 : ByteArray) (w2 : b2.size ≤ maxLen) (w : World) :
    Calls Try.prog 7 #[.string b0, .string b1, .string b2] w fun e w' => e = .returned (.bool true) ∧ Below w.heap.size w w' := by
  by_cases ha : 300 < b0.size
  · have ha' : (300 : Int) < (b0.size : Int) := by omega
    clear ha
    go_enter Try.func7, Try.ntmps7
    go_wp2_with fail
    refine (alive_any _).mono ?_; rintro e w1 ⟨rfl, hb⟩
    go_wp2_with fail
    go_ret
    exact ⟨rfl, hb⟩
  · have ha' : (b0.size : Int) ≤ 300 := by omega
    by_cases hb : 300 < b1.size
    · have hb' : (300 : Int) < (b1.size : Int) := by omega
      clear ha hb
      go_enter Try.func7, Try.ntmps7
      go_wp2_with fail
      refine (alive_any _).mono ?_; rintro e w1 ⟨rfl, hb⟩
      go_wp2_with fail
      go_ret
      exact ⟨rfl, hb⟩
    · have hb' : (b1.size : Int) ≤ 300 := by omega
      by_cases hc : 300 < b2.size
      · have hc' : (300 : Int) < (b2.size : Int) := by omega
        clear ha hb hc
        go_enter Try.func7, Try.ntmps7
        go_wp2_with fail
        refine (alive_any _).mono ?_; rintro e w1 ⟨rfl, hb⟩
        go_wp2_with fail
        go_ret
        exact ⟨rfl, hb⟩
      · have hc' : (b2.size : Int) ≤ 300 := by omega
        have c1 := Lib.hid (fun w => compare_any b0 b1 w)
        have c2 := Lib.hid (fun w => compare_any b1 b2 w)
        have c3 := Lib.hid (fun w => compare_any b0 b2 w)
        have c4 := Lib.hid (fun w => compare_any b1 b0 w)
        have c5 := Lib.hid (fun w => compare_any b0 b0 w)
        have hr := nordS_tot.rng b0 b1
        have t1 := Lib.hid (nordS_tot.trans b0 b1 b2)
        have t2 := Lib.hid (nordS_tot.trans b2 b1 b0)
        have a1 := nordS_tot.anti b0 b1
        have a2 := nordS_tot.anti b1 b2
        have a3 := nordS_tot.anti b0 b2
        have hz := nordS_zero b0 b1
        rw [a1] at c4
        rw [nordS_tot.self b0] at c5
        rw [a1, a2, a3] at t2
        obtain ⟨x, hx⟩ : ∃ x, nordS b0 b1 = x := ⟨_, rfl⟩
        obtain ⟨y, hy⟩ : ∃ y, nordS b1 b2 = y := ⟨_, rfl⟩
        obtain ⟨z, hzz⟩ : ∃ z, nordS b0 b2 = z := ⟨_, rfl⟩
        rw [hx] at c1 c4 hr t1 t2 hz
        rw [hy] at c2 t1 t2
        rw [hzz] at c3 t1 t2
        obtain ⟨B, hB⟩ : ∃ B, (b0.toList == b1.toList) = B := ⟨_, rfl⟩
        have hx0 : (x == 0) = B := by rw [← hB]; exact hz
        have x1 : ¬ x < -1 := by omega
        have x2 : ¬ 1 < x := by omega
        have x3 : -1 ≤ x := by omega
        have x4 : x ≤ 1 := by omega
        have x5 : (-x != -x) = false := by simp
        clear ha hb hc a1 a2 a3 hx hy hzz hz hr
        go_enter Try.func7, Try.ntmps7
        go_wp2_with fail
        refine (c1.out _).mono ?_; rintro e w1 ⟨rfl, k1⟩
        go_wp2_with fail
        refine (c2.out _).mono ?_; rintro e w2 ⟨rfl, k2⟩
        have hk2 := stepB k1 k2
        clear k1 k2
        go_wp2_with fail
        refine (c3.out _).mono ?_; rintro e w3 ⟨rfl, k3⟩
        have hk3 := stepB hk2 k3
        clear hk2 k3
        go_wp2_with fail
        refine (c4.out _).mono ?_; rintro e w4 ⟨rfl, k4⟩
        have hk4 := stepB hk3 k4
        clear hk3 k4
        go_wp2_with fail
        refine (c5.out _).mono ?_; rintro e w5 ⟨rfl, k5⟩
        have hk5 := stepB hk4 k5
        clear hk4 k5 c1 c2 c3 c4 c5
        go_wp2_with fail
        all_goals first
          | (exfalso; have q1 := t1.out; have q2 := t2.out; omega)
          | (refine (alive_any _).mono ?_; rintro e w6 ⟨rfl, b6⟩
             go_wp2_with fail
             go_ret
             exact ⟨rfl, stepB hk5 b6⟩)

/-! ### The row's step -/
set_option maxRecDepth 100000 in
theorem lifted (os : Os) (started : os.Started) (H : Type) (enc : TypeId × Value → H) :
    ReturnsInHanded {} Try.checked os 7 .any (Rows.identOrdersSpec.pre6 enc Try.prog Try.f7 Rows.identOrdersRow.domain false) (Rows.identOrdersSpec.post enc Try.prog Try.f7 false true false false) := by
  refine returnsInHanded_of_change (C := Try.checked) own started (by kernel_rfl) Try.func7
    (ChangeSpec.witness6 (enc := enc) (C := Try.checked) false ⟨#[], #[.string ByteArray.empty, .string ByteArray.empty, .string ByteArray.empty], []⟩ 8 (by kernel_rfl) (by kernel_rfl) (by kernel_rfl) (by kernel_rfl)) ?_
  intro W base args ds gs before hval0 hW hcnd _
  have hval : ∀ (j : Nat) t v, Try.f7.params[j]? = some t → args[j]? = some v → Value.okWide Try.prog W .any base t v := hval0
  have hW' := hW
  obtain ⟨p, q, hA0, hV, rfl, hfz, hnd⟩ := hW
  have hA : DataW.TrodAll enc Try.prog W 0 (fun _ => true) true Try.f7.params.toList args.toList ds p := hA0
  rw [Try.params7] at hA hval
  obtain ⟨v0, vs0, d0, ds0, p0, q0, hargs, rfl, rfl, h0, r0⟩ := trodAll_cons hA
  obtain ⟨v1, vs1, d1, ds1, p1, q1, rfl, rfl, rfl, h1, r1⟩ := trodAll_cons r0
  obtain ⟨v2, vs2, d2, ds2, p2, q2, rfl, rfl, rfl, h2, r2⟩ := trodAll_cons r1
  obtain ⟨rfl, rfl, rfl⟩ := trodAll_nil r2
  obtain rfl : args = #[v0, v1, v2] := by cases args; simp_all
  obtain ⟨rfl, rfl⟩ := trodVars_none hV
  obtain ⟨b0, rfl, rfl, rfl, w0⟩ := open_string Try.underlying9 (hval 0 9 v0 rfl rfl) h0
  obtain ⟨b1, rfl, rfl, rfl, w1⟩ := open_string Try.underlying9 (hval 1 9 v1 rfl rfl) h1
  obtain ⟨b2, rfl, rfl, rfl, w2⟩ := open_string Try.underlying9 (hval 2 9 v2 rfl rfl) h2
  clear hA0 hval0
  simp only [List.append_nil] at hW'
  refine (walk b0 w0 b1 w1 b2 w2 W).mono fun e W' ⟨he, hg⟩ => ?_
  subst he
  exact ⟨_, rfl, _, _, _, [], [], [], hW', (trodAll_cons_mk (shut_bool Try.underlying4 _) trodAll_mk0), (trodAll_cons_mk (shut_string Try.underlying9 w0) (trodAll_cons_mk (shut_string Try.underlying9 w1) (trodAll_cons_mk (shut_string Try.underlying9 w2) trodAll_mk0))), rfl, hg.frame _, fun h => by cases h⟩

theorem over : Rows.identOrdersRow.holds Try.pinned (OpenSpec.ofChange Rows.identOrdersSpec) :=
  OpenClaim.holds_of_wide 7 Try.f7 rfl rfl rfl rfl rfl rfl rfl ⟨rfl, rfl, rfl, rfl, rfl⟩ rfl rfl rfl rfl rfl (by kernel_rfl) Try.func7 (by kernel_rfl)
    (of_decide_eq_true (by kernel_rfl)) (by unfold Func.isWrapper; first | (rw [if_pos (by decide +kernel)]; kernel_rfl) | (rw [if_neg (by decide +kernel)]; exact ⟨rfl, rfl⟩))
    (fun os started H enc _ => lifted os started H enc)

/-- The statement. -/
theorem proved : Rows.IdentOrdersSaid :=
  over
#print axioms proved
end Go.Proofs.Ythfchgifkalfdaa.identOrders
