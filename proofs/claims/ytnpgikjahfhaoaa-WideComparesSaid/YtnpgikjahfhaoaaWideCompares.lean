/-
  For any two wide numbers the law WideCompares (P2.1) returns true and leaves its arguments alone: Cmp agrees with the reference, and the chapter's numbers come out. No condition.
-/
import Derived.Test.YtnpgikjahfhaoaaRows
import Derived.WalkKit
import Derived.ProofKit
import Derived.OpenShut
import Derived.ShutString
import Derived.ChangeOld
import Derived.Below
import Derived.Test.YtnpgikjahfhaoaaWOpen
import Derived.Test.YtnpgikjahfhaoaaWLaw
import Derived.Test.YtnpgikjahfhaoaaWPlain
import Derived.Test.YtnpgikjahfhaoaaWRef4
import Derived.Test.YtnpgikjahfhaoaaWRef5
import Derived.Test.YtnpgikjahfhaoaaWRef6
import Derived.Test.YtnpgikjahfhaoaaWRef8
import Derived.Test.YtnpgikjahfhaoaaWRef9
import Derived.Test.YtnpgikjahfhaoaaWRText
import Derived.Test.YtnpgikjahfhaoaaWRParse
import Derived.Test.YtnpgikjahfhaoaaWOps2
import Derived.Test.YtnpgikjahfhaoaaWRef2
namespace Go.Proofs.Ytnpgikjahfhaoaa.wideCompares
open Go.ChangeShapes Go.WideShapes Go.ChangeAt Go.RowKit Go.Proofs.WM Go.Proofs.WD Go.Proofs.Reg
open Go.ChangeMaps (open_string shut_string)
set_option linter.unusedVariables false

theorem own : ownKnob Try.prog.godebug = none := by kernel_rfl



/-! ### The walk: the law returns true, and writes nothing that was there. -/
set_option maxRecDepth 100000 in
set_option maxHeartbeats 16000000 in
theorem walk (s0 : Bool) (n0 : Nat) (w0 : n0 < M256) (s1 : Bool) (n1 : Nat) (w1 : n1 < M256) (w : World) :
    Calls Try.prog 4 #[.agg (widL s0 n0), .agg (widL s1 n1)] w (Gives (.bool true) w) := by
  obtain ⟨c, hp, hr⟩ : ∃ c : Int, (∀ w, Calls Try.prog 22 #[.agg (widL s0 n0), .agg (widL s1 n1)] w (Gives (.int .i64 c) w)) ∧ (∀ w, Calls Try.prog 23 #[.agg (widL s0 n0), .agg (widL s1 n1)] w (Gives (.int .i64 c) w)) :=
    ⟨_, fun w => pcmp_wide s0 s1 n0 n1 w w0 w1, fun w => rcmp_any s0 s1 n0 n1 w w0 w1⟩
  go_enter Try.func4, Try.ntmps4
  go_upto_region 1 with fail
  have k2 : Hid (Blk ((w.alloc (.cells (widL s0 n0) 25)).alloc (.cells (widL s1 n1) 25)) (w.heap.size) 25 (widL s0 n0)) := (Blk.new _ _ _).old _
  have k3 : Hid (Blk ((w.alloc (.cells (widL s0 n0) 25)).alloc (.cells (widL s1 n1) 25)) (w.heap.size + 1) 25 (widL s1 n1)) := Blk.newAt (by simp) _ _
  have kW : Below w.heap.size w ((w.alloc (.cells (widL s0 n0) 25)).alloc (.cells (widL s1 n1) 25)) := (((Below.refl _ _).alloc (by simp) _).alloc (by simp <;> omega) _)
  obtain ⟨q2, hg2⟩ : ∃ g, g = w.heap.size := ⟨_, rfl⟩
  obtain ⟨q3, hg3⟩ : ∃ g, g = w.heap.size + 1 := ⟨_, rfl⟩
  rw [← hg3] at k3 ⊢
  rw [← hg2] at k2 ⊢
  have hlow : w.heap.size ≤ q2 := by omega
  have o3 : q2 < q3 := by omega
  clear hg2 hg3
  generalize World.alloc _ _ = wa1 at k2 k3 kW ⊢
  have hG : Keep [(q2, 25, (widL s0 n0)), (q3, 25, (widL s1 n1))] q2 25 (widL s0 n0) (widL s0 n0) w wa1.drew := by
    refine ⟨?_, .inl k2.out.drew, kW.drew⟩
    intro k hk
    simp only [List.mem_cons, List.mem_nil_iff, or_false] at hk
    rcases hk with rfl | rfl
    · exact k2.out.drew
    · exact k3.out.drew
  clear k2 k3 kW
  refine region_kitG (ds := [some 5, some 6, some 7, some 8, some 9, some 10, some 11, some 12, some 13, some 14]) [] [[], [], [0, 1], [], [], [3, 4], [2, 5], [6], [], [7, 8]] (fun i => false) [.is _ 0 (.agg (widL s0 n0)), .is _ 1 (.agg (widL s1 n1)), .is _ 2 (.int .i64 c), .is _ 3 (.agg (widL s0 n0)), .is _ 4 (.agg (widL s1 n1)), .is _ 5 (.int .i64 c), .is _ 6 (.bool true), .is _ 7 (.bool true), .is _ 8 (.bool true), .is _ 9 (.bool true)] (Keep [(q2, 25, (widL s0 n0)), (q3, 25, (widL s1 n1))] (q2) 25 (widL s0 n0) (widL s0 n0) w) follows_mixed (by kernel_rfl) (by kernel_rfl) (by kernel_rfl) (fun _ _ h he => h.ext he (by intro r hr; simp at hr) (by intro r hr; simp at hr) (by intro r hr; simp at hr)) hG ?_ [none, none, none, none, none, none, none, some true, none, none] ⟨fun _ _ h => h, trivial⟩ (Nat.le_of_ble_eq_true rfl) (by kernel_rfl) rfl ?_
  · refine steps_cons ?_ (steps_cons ?_ (steps_cons ?_ (steps_cons ?_ (steps_cons ?_ (steps_cons ?_ (steps_cons ?_ (steps_cons ?_ (steps_cons ?_ (steps_cons ?_ (steps_nil))))))))))
    · exact fun xs wx hG _ => step_row 25 (.tmp 2) rfl (q2) (eval_old (by decide)) 25 (widL s0 n0) _ (hG.rows _ (List.mem_cons_self ..)) under_wide rfl info_wide rfl
    · exact fun xs wx hG _ => step_row 25 (.tmp 3) rfl (q3) (eval_old (by decide)) 25 (widL s1 n1) _ (hG.rows _ (List.mem_cons_of_mem _ (List.mem_cons_self ..))) under_wide rfl info_wide rfl
    · exact fun xs wx hG hF => step_call2 22 (.tmp 5) (.tmp 6) #[25, 25] (.agg (widL s0 n0)) (.agg (widL s1 n1)) rfl ((eval_new (i := 0) (by decide) rfl (by simp)).trans hF.1) ((eval_new (i := 1) (by decide) rfl (by simp)).trans hF.2.1) (by kernel_rfl) (hp wx) (fun e w' h => ⟨_, h.1, rfl, h.2⟩)
    · exact fun xs wx hG _ => step_row 25 (.tmp 2) rfl (q2) (eval_old (by decide)) 25 (widL s0 n0) _ (hG.rows _ (List.mem_cons_self ..)) under_wide rfl info_wide rfl
    · exact fun xs wx hG _ => step_row 25 (.tmp 3) rfl (q3) (eval_old (by decide)) 25 (widL s1 n1) _ (hG.rows _ (List.mem_cons_of_mem _ (List.mem_cons_self ..))) under_wide rfl info_wide rfl
    · exact fun xs wx hG hF => step_call2 23 (.tmp 8) (.tmp 9) #[25, 25] (.agg (widL s0 n0)) (.agg (widL s1 n1)) rfl ((eval_new (i := 3) (by decide) rfl (by simp)).trans hF.1) ((eval_new (i := 4) (by decide) rfl (by simp)).trans hF.2.1) (by kernel_rfl) (hr wx) (fun e w' h => ⟨_, h.1, rfl, h.2⟩)
    · intro xs wx hG hF
      have f2 : xs 2 = (.int .i64 c) := hF.1
      have f5 : xs 5 = (.int .i64 c) := hF.2.1
      exact step_value (.bool true) (w' := wx) (by simp only [fillIn, Act.put, List.setIfInBounds_toArray, List.set_cons_zero, List.set_cons_succ, f2, f5]; go_simp) rfl (Below.refl _ _)
    · intro xs wx hG hF
      have f6 : xs 6 = (.bool true) := hF.1
      exact step_value (.bool true) (w' := wx) (by simp only [fillIn, Act.put, List.setIfInBounds_toArray, List.set_cons_zero, List.set_cons_succ, f6]; go_simp) rfl (Below.refl _ _)
    · exact fun xs wx hG hF => step_call0 21  #[]  rfl  (by kernel_rfl) (awake_any wx) (fun e w' h => ⟨_, h.1, rfl, h.2⟩)
    · intro xs wx hG hF
      have f7 : xs 7 = (.bool true) := hF.1
      have f8 : xs 8 = (.bool true) := hF.2.1
      exact step_value (.bool true) (w' := wx) (by simp only [fillIn, Act.put, List.setIfInBounds_toArray, List.set_cons_zero, List.set_cons_succ, f7, f8]; go_simp) rfl (Below.refl _ _)
  intro xs wx hG hA hF
  obtain ⟨f0, f1, f2, f3, f4, f5, f6, f7, f8, f9, _⟩ := hF
  have f0 : xs 0 = (.agg (widL s0 n0)) := f0
  have f1 : xs 1 = (.agg (widL s1 n1)) := f1
  have f2 : xs 2 = (.int .i64 c) := f2
  have f3 : xs 3 = (.agg (widL s0 n0)) := f3
  have f4 : xs 4 = (.agg (widL s1 n1)) := f4
  have f5 : xs 5 = (.int .i64 c) := f5
  have f6 : xs 6 = (.bool true) := f6
  have f7 : xs 7 = (.bool true) := f7
  have f8 : xs 8 = (.bool true) := f8
  have f9 : xs 9 = (.bool true) := f9
  simp only [fillIn, Act.put, List.setIfInBounds_toArray, List.set_cons_zero, List.set_cons_succ, f0, f1, f2, f3, f4, f5, f6, f7, f8, f9, List.drop_succ_cons, List.drop_zero, List.length_cons, List.length_nil]
  obtain ⟨_, _, kW⟩ := hG
  go_wp2
  go_ret
  exact ⟨rfl, kW⟩

/-! ### The row's step -/
set_option maxRecDepth 100000 in
theorem lifted (os : Os) (started : os.Started) (H : Type) (enc : TypeId × Value → H) :
    ReturnsInHanded {} Try.checked os 4 .any (Rows.wideComparesSpec.pre6 enc Try.prog Try.f4 Rows.wideComparesRow.domain false) (Rows.wideComparesSpec.post enc Try.prog Try.f4 false true false false) := by
  refine returnsInHanded_of_change (C := Try.checked) own started (by kernel_rfl) Try.func4
    (ChangeSpec.witness6 (enc := enc) (C := Try.checked) false ⟨#[], #[.agg #[.bool false, .int .u64 0, .int .u64 0, .int .u64 0, .int .u64 0], .agg #[.bool false, .int .u64 0, .int .u64 0, .int .u64 0, .int .u64 0]], []⟩ 8 (by kernel_rfl) (by kernel_rfl) (by kernel_rfl) (by kernel_rfl)) ?_
  intro W base args ds gs before hval0 hW hcnd _
  have hval : ∀ (j : Nat) t v, Try.f4.params[j]? = some t → args[j]? = some v → Value.okWide Try.prog W .any base t v := hval0
  have hW' := hW
  obtain ⟨p, q, hA0, hV, rfl, hfz, hnd⟩ := hW
  have hA : DataW.TrodAll enc Try.prog W 0 (fun _ => true) true Try.f4.params.toList args.toList ds p := hA0
  rw [Try.params4] at hA hval
  obtain ⟨v0, vs0, d0, ds0, p0, q0, hargs, rfl, rfl, h0, r0⟩ := trodAll_cons hA
  obtain ⟨v1, vs1, d1, ds1, p1, q1, rfl, rfl, rfl, h1, r1⟩ := trodAll_cons r0
  obtain ⟨rfl, rfl, rfl⟩ := trodAll_nil r1
  obtain rfl : args = #[v0, v1] := by cases args; simp_all
  obtain ⟨rfl, rfl⟩ := trodVars_none hV
  obtain ⟨s0, n0, rfl, rfl, rfl, w0⟩ := open_wide (hval 0 25 v0 rfl rfl) h0
  obtain ⟨s1, n1, rfl, rfl, rfl, w1⟩ := open_wide (hval 1 25 v1 rfl rfl) h1
  clear hA0 hval0
  simp only [List.append_nil] at hW'
  refine (walk s0 n0 w0 s1 n1 w1 W).mono fun e W' ⟨he, hg⟩ => ?_
  subst he
  exact ⟨_, rfl, _, _, _, [], [], [], hW', (trodAll_cons_mk (shut_bool Try.underlying4 _) trodAll_mk0), (trodAll_cons_mk (shut_wide s0 n0) (trodAll_cons_mk (shut_wide s1 n1) trodAll_mk0)), rfl, hg.frame _, fun h => by cases h⟩

theorem over : Rows.wideComparesRow.holds Try.pinned (OpenSpec.ofChange Rows.wideComparesSpec) :=
  OpenClaim.holds_of_wide 4 Try.f4 rfl rfl rfl rfl rfl rfl rfl ⟨rfl, rfl, rfl, rfl, rfl⟩ rfl rfl rfl rfl rfl (by kernel_rfl) Try.func4 (by kernel_rfl)
    (of_decide_eq_true (by kernel_rfl)) (by unfold Func.isWrapper; first | (rw [if_pos (by decide +kernel)]; kernel_rfl) | (rw [if_neg (by decide +kernel)]; exact ⟨rfl, rfl⟩))
    (fun os started H enc _ => lifted os started H enc)

/-- The statement. -/
theorem proved : Rows.WideComparesSaid :=
  over
#print axioms proved
end Go.Proofs.Ytnpgikjahfhaoaa.wideCompares
