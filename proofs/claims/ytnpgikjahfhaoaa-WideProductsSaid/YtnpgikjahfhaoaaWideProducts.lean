/-
  For any two wide numbers the law WideProducts (P2.2) returns true and leaves its arguments alone: Mul agrees with the reference, and the chapter's numbers come out. No condition.
-/
import Derived.Test.YtnpgikjahfhaoaaRows
import Derived.WalkKit
import Derived.ProofKit
import Derived.OpenShut
import Derived.ShutString
import Derived.ChangeOld
import Derived.Below
import Derived.Test.YtnpgikjahfhaoaaWOpen
import Derived.Test.YtnpgikjahfhaoaaWLaw
import Derived.Test.YtnpgikjahfhaoaaWPlain
import Derived.Test.YtnpgikjahfhaoaaWRef4
import Derived.Test.YtnpgikjahfhaoaaWRef5
import Derived.Test.YtnpgikjahfhaoaaWRef6
import Derived.Test.YtnpgikjahfhaoaaWRef8
import Derived.Test.YtnpgikjahfhaoaaWRef9
import Derived.Test.YtnpgikjahfhaoaaWRText
import Derived.Test.YtnpgikjahfhaoaaWRParse
import Derived.Test.YtnpgikjahfhaoaaWOps2
import Derived.Test.YtnpgikjahfhaoaaWRef2
namespace Go.Proofs.Ytnpgikjahfhaoaa.wideProducts
open Go.ChangeShapes Go.WideShapes Go.ChangeAt Go.RowKit Go.Proofs.WM Go.Proofs.WD Go.Proofs.Reg
open Go.ChangeMaps (open_string shut_string)
set_option linter.unusedVariables false

theorem own : ownKnob Try.prog.godebug = none := by kernel_rfl



/-! ### The walk: the law returns true, and writes nothing that was there. -/
set_option maxRecDepth 100000 in
set_option maxHeartbeats 16000000 in
theorem walk (s0 : Bool) (n0 : Nat) (w0 : n0 < M256) (s1 : Bool) (n1 : Nat) (w1 : n1 < M256) (w : World) :
    Calls Try.prog 6 #[.agg (widL s0 n0), .agg (widL s1 n1)] w (Gives (.bool true) w) := by
  obtain ⟨S1, N1, E1, h1, l1N, -⟩ := mulV_ex s0 n0 s1 n1
  have p1 := fun w => pmul_wide s0 s1 n0 n1 w w0 w1
  have r1 := fun w => rmul_any s0 s1 n0 n1 w w0 w1
  rw [h1] at p1 r1
  clear h1
  have e1 := fun wx => eq_self S1 N1 l1N wx
  clear w0 w1 l1N
  go_enter Try.func6, Try.ntmps6
  go_upto_region 1 with fail
  have k2 : Hid (Blk ((w.alloc (.cells (widL s0 n0) 25)).alloc (.cells (widL s1 n1) 25)) (w.heap.size) 25 (widL s0 n0)) := (Blk.new _ _ _).old _
  have k3 : Hid (Blk ((w.alloc (.cells (widL s0 n0) 25)).alloc (.cells (widL s1 n1) 25)) (w.heap.size + 1) 25 (widL s1 n1)) := Blk.newAt (by simp) _ _
  have kW : Below w.heap.size w ((w.alloc (.cells (widL s0 n0) 25)).alloc (.cells (widL s1 n1) 25)) := (((Below.refl _ _).alloc (by simp) _).alloc (by simp <;> omega) _)
  obtain ⟨q2, hg2⟩ : ∃ g, g = w.heap.size := ⟨_, rfl⟩
  obtain ⟨q3, hg3⟩ : ∃ g, g = w.heap.size + 1 := ⟨_, rfl⟩
  rw [← hg3] at k3 ⊢
  rw [← hg2] at k2 ⊢
  have hlow : w.heap.size ≤ q2 := by omega
  have o3 : q2 < q3 := by omega
  clear hg2 hg3
  generalize World.alloc _ _ = wa1 at k2 k3 kW ⊢
  go_wp2_with (first | (refine lda 25 (.tmp 2) rfl rfl ?_; refine ldb q2 25 _ _ k2.out rfl under_wide rfl info_wide ?_) | (refine lda 25 (.tmp 3) rfl rfl ?_; refine ldb q3 25 _ _ k3.out rfl under_wide rfl info_wide ?_) | (refine ldga 25 (.tmp 2) rfl rfl ?_; refine ldgb q2 25 _ _ k2.out rfl under_wide rfl info_wide ?_) | (refine ldga 25 (.tmp 3) rfl rfl ?_; refine ldgb q3 25 _ _ k3.out rfl under_wide rfl info_wide ?_))
  refine (p1 _).mono ?_
  rintro e wc2 ⟨rfl, hb⟩
  replace k2 := Lib.hid (k2.out.below hb)
  replace k3 := Lib.hid (k3.out.below hb)
  replace kW := kW.trans (hb.mono kW.size)
  clear hb
  have l2 := k2.out.lt
  have l3 := k3.out.lt
  have z5 : Hid (Blk (wc2.alloc (.cells wid0 25)) (wc2.heap.size) 25 wid0) := (Blk.new _ _ _ : Blk (wc2.alloc (.cells wid0 25)) wc2.heap.size 25 wid0)
  have k5 : Hid (Blk ((wc2.alloc (.cells wid0 25)).setRow (wc2.heap.size) (widL S1 N1)) (wc2.heap.size) 25 (widL S1 N1)) := (z5.out.row (widL S1 N1))
  replace k2 := Lib.hid ((k2.out.old (.cells wid0 25)).rowOther (k := wc2.heap.size) (by omega) (widL S1 N1))
  replace k3 := Lib.hid ((k3.out.old (.cells wid0 25)).rowOther (k := wc2.heap.size) (by omega) (widL S1 N1))
  replace kW := (below_row (kW.alloc (by first | exact kW.size | (simp; have := kW.size; omega)) (.cells wid0 25)) (g := wc2.heap.size) (by have := kW.size; omega) (widL S1 N1))
  go_wp2_with (first | (refine sta 25 (.tmp 5) (.tmp 13) rfl rfl ?_; refine stb (wc2.heap.size) (widL S1 N1) 25 _ z5.out rfl rfl info_wide rfl (widF_ones _ (wd N1)) ?_) | (refine lda 25 (.tmp 2) rfl rfl ?_; refine ldb q2 25 _ _ k2.out rfl under_wide rfl info_wide ?_) | (refine lda 25 (.tmp 3) rfl rfl ?_; refine ldb q3 25 _ _ k3.out rfl under_wide rfl info_wide ?_) | (refine lda 25 (.tmp 5) rfl rfl ?_; refine ldb (wc2.heap.size) 25 _ _ k5.out rfl under_wide rfl info_wide ?_) | (refine ldga 25 (.tmp 2) rfl rfl ?_; refine ldgb q2 25 _ _ k2.out rfl under_wide rfl info_wide ?_) | (refine ldga 25 (.tmp 3) rfl rfl ?_; refine ldgb q3 25 _ _ k3.out rfl under_wide rfl info_wide ?_) | (refine ldga 25 (.tmp 5) rfl rfl ?_; refine ldgb (wc2.heap.size) 25 _ _ k5.out rfl under_wide rfl info_wide ?_))
  clear z5 l2 l3
  generalize wc2.heap.size = q5 at k2 k3 k5 kW ⊢
  generalize World.setRow _ _ _ = wa3 at k2 k3 k5 kW ⊢
  refine (r1 _).mono ?_
  rintro e wc4 ⟨rfl, hb⟩
  replace k2 := Lib.hid (k2.out.below hb)
  replace k3 := Lib.hid (k3.out.below hb)
  replace k5 := Lib.hid (k5.out.below hb)
  replace kW := kW.trans (hb.mono kW.size)
  clear hb
  have l2 := k2.out.lt
  have l3 := k3.out.lt
  have l5 := k5.out.lt
  have z7 : Hid (Blk (wc4.alloc (.cells wid0 25)) (wc4.heap.size) 25 wid0) := (Blk.new _ _ _ : Blk (wc4.alloc (.cells wid0 25)) wc4.heap.size 25 wid0)
  have k7 : Hid (Blk ((wc4.alloc (.cells wid0 25)).setRow (wc4.heap.size) (widL S1 N1)) (wc4.heap.size) 25 (widL S1 N1)) := (z7.out.row (widL S1 N1))
  replace k2 := Lib.hid ((k2.out.old (.cells wid0 25)).rowOther (k := wc4.heap.size) (by omega) (widL S1 N1))
  replace k3 := Lib.hid ((k3.out.old (.cells wid0 25)).rowOther (k := wc4.heap.size) (by omega) (widL S1 N1))
  replace k5 := Lib.hid ((k5.out.old (.cells wid0 25)).rowOther (k := wc4.heap.size) (by omega) (widL S1 N1))
  replace kW := (below_row (kW.alloc (by first | exact kW.size | (simp; have := kW.size; omega)) (.cells wid0 25)) (g := wc4.heap.size) (by have := kW.size; omega) (widL S1 N1))
  go_wp2_with (first | (refine sta 25 (.tmp 7) (.tmp 19) rfl rfl ?_; refine stb (wc4.heap.size) (widL S1 N1) 25 _ z7.out rfl rfl info_wide rfl (widF_ones _ (wd N1)) ?_) | (refine lda 25 (.tmp 2) rfl rfl ?_; refine ldb q2 25 _ _ k2.out rfl under_wide rfl info_wide ?_) | (refine lda 25 (.tmp 3) rfl rfl ?_; refine ldb q3 25 _ _ k3.out rfl under_wide rfl info_wide ?_) | (refine lda 25 (.tmp 5) rfl rfl ?_; refine ldb q5 25 _ _ k5.out rfl under_wide rfl info_wide ?_) | (refine lda 25 (.tmp 7) rfl rfl ?_; refine ldb (wc4.heap.size) 25 _ _ k7.out rfl under_wide rfl info_wide ?_) | (refine ldga 25 (.tmp 2) rfl rfl ?_; refine ldgb q2 25 _ _ k2.out rfl under_wide rfl info_wide ?_) | (refine ldga 25 (.tmp 3) rfl rfl ?_; refine ldgb q3 25 _ _ k3.out rfl under_wide rfl info_wide ?_) | (refine ldga 25 (.tmp 5) rfl rfl ?_; refine ldgb q5 25 _ _ k5.out rfl under_wide rfl info_wide ?_) | (refine ldga 25 (.tmp 7) rfl rfl ?_; refine ldgb (wc4.heap.size) 25 _ _ k7.out rfl under_wide rfl info_wide ?_))
  clear z7 l2 l3 l5
  generalize wc4.heap.size = q7 at k2 k3 k5 k7 kW ⊢
  generalize World.setRow _ _ _ = wa5 at k2 k3 k5 k7 kW ⊢
  refine (awake_any _).mono ?_
  rintro e wc6 ⟨rfl, hb⟩
  replace k2 := Lib.hid (k2.out.below hb)
  replace k3 := Lib.hid (k3.out.below hb)
  replace k5 := Lib.hid (k5.out.below hb)
  replace k7 := Lib.hid (k7.out.below hb)
  replace kW := kW.trans (hb.mono kW.size)
  clear hb
  go_wp2_with fail
  go_ret
  exact ⟨rfl, kW⟩

/-! ### The row's step -/
set_option maxRecDepth 100000 in
theorem lifted (os : Os) (started : os.Started) (H : Type) (enc : TypeId × Value → H) :
    ReturnsInHanded {} Try.checked os 6 .any (Rows.wideProductsSpec.pre6 enc Try.prog Try.f6 Rows.wideProductsRow.domain false) (Rows.wideProductsSpec.post enc Try.prog Try.f6 false true false false) := by
  refine returnsInHanded_of_change (C := Try.checked) own started (by kernel_rfl) Try.func6
    (ChangeSpec.witness6 (enc := enc) (C := Try.checked) false ⟨#[], #[.agg #[.bool false, .int .u64 0, .int .u64 0, .int .u64 0, .int .u64 0], .agg #[.bool false, .int .u64 0, .int .u64 0, .int .u64 0, .int .u64 0]], []⟩ 8 (by kernel_rfl) (by kernel_rfl) (by kernel_rfl) (by kernel_rfl)) ?_
  intro W base args ds gs before hval0 hW hcnd _
  have hval : ∀ (j : Nat) t v, Try.f6.params[j]? = some t → args[j]? = some v → Value.okWide Try.prog W .any base t v := hval0
  have hW' := hW
  obtain ⟨p, q, hA0, hV, rfl, hfz, hnd⟩ := hW
  have hA : DataW.TrodAll enc Try.prog W 0 (fun _ => true) true Try.f6.params.toList args.toList ds p := hA0
  rw [Try.params6] at hA hval
  obtain ⟨v0, vs0, d0, ds0, p0, q0, hargs, rfl, rfl, h0, r0⟩ := trodAll_cons hA
  obtain ⟨v1, vs1, d1, ds1, p1, q1, rfl, rfl, rfl, h1, r1⟩ := trodAll_cons r0
  obtain ⟨rfl, rfl, rfl⟩ := trodAll_nil r1
  obtain rfl : args = #[v0, v1] := by cases args; simp_all
  obtain ⟨rfl, rfl⟩ := trodVars_none hV
  obtain ⟨s0, n0, rfl, rfl, rfl, w0⟩ := open_wide (hval 0 25 v0 rfl rfl) h0
  obtain ⟨s1, n1, rfl, rfl, rfl, w1⟩ := open_wide (hval 1 25 v1 rfl rfl) h1
  clear hA0 hval0
  simp only [List.append_nil] at hW'
  refine (walk s0 n0 w0 s1 n1 w1 W).mono fun e W' ⟨he, hg⟩ => ?_
  subst he
  exact ⟨_, rfl, _, _, _, [], [], [], hW', (trodAll_cons_mk (shut_bool Try.underlying4 _) trodAll_mk0), (trodAll_cons_mk (shut_wide s0 n0) (trodAll_cons_mk (shut_wide s1 n1) trodAll_mk0)), rfl, hg.frame _, fun h => by cases h⟩

theorem over : Rows.wideProductsRow.holds Try.pinned (OpenSpec.ofChange Rows.wideProductsSpec) :=
  OpenClaim.holds_of_wide 6 Try.f6 rfl rfl rfl rfl rfl rfl rfl ⟨rfl, rfl, rfl, rfl, rfl⟩ rfl rfl rfl rfl rfl (by kernel_rfl) Try.func6 (by kernel_rfl)
    (of_decide_eq_true (by kernel_rfl)) (by unfold Func.isWrapper; first | (rw [if_pos (by decide +kernel)]; kernel_rfl) | (rw [if_neg (by decide +kernel)]; exact ⟨rfl, rfl⟩))
    (fun os started H enc _ => lifted os started H enc)

/-- The statement. -/
theorem proved : Rows.WideProductsSaid :=
  over
#print axioms proved
end Go.Proofs.Ytnpgikjahfhaoaa.wideProducts
