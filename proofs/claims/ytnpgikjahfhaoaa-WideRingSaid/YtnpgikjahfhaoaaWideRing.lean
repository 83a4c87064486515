/-
  For any three wide numbers the law WideRing (P2.6) returns true and leaves its arguments alone: sums and products do not depend on the order, products distribute over sums, and Sub undoes Add, wherever nothing overflows. No condition.
-/
import Derived.Test.YtnpgikjahfhaoaaRows
import Derived.WalkKit
import Derived.ProofKit
import Derived.OpenShut
import Derived.ShutString
import Derived.ChangeOld
import Derived.Below
import Derived.Test.YtnpgikjahfhaoaaWOpen
import Derived.Test.YtnpgikjahfhaoaaWLaw
import Derived.Test.YtnpgikjahfhaoaaWPlain
import Derived.Test.YtnpgikjahfhaoaaWOps2
import Derived.Test.YtnpgikjahfhaoaaWInt
import Derived.Test.YtnpgikjahfhaoaaWText
import Derived.Test.YtnpgikjahfhaoaaWParse
namespace Go.Proofs.Ytnpgikjahfhaoaa.wideRing
open Go.ChangeShapes Go.WideShapes Go.ChangeAt Go.RowKit Go.Proofs.WM Go.Proofs.WD Go.Proofs.Reg
open Go.ChangeMaps (open_string shut_string)
set_option linter.unusedVariables false

theorem own : ownKnob Try.prog.godebug = none := by kernel_rfl



/-! ### The walk: the law returns true, and writes nothing that was there. -/
set_option maxRecDepth 100000 in
set_option maxHeartbeats 16000000 in
theorem walk (s0 : Bool) (n0 : Nat) (w0 : n0 < M256) (s1 : Bool) (n1 : Nat) (w1 : n1 < M256) (s2 : Bool) (n2 : Nat) (w2 : n2 < M256) (w : World) :
    Calls Try.prog 10 #[.agg (widL s0 n0), .agg (widL s1 n1), .agg (widL s2 n2)] w (Gives (.bool true) w) := by
  obtain ⟨X, NX, EX, hx⟩ := res_ex (wv s0 n0 + wv s1 n1)
  obtain ⟨P, NP, EP, hp⟩ := res_ex (wv s0 n0 * wv s1 n1)
  have c1 := fun w => add_res s0 s1 n0 n1 w0 w1 hx w
  have c2 := fun w => add_res s1 s0 n1 n0 w1 w0 (by rw [Int.add_comm]; exact hx) w
  have c3 := fun w => mul_res s0 s1 n0 n1 w0 w1 hp w
  have c4 := fun w => mul_res s1 s0 n1 n0 w1 w0 (by rw [Int.mul_comm]; exact hp) w
  have lX := hx.lt
  have eX := fun wx => eq_self X NX hx.lt wx
  have eP := fun wx => eq_self P NP hp.lt wx
  have HX := Lib.hid hx
  have LX := Lib.hid lX
  have W0 := Lib.hid w0
  have W1 := Lib.hid w1
  have W2 := Lib.hid w2
  clear hx hp lX w0 w1 w2
  go_enter Try.func10, Try.ntmps10
  go_upto_region 1 with fail
  have k3 : Hid (Blk (((w.alloc (.cells (widL s0 n0) 25)).alloc (.cells (widL s1 n1) 25)).alloc (.cells (widL s2 n2) 25)) (w.heap.size) 25 (widL s0 n0)) := ((Blk.new _ _ _).old _).old _
  have k4 : Hid (Blk (((w.alloc (.cells (widL s0 n0) 25)).alloc (.cells (widL s1 n1) 25)).alloc (.cells (widL s2 n2) 25)) (w.heap.size + 1) 25 (widL s1 n1)) := (Blk.newAt (by simp) _ _).old _
  have k5 : Hid (Blk (((w.alloc (.cells (widL s0 n0) 25)).alloc (.cells (widL s1 n1) 25)).alloc (.cells (widL s2 n2) 25)) (w.heap.size + 1 + 1) 25 (widL s2 n2)) := Blk.newAt (by simp) _ _
  have kW : Below w.heap.size w (((w.alloc (.cells (widL s0 n0) 25)).alloc (.cells (widL s1 n1) 25)).alloc (.cells (widL s2 n2) 25)) := ((((Below.refl _ _).alloc (by simp) _).alloc (by simp <;> omega) _).alloc (by simp <;> omega) _)
  obtain ⟨q3, hg3⟩ : ∃ g, g = w.heap.size := ⟨_, rfl⟩
  obtain ⟨q4, hg4⟩ : ∃ g, g = w.heap.size + 1 := ⟨_, rfl⟩
  obtain ⟨q5, hg5⟩ : ∃ g, g = w.heap.size + 1 + 1 := ⟨_, rfl⟩
  rw [← hg5] at k5 ⊢
  rw [← hg4] at k4 ⊢
  rw [← hg3] at k3 ⊢
  have hlow : w.heap.size ≤ q3 := by omega
  have o4 : q3 < q4 := by omega
  have o5 : q4 < q5 := by omega
  clear hg3 hg4 hg5
  generalize World.alloc _ _ = wa1 at k3 k4 k5 kW ⊢
  go_wp2_with (first | (refine lda 25 (.tmp 3) rfl rfl ?_; refine ldb q3 25 _ _ k3.out rfl under_wide rfl info_wide ?_) | (refine lda 25 (.tmp 4) rfl rfl ?_; refine ldb q4 25 _ _ k4.out rfl under_wide rfl info_wide ?_) | (refine lda 25 (.tmp 5) rfl rfl ?_; refine ldb q5 25 _ _ k5.out rfl under_wide rfl info_wide ?_) | (refine ldga 25 (.tmp 3) rfl rfl ?_; refine ldgb q3 25 _ _ k3.out rfl under_wide rfl info_wide ?_) | (refine ldga 25 (.tmp 4) rfl rfl ?_; refine ldgb q4 25 _ _ k4.out rfl under_wide rfl info_wide ?_) | (refine ldga 25 (.tmp 5) rfl rfl ?_; refine ldgb q5 25 _ _ k5.out rfl under_wide rfl info_wide ?_))
  refine (c1 _).mono ?_
  rintro e wc2 ⟨rfl, hb⟩
  replace k3 := Lib.hid (k3.out.below hb)
  replace k4 := Lib.hid (k4.out.below hb)
  replace k5 := Lib.hid (k5.out.below hb)
  replace kW := kW.trans (hb.mono kW.size)
  clear hb
  have l3 := k3.out.lt
  have l4 := k4.out.lt
  have l5 := k5.out.lt
  have z7 : Hid (Blk (wc2.alloc (.cells wid0 25)) (wc2.heap.size) 25 wid0) := (Blk.new _ _ _ : Blk (wc2.alloc (.cells wid0 25)) wc2.heap.size 25 wid0)
  have k7 : Hid (Blk ((wc2.alloc (.cells wid0 25)).setRow (wc2.heap.size) (widL X NX)) (wc2.heap.size) 25 (widL X NX)) := (z7.out.row (widL X NX))
  replace k3 := Lib.hid ((k3.out.old (.cells wid0 25)).rowOther (k := wc2.heap.size) (by omega) (widL X NX))
  replace k4 := Lib.hid ((k4.out.old (.cells wid0 25)).rowOther (k := wc2.heap.size) (by omega) (widL X NX))
  replace k5 := Lib.hid ((k5.out.old (.cells wid0 25)).rowOther (k := wc2.heap.size) (by omega) (widL X NX))
  replace kW := (below_row (kW.alloc (by first | exact kW.size | (simp; have := kW.size; omega)) (.cells wid0 25)) (g := wc2.heap.size) (by have := kW.size; omega) (widL X NX))
  go_wp2_with (first | (refine sta 25 (.tmp 7) (.tmp 35) rfl rfl ?_; refine stb (wc2.heap.size) (widL X NX) 25 _ z7.out rfl rfl info_wide rfl (widF_ones _ (wd NX)) ?_) | (refine lda 25 (.tmp 3) rfl rfl ?_; refine ldb q3 25 _ _ k3.out rfl under_wide rfl info_wide ?_) | (refine lda 25 (.tmp 4) rfl rfl ?_; refine ldb q4 25 _ _ k4.out rfl under_wide rfl info_wide ?_) | (refine lda 25 (.tmp 5) rfl rfl ?_; refine ldb q5 25 _ _ k5.out rfl under_wide rfl info_wide ?_) | (refine lda 25 (.tmp 7) rfl rfl ?_; refine ldb (wc2.heap.size) 25 _ _ k7.out rfl under_wide rfl info_wide ?_) | (refine ldga 25 (.tmp 3) rfl rfl ?_; refine ldgb q3 25 _ _ k3.out rfl under_wide rfl info_wide ?_) | (refine ldga 25 (.tmp 4) rfl rfl ?_; refine ldgb q4 25 _ _ k4.out rfl under_wide rfl info_wide ?_) | (refine ldga 25 (.tmp 5) rfl rfl ?_; refine ldgb q5 25 _ _ k5.out rfl under_wide rfl info_wide ?_) | (refine ldga 25 (.tmp 7) rfl rfl ?_; refine ldgb (wc2.heap.size) 25 _ _ k7.out rfl under_wide rfl info_wide ?_))
  clear z7 l3 l4 l5
  generalize wc2.heap.size = q7 at k3 k4 k5 k7 kW ⊢
  generalize World.setRow _ _ _ = wa3 at k3 k4 k5 k7 kW ⊢
  refine (c2 _).mono ?_
  rintro e wc4 ⟨rfl, hb⟩
  replace k3 := Lib.hid (k3.out.below hb)
  replace k4 := Lib.hid (k4.out.below hb)
  replace k5 := Lib.hid (k5.out.below hb)
  replace k7 := Lib.hid (k7.out.below hb)
  replace kW := kW.trans (hb.mono kW.size)
  clear hb
  have l3 := k3.out.lt
  have l4 := k4.out.lt
  have l5 := k5.out.lt
  have l7 := k7.out.lt
  have z9 : Hid (Blk (wc4.alloc (.cells wid0 25)) (wc4.heap.size) 25 wid0) := (Blk.new _ _ _ : Blk (wc4.alloc (.cells wid0 25)) wc4.heap.size 25 wid0)
  have k9 : Hid (Blk ((wc4.alloc (.cells wid0 25)).setRow (wc4.heap.size) (widL X NX)) (wc4.heap.size) 25 (widL X NX)) := (z9.out.row (widL X NX))
  replace k3 := Lib.hid ((k3.out.old (.cells wid0 25)).rowOther (k := wc4.heap.size) (by omega) (widL X NX))
  replace k4 := Lib.hid ((k4.out.old (.cells wid0 25)).rowOther (k := wc4.heap.size) (by omega) (widL X NX))
  replace k5 := Lib.hid ((k5.out.old (.cells wid0 25)).rowOther (k := wc4.heap.size) (by omega) (widL X NX))
  replace k7 := Lib.hid ((k7.out.old (.cells wid0 25)).rowOther (k := wc4.heap.size) (by omega) (widL X NX))
  replace kW := (below_row (kW.alloc (by first | exact kW.size | (simp; have := kW.size; omega)) (.cells wid0 25)) (g := wc4.heap.size) (by have := kW.size; omega) (widL X NX))
  go_wp2_with (first | (refine sta 25 (.tmp 9) (.tmp 41) rfl rfl ?_; refine stb (wc4.heap.size) (widL X NX) 25 _ z9.out rfl rfl info_wide rfl (widF_ones _ (wd NX)) ?_) | (refine lda 25 (.tmp 3) rfl rfl ?_; refine ldb q3 25 _ _ k3.out rfl under_wide rfl info_wide ?_) | (refine lda 25 (.tmp 4) rfl rfl ?_; refine ldb q4 25 _ _ k4.out rfl under_wide rfl info_wide ?_) | (refine lda 25 (.tmp 5) rfl rfl ?_; refine ldb q5 25 _ _ k5.out rfl under_wide rfl info_wide ?_) | (refine lda 25 (.tmp 7) rfl rfl ?_; refine ldb q7 25 _ _ k7.out rfl under_wide rfl info_wide ?_) | (refine lda 25 (.tmp 9) rfl rfl ?_; refine ldb (wc4.heap.size) 25 _ _ k9.out rfl under_wide rfl info_wide ?_) | (refine ldga 25 (.tmp 3) rfl rfl ?_; refine ldgb q3 25 _ _ k3.out rfl under_wide rfl info_wide ?_) | (refine ldga 25 (.tmp 4) rfl rfl ?_; refine ldgb q4 25 _ _ k4.out rfl under_wide rfl info_wide ?_) | (refine ldga 25 (.tmp 5) rfl rfl ?_; refine ldgb q5 25 _ _ k5.out rfl under_wide rfl info_wide ?_) | (refine ldga 25 (.tmp 7) rfl rfl ?_; refine ldgb q7 25 _ _ k7.out rfl under_wide rfl info_wide ?_) | (refine ldga 25 (.tmp 9) rfl rfl ?_; refine ldgb (wc4.heap.size) 25 _ _ k9.out rfl under_wide rfl info_wide ?_))
  clear z9 l3 l4 l5 l7
  generalize wc4.heap.size = q9 at k3 k4 k5 k7 k9 kW ⊢
  generalize World.setRow _ _ _ = wa5 at k3 k4 k5 k7 k9 kW ⊢
  refine (c3 _).mono ?_
  rintro e wc6 ⟨rfl, hb⟩
  replace k3 := Lib.hid (k3.out.below hb)
  replace k4 := Lib.hid (k4.out.below hb)
  replace k5 := Lib.hid (k5.out.below hb)
  replace k7 := Lib.hid (k7.out.below hb)
  replace k9 := Lib.hid (k9.out.below hb)
  replace kW := kW.trans (hb.mono kW.size)
  clear hb
  have l3 := k3.out.lt
  have l4 := k4.out.lt
  have l5 := k5.out.lt
  have l7 := k7.out.lt
  have l9 := k9.out.lt
  have z11 : Hid (Blk (wc6.alloc (.cells wid0 25)) (wc6.heap.size) 25 wid0) := (Blk.new _ _ _ : Blk (wc6.alloc (.cells wid0 25)) wc6.heap.size 25 wid0)
  have k11 : Hid (Blk ((wc6.alloc (.cells wid0 25)).setRow (wc6.heap.size) (widL P NP)) (wc6.heap.size) 25 (widL P NP)) := (z11.out.row (widL P NP))
  replace k3 := Lib.hid ((k3.out.old (.cells wid0 25)).rowOther (k := wc6.heap.size) (by omega) (widL P NP))
  replace k4 := Lib.hid ((k4.out.old (.cells wid0 25)).rowOther (k := wc6.heap.size) (by omega) (widL P NP))
  replace k5 := Lib.hid ((k5.out.old (.cells wid0 25)).rowOther (k := wc6.heap.size) (by omega) (widL P NP))
  replace k7 := Lib.hid ((k7.out.old (.cells wid0 25)).rowOther (k := wc6.heap.size) (by omega) (widL P NP))
  replace k9 := Lib.hid ((k9.out.old (.cells wid0 25)).rowOther (k := wc6.heap.size) (by omega) (widL P NP))
  replace kW := (below_row (kW.alloc (by first | exact kW.size | (simp; have := kW.size; omega)) (.cells wid0 25)) (g := wc6.heap.size) (by have := kW.size; omega) (widL P NP))
  go_wp2_with (first | (refine sta 25 (.tmp 11) (.tmp 47) rfl rfl ?_; refine stb (wc6.heap.size) (widL P NP) 25 _ z11.out rfl rfl info_wide rfl (widF_ones _ (wd NP)) ?_) | (refine lda 25 (.tmp 3) rfl rfl ?_; refine ldb q3 25 _ _ k3.out rfl under_wide rfl info_wide ?_) | (refine lda 25 (.tmp 4) rfl rfl ?_; refine ldb q4 25 _ _ k4.out rfl under_wide rfl info_wide ?_) | (refine lda 25 (.tmp 5) rfl rfl ?_; refine ldb q5 25 _ _ k5.out rfl under_wide rfl info_wide ?_) | (refine lda 25 (.tmp 7) rfl rfl ?_; refine ldb q7 25 _ _ k7.out rfl under_wide rfl info_wide ?_) | (refine lda 25 (.tmp 9) rfl rfl ?_; refine ldb q9 25 _ _ k9.out rfl under_wide rfl info_wide ?_) | (refine lda 25 (.tmp 11) rfl rfl ?_; refine ldb (wc6.heap.size) 25 _ _ k11.out rfl under_wide rfl info_wide ?_) | (refine ldga 25 (.tmp 3) rfl rfl ?_; refine ldgb q3 25 _ _ k3.out rfl under_wide rfl info_wide ?_) | (refine ldga 25 (.tmp 4) rfl rfl ?_; refine ldgb q4 25 _ _ k4.out rfl under_wide rfl info_wide ?_) | (refine ldga 25 (.tmp 5) rfl rfl ?_; refine ldgb q5 25 _ _ k5.out rfl under_wide rfl info_wide ?_) | (refine ldga 25 (.tmp 7) rfl rfl ?_; refine ldgb q7 25 _ _ k7.out rfl under_wide rfl info_wide ?_) | (refine ldga 25 (.tmp 9) rfl rfl ?_; refine ldgb q9 25 _ _ k9.out rfl under_wide rfl info_wide ?_) | (refine ldga 25 (.tmp 11) rfl rfl ?_; refine ldgb (wc6.heap.size) 25 _ _ k11.out rfl under_wide rfl info_wide ?_))
  clear z11 l3 l4 l5 l7 l9
  generalize wc6.heap.size = q11 at k3 k4 k5 k7 k9 k11 kW ⊢
  generalize World.setRow _ _ _ = wa7 at k3 k4 k5 k7 k9 k11 kW ⊢
  refine (c4 _).mono ?_
  rintro e wc8 ⟨rfl, hb⟩
  replace k3 := Lib.hid (k3.out.below hb)
  replace k4 := Lib.hid (k4.out.below hb)
  replace k5 := Lib.hid (k5.out.below hb)
  replace k7 := Lib.hid (k7.out.below hb)
  replace k9 := Lib.hid (k9.out.below hb)
  replace k11 := Lib.hid (k11.out.below hb)
  replace kW := kW.trans (hb.mono kW.size)
  clear hb
  rcases HX.out.cases.symm with ⟨hE, -⟩ | ⟨hE, hz, -, -, hwv⟩
  · subst hE
    have l3 := k3.out.lt
    have l4 := k4.out.lt
    have l5 := k5.out.lt
    have l7 := k7.out.lt
    have l9 := k9.out.lt
    have l11 := k11.out.lt
    have z13 : Hid (Blk (wc8.alloc (.cells wid0 25)) (wc8.heap.size) 25 wid0) := (Blk.new _ _ _ : Blk (wc8.alloc (.cells wid0 25)) wc8.heap.size 25 wid0)
    have k13 : Hid (Blk ((wc8.alloc (.cells wid0 25)).setRow (wc8.heap.size) (widL P NP)) (wc8.heap.size) 25 (widL P NP)) := (z13.out.row (widL P NP))
    replace k3 := Lib.hid ((k3.out.old (.cells wid0 25)).rowOther (k := wc8.heap.size) (by omega) (widL P NP))
    replace k4 := Lib.hid ((k4.out.old (.cells wid0 25)).rowOther (k := wc8.heap.size) (by omega) (widL P NP))
    replace k5 := Lib.hid ((k5.out.old (.cells wid0 25)).rowOther (k := wc8.heap.size) (by omega) (widL P NP))
    replace k7 := Lib.hid ((k7.out.old (.cells wid0 25)).rowOther (k := wc8.heap.size) (by omega) (widL P NP))
    replace k9 := Lib.hid ((k9.out.old (.cells wid0 25)).rowOther (k := wc8.heap.size) (by omega) (widL P NP))
    replace k11 := Lib.hid ((k11.out.old (.cells wid0 25)).rowOther (k := wc8.heap.size) (by omega) (widL P NP))
    replace kW := (below_row (kW.alloc (by first | exact kW.size | (simp; have := kW.size; omega)) (.cells wid0 25)) (g := wc8.heap.size) (by have := kW.size; omega) (widL P NP))
    go_wp2_with (first | (refine sta 25 (.tmp 13) (.tmp 53) rfl rfl ?_; refine stb (wc8.heap.size) (widL P NP) 25 _ z13.out rfl rfl info_wide rfl (widF_ones _ (wd NP)) ?_) | (refine lda 25 (.tmp 3) rfl rfl ?_; refine ldb q3 25 _ _ k3.out rfl under_wide rfl info_wide ?_) | (refine lda 25 (.tmp 4) rfl rfl ?_; refine ldb q4 25 _ _ k4.out rfl under_wide rfl info_wide ?_) | (refine lda 25 (.tmp 5) rfl rfl ?_; refine ldb q5 25 _ _ k5.out rfl under_wide rfl info_wide ?_) | (refine lda 25 (.tmp 7) rfl rfl ?_; refine ldb q7 25 _ _ k7.out rfl under_wide rfl info_wide ?_) | (refine lda 25 (.tmp 9) rfl rfl ?_; refine ldb q9 25 _ _ k9.out rfl under_wide rfl info_wide ?_) | (refine lda 25 (.tmp 11) rfl rfl ?_; refine ldb q11 25 _ _ k11.out rfl under_wide rfl info_wide ?_) | (refine lda 25 (.tmp 13) rfl rfl ?_; refine ldb (wc8.heap.size) 25 _ _ k13.out rfl under_wide rfl info_wide ?_) | (refine ldga 25 (.tmp 3) rfl rfl ?_; refine ldgb q3 25 _ _ k3.out rfl under_wide rfl info_wide ?_) | (refine ldga 25 (.tmp 4) rfl rfl ?_; refine ldgb q4 25 _ _ k4.out rfl under_wide rfl info_wide ?_) | (refine ldga 25 (.tmp 5) rfl rfl ?_; refine ldgb q5 25 _ _ k5.out rfl under_wide rfl info_wide ?_) | (refine ldga 25 (.tmp 7) rfl rfl ?_; refine ldgb q7 25 _ _ k7.out rfl under_wide rfl info_wide ?_) | (refine ldga 25 (.tmp 9) rfl rfl ?_; refine ldgb q9 25 _ _ k9.out rfl under_wide rfl info_wide ?_) | (refine ldga 25 (.tmp 11) rfl rfl ?_; refine ldgb q11 25 _ _ k11.out rfl under_wide rfl info_wide ?_) | (refine ldga 25 (.tmp 13) rfl rfl ?_; refine ldgb (wc8.heap.size) 25 _ _ k13.out rfl under_wide rfl info_wide ?_))
    clear z13 l3 l4 l5 l7 l9 l11
    generalize wc8.heap.size = q13 at k3 k4 k5 k7 k9 k11 k13 kW ⊢
    generalize World.setRow _ _ _ = wa9 at k3 k4 k5 k7 k9 k11 k13 kW ⊢
    refine (awake_any _).mono ?_
    rintro e wc10 ⟨rfl, hb⟩
    replace k3 := Lib.hid (k3.out.below hb)
    replace k4 := Lib.hid (k4.out.below hb)
    replace k5 := Lib.hid (k5.out.below hb)
    replace k7 := Lib.hid (k7.out.below hb)
    replace k9 := Lib.hid (k9.out.below hb)
    replace k11 := Lib.hid (k11.out.below hb)
    replace k13 := Lib.hid (k13.out.below hb)
    replace kW := kW.trans (hb.mono kW.size)
    clear hb
    go_wp2_with fail
    go_ret
    exact ⟨rfl, kW⟩
  · subst hE
    obtain ⟨S5, N5, E5, h5⟩ := res_ex (wv X NX - wv s1 n1)
    have c5 := fun w => sub_res X s1 NX n1 LX.out W1.out h5 w
    obtain ⟨k1, k2, k3⟩ := h5.of (s := s0) (n := n0) (by rw [hwv]; omega) W0.out
    rw [k1, k2, k3] at c5
    clear k1 k2 k3
    have cpl := fun w => plain_any s0 n0 w W0.out
    have e5 := fun wx => eq_self (sg s0 n0) n0 W0.out wx
    generalize hsx : sg s0 n0 = sx at c5 cpl e5
    obtain ⟨S6, N6, E6, h6⟩ := res_ex (wv X NX + wv s2 n2)
    have c6 := fun w => add_res X s2 NX n2 LX.out W2.out h6 w
    obtain ⟨S7, N7, E7, h7⟩ := res_ex (wv s1 n1 + wv s2 n2)
    have c7 := fun w => add_res s1 s2 n1 n2 W1.out W2.out h7 w
    obtain ⟨S8, N8, E8, h8⟩ := res_ex (wv s0 n0 + wv S7 N7)
    have c8 := fun w => add_res s0 S7 n0 N7 W0.out h7.lt h8 w
    have t1 : (E6 == 0) = false ∨ (E6 = 0 ∧ (E7 == 0) = false) ∨ (E6 = 0 ∧ E7 = 0 ∧ E8 = 0 ∧ S6 = S8 ∧ N6 = N8) := by
      rcases h6.cases with ⟨x, -⟩ | ⟨x, -⟩
      · rcases h7.cases with ⟨y, -, -, -, hw7⟩ | ⟨y, -⟩
        · right; right
          rw [hw7, ← Int.add_assoc, ← hwv] at h8
          obtain ⟨z1, z2, z3⟩ := h6.same h8
          exact ⟨x, y, z3.symm.trans x, z1, z2⟩
        · right; left; exact ⟨x, by rw [y]; rfl⟩
      · left; rw [x]; rfl
    have T1 := Lib.hid t1
    have e6 := fun wx => eq_self S6 N6 h6.lt wx
    obtain ⟨S9, N9, E9, h9⟩ := res_ex (wv X NX * wv s2 n2)
    have c9 := fun w => mul_res X s2 NX n2 LX.out W2.out h9 w
    obtain ⟨S10, N10, E10, h10⟩ := res_ex (wv s0 n0 * wv s2 n2)
    have c10 := fun w => mul_res s0 s2 n0 n2 W0.out W2.out h10 w
    obtain ⟨S11, N11, E11, h11⟩ := res_ex (wv s1 n1 * wv s2 n2)
    have c11 := fun w => mul_res s1 s2 n1 n2 W1.out W2.out h11 w
    obtain ⟨S12, N12, E12, h12⟩ := res_ex (wv S10 N10 + wv S11 N11)
    have c12 := fun w => add_res S10 S11 N10 N11 h10.lt h11.lt h12 w
    have t2 : (E9 == 0) = false ∨ (E9 = 0 ∧ (E10 == 0) = false) ∨ (E9 = 0 ∧ E10 = 0 ∧ (E11 == 0) = false) ∨ (E9 = 0 ∧ E10 = 0 ∧ E11 = 0 ∧ E12 = 0 ∧ S9 = S12 ∧ N9 = N12) := by
      rcases h9.cases with ⟨x, -⟩ | ⟨x, -⟩
      · rcases h10.cases with ⟨y, -, -, -, hw10⟩ | ⟨y, -⟩
        · rcases h11.cases with ⟨z, -, -, -, hw11⟩ | ⟨z, -⟩
          · right; right; right
            rw [hw10, hw11, ← Int.add_mul, ← hwv] at h12
            obtain ⟨z1, z2, z3⟩ := h9.same h12
            exact ⟨x, y, z, z3.symm.trans x, z1, z2⟩
          · right; right; left; exact ⟨x, y, by rw [z]; rfl⟩
        · right; left; exact ⟨x, by rw [y]; rfl⟩
      · left; rw [x]; rfl
    have T2 := Lib.hid t2
    have e9 := fun wx => eq_self S9 N9 h9.lt wx
    clear t1 t2 h5 h6 h7 h8 h9 h10 h11 h12 hz hwv hsx
    have l3 := k3.out.lt
    have l4 := k4.out.lt
    have l5 := k5.out.lt
    have l7 := k7.out.lt
    have l9 := k9.out.lt
    have l11 := k11.out.lt
    have z13 : Hid (Blk (wc8.alloc (.cells wid0 25)) (wc8.heap.size) 25 wid0) := (Blk.new _ _ _ : Blk (wc8.alloc (.cells wid0 25)) wc8.heap.size 25 wid0)
    have k13 : Hid (Blk ((wc8.alloc (.cells wid0 25)).setRow (wc8.heap.size) (widL P NP)) (wc8.heap.size) 25 (widL P NP)) := (z13.out.row (widL P NP))
    replace k3 := Lib.hid ((k3.out.old (.cells wid0 25)).rowOther (k := wc8.heap.size) (by omega) (widL P NP))
    replace k4 := Lib.hid ((k4.out.old (.cells wid0 25)).rowOther (k := wc8.heap.size) (by omega) (widL P NP))
    replace k5 := Lib.hid ((k5.out.old (.cells wid0 25)).rowOther (k := wc8.heap.size) (by omega) (widL P NP))
    replace k7 := Lib.hid ((k7.out.old (.cells wid0 25)).rowOther (k := wc8.heap.size) (by omega) (widL P NP))
    replace k9 := Lib.hid ((k9.out.old (.cells wid0 25)).rowOther (k := wc8.heap.size) (by omega) (widL P NP))
    replace k11 := Lib.hid ((k11.out.old (.cells wid0 25)).rowOther (k := wc8.heap.size) (by omega) (widL P NP))
    replace kW := (below_row (kW.alloc (by first | exact kW.size | (simp; have := kW.size; omega)) (.cells wid0 25)) (g := wc8.heap.size) (by have := kW.size; omega) (widL P NP))
    go_wp2_with (first | (refine sta 25 (.tmp 13) (.tmp 53) rfl rfl ?_; refine stb (wc8.heap.size) (widL P NP) 25 _ z13.out rfl rfl info_wide rfl (widF_ones _ (wd NP)) ?_) | (refine lda 25 (.tmp 3) rfl rfl ?_; refine ldb q3 25 _ _ k3.out rfl under_wide rfl info_wide ?_) | (refine lda 25 (.tmp 4) rfl rfl ?_; refine ldb q4 25 _ _ k4.out rfl under_wide rfl info_wide ?_) | (refine lda 25 (.tmp 5) rfl rfl ?_; refine ldb q5 25 _ _ k5.out rfl under_wide rfl info_wide ?_) | (refine lda 25 (.tmp 7) rfl rfl ?_; refine ldb q7 25 _ _ k7.out rfl under_wide rfl info_wide ?_) | (refine lda 25 (.tmp 9) rfl rfl ?_; refine ldb q9 25 _ _ k9.out rfl under_wide rfl info_wide ?_) | (refine lda 25 (.tmp 11) rfl rfl ?_; refine ldb q11 25 _ _ k11.out rfl under_wide rfl info_wide ?_) | (refine lda 25 (.tmp 13) rfl rfl ?_; refine ldb (wc8.heap.size) 25 _ _ k13.out rfl under_wide rfl info_wide ?_) | (refine ldga 25 (.tmp 3) rfl rfl ?_; refine ldgb q3 25 _ _ k3.out rfl under_wide rfl info_wide ?_) | (refine ldga 25 (.tmp 4) rfl rfl ?_; refine ldgb q4 25 _ _ k4.out rfl under_wide rfl info_wide ?_) | (refine ldga 25 (.tmp 5) rfl rfl ?_; refine ldgb q5 25 _ _ k5.out rfl under_wide rfl info_wide ?_) | (refine ldga 25 (.tmp 7) rfl rfl ?_; refine ldgb q7 25 _ _ k7.out rfl under_wide rfl info_wide ?_) | (refine ldga 25 (.tmp 9) rfl rfl ?_; refine ldgb q9 25 _ _ k9.out rfl under_wide rfl info_wide ?_) | (refine ldga 25 (.tmp 11) rfl rfl ?_; refine ldgb q11 25 _ _ k11.out rfl under_wide rfl info_wide ?_) | (refine ldga 25 (.tmp 13) rfl rfl ?_; refine ldgb (wc8.heap.size) 25 _ _ k13.out rfl under_wide rfl info_wide ?_))
    clear z13 l3 l4 l5 l7 l9 l11
    generalize wc8.heap.size = q13 at k3 k4 k5 k7 k9 k11 k13 kW ⊢
    generalize World.setRow _ _ _ = wa11 at k3 k4 k5 k7 k9 k11 k13 kW ⊢
    refine (c5 _).mono ?_
    rintro e wc12 ⟨rfl, hb⟩
    replace k3 := Lib.hid (k3.out.below hb)
    replace k4 := Lib.hid (k4.out.below hb)
    replace k5 := Lib.hid (k5.out.below hb)
    replace k7 := Lib.hid (k7.out.below hb)
    replace k9 := Lib.hid (k9.out.below hb)
    replace k11 := Lib.hid (k11.out.below hb)
    replace k13 := Lib.hid (k13.out.below hb)
    replace kW := kW.trans (hb.mono kW.size)
    clear hb
    have l3 := k3.out.lt
    have l4 := k4.out.lt
    have l5 := k5.out.lt
    have l7 := k7.out.lt
    have l9 := k9.out.lt
    have l11 := k11.out.lt
    have l13 := k13.out.lt
    have z15 : Hid (Blk (wc12.alloc (.cells wid0 25)) (wc12.heap.size) 25 wid0) := (Blk.new _ _ _ : Blk (wc12.alloc (.cells wid0 25)) wc12.heap.size 25 wid0)
    have k15 : Hid (Blk ((wc12.alloc (.cells wid0 25)).setRow (wc12.heap.size) (widL sx n0)) (wc12.heap.size) 25 (widL sx n0)) := (z15.out.row (widL sx n0))
    replace k3 := Lib.hid ((k3.out.old (.cells wid0 25)).rowOther (k := wc12.heap.size) (by omega) (widL sx n0))
    replace k4 := Lib.hid ((k4.out.old (.cells wid0 25)).rowOther (k := wc12.heap.size) (by omega) (widL sx n0))
    replace k5 := Lib.hid ((k5.out.old (.cells wid0 25)).rowOther (k := wc12.heap.size) (by omega) (widL sx n0))
    replace k7 := Lib.hid ((k7.out.old (.cells wid0 25)).rowOther (k := wc12.heap.size) (by omega) (widL sx n0))
    replace k9 := Lib.hid ((k9.out.old (.cells wid0 25)).rowOther (k := wc12.heap.size) (by omega) (widL sx n0))
    replace k11 := Lib.hid ((k11.out.old (.cells wid0 25)).rowOther (k := wc12.heap.size) (by omega) (widL sx n0))
    replace k13 := Lib.hid ((k13.out.old (.cells wid0 25)).rowOther (k := wc12.heap.size) (by omega) (widL sx n0))
    replace kW := (below_row (kW.alloc (by first | exact kW.size | (simp; have := kW.size; omega)) (.cells wid0 25)) (g := wc12.heap.size) (by have := kW.size; omega) (widL sx n0))
    go_wp2_with (first | (refine sta 25 (.tmp 15) (.tmp 84) rfl rfl ?_; refine stb (wc12.heap.size) (widL sx n0) 25 _ z15.out rfl rfl info_wide rfl (widF_ones _ (wd n0)) ?_) | (refine lda 25 (.tmp 3) rfl rfl ?_; refine ldb q3 25 _ _ k3.out rfl under_wide rfl info_wide ?_) | (refine lda 25 (.tmp 4) rfl rfl ?_; refine ldb q4 25 _ _ k4.out rfl under_wide rfl info_wide ?_) | (refine lda 25 (.tmp 5) rfl rfl ?_; refine ldb q5 25 _ _ k5.out rfl under_wide rfl info_wide ?_) | (refine lda 25 (.tmp 7) rfl rfl ?_; refine ldb q7 25 _ _ k7.out rfl under_wide rfl info_wide ?_) | (refine lda 25 (.tmp 9) rfl rfl ?_; refine ldb q9 25 _ _ k9.out rfl under_wide rfl info_wide ?_) | (refine lda 25 (.tmp 11) rfl rfl ?_; refine ldb q11 25 _ _ k11.out rfl under_wide rfl info_wide ?_) | (refine lda 25 (.tmp 13) rfl rfl ?_; refine ldb q13 25 _ _ k13.out rfl under_wide rfl info_wide ?_) | (refine lda 25 (.tmp 15) rfl rfl ?_; refine ldb (wc12.heap.size) 25 _ _ k15.out rfl under_wide rfl info_wide ?_) | (refine ldga 25 (.tmp 3) rfl rfl ?_; refine ldgb q3 25 _ _ k3.out rfl under_wide rfl info_wide ?_) | (refine ldga 25 (.tmp 4) rfl rfl ?_; refine ldgb q4 25 _ _ k4.out rfl under_wide rfl info_wide ?_) | (refine ldga 25 (.tmp 5) rfl rfl ?_; refine ldgb q5 25 _ _ k5.out rfl under_wide rfl info_wide ?_) | (refine ldga 25 (.tmp 7) rfl rfl ?_; refine ldgb q7 25 _ _ k7.out rfl under_wide rfl info_wide ?_) | (refine ldga 25 (.tmp 9) rfl rfl ?_; refine ldgb q9 25 _ _ k9.out rfl under_wide rfl info_wide ?_) | (refine ldga 25 (.tmp 11) rfl rfl ?_; refine ldgb q11 25 _ _ k11.out rfl under_wide rfl info_wide ?_) | (refine ldga 25 (.tmp 13) rfl rfl ?_; refine ldgb q13 25 _ _ k13.out rfl under_wide rfl info_wide ?_) | (refine ldga 25 (.tmp 15) rfl rfl ?_; refine ldgb (wc12.heap.size) 25 _ _ k15.out rfl under_wide rfl info_wide ?_))
    clear z15 l3 l4 l5 l7 l9 l11 l13
    generalize wc12.heap.size = q15 at k3 k4 k5 k7 k9 k11 k13 k15 kW ⊢
    generalize World.setRow _ _ _ = wa13 at k3 k4 k5 k7 k9 k11 k13 k15 kW ⊢
    have hG : Keep [(q3, 25, (widL s0 n0)), (q4, 25, (widL s1 n1)), (q5, 25, (widL s2 n2)), (q7, 25, (widL X NX)), (q9, 25, (widL X NX)), (q11, 25, (widL P NP)), (q13, 25, (widL P NP)), (q15, 25, (widL sx n0))] q3 25 (widL s0 n0) (widL s0 n0) w wa13.drew := by
      refine ⟨?_, .inl k3.out.drew, kW.drew⟩
      intro k hk
      simp only [List.mem_cons, List.mem_nil_iff, or_false] at hk
      rcases hk with rfl | rfl | rfl | rfl | rfl | rfl | rfl | rfl
      · exact k3.out.drew
      · exact k4.out.drew
      · exact k5.out.drew
      · exact k7.out.drew
      · exact k9.out.drew
      · exact k11.out.drew
      · exact k13.out.drew
      · exact k15.out.drew
    clear k3 k4 k5 k7 k9 k11 k13 k15 kW
    refine region_kitG (ds := [some 86, some 87, some 88, some 89, some 90, some 91, some 92, some 93]) [] [[], [0], [1], [], [], [4], [3, 5], [2, 6]] (fun i => false) [.is _ 0 (.int .i64 0), .is _ 1 (.bool false), .is _ 2 (.bool false), .is _ 3 (.agg (widL sx n0)), .is _ 4 (.agg (widL s0 n0)), .is _ 5 (.agg (widL sx n0)), .is _ 6 (.bool false), .is _ 7 (.bool false)] (Keep [(q3, 25, (widL s0 n0)), (q4, 25, (widL s1 n1)), (q5, 25, (widL s2 n2)), (q7, 25, (widL X NX)), (q9, 25, (widL X NX)), (q11, 25, (widL P NP)), (q13, 25, (widL P NP)), (q15, 25, (widL sx n0))] (q3) 25 (widL s0 n0) (widL s0 n0) w) follows_mixed (by kernel_rfl) (by kernel_rfl) (by kernel_rfl) (fun _ _ h he => h.ext he (by intro r hr; simp at hr) (by intro r hr; simp at hr) (by intro r hr; simp at hr)) hG ?_ [none, none, some false, none, none, none, none, none] ⟨fun _ _ h => h, trivial⟩ (Nat.le_of_ble_eq_true rfl) (by kernel_rfl) rfl ?_
    · refine steps_cons ?_ (steps_cons ?_ (steps_cons ?_ (steps_cons ?_ (steps_cons ?_ (steps_cons ?_ (steps_cons ?_ (steps_cons ?_ (steps_nil))))))))
      · exact fun xs wx hG _ => step_value (.int .i64 0) (w' := wx) (by simp only [fillIn, Act.put, List.setIfInBounds_toArray, List.set_cons_zero, List.set_cons_succ]; go_simp) rfl (Below.refl _ _)
      · intro xs wx hG hF
        have f0 : xs 0 = (.int .i64 0) := hF.1
        exact step_value (.bool false) (w' := wx) (by simp only [fillIn, Act.put, List.setIfInBounds_toArray, List.set_cons_zero, List.set_cons_succ, f0]; go_simp) rfl (Below.refl _ _)
      · intro xs wx hG hF
        have f1 : xs 1 = (.bool false) := hF.1
        exact step_value (.bool false) (w' := wx) (by simp only [fillIn, Act.put, List.setIfInBounds_toArray, List.set_cons_zero, List.set_cons_succ, f1]; go_simp) rfl (Below.refl _ _)
      · exact fun xs wx hG _ => step_row 25 (.tmp 15) rfl (q15) (eval_old (by decide)) 25 (widL sx n0) _ (hG.rows _ (List.mem_cons_of_mem _ (List.mem_cons_of_mem _ (List.mem_cons_of_mem _ (List.mem_cons_of_mem _ (List.mem_cons_of_mem _ (List.mem_cons_of_mem _ (List.mem_cons_of_mem _ (List.mem_cons_self ..))))))))) under_wide rfl info_wide rfl
      · exact fun xs wx hG _ => step_row 25 (.tmp 3) rfl (q3) (eval_old (by decide)) 25 (widL s0 n0) _ (hG.rows _ (List.mem_cons_self ..)) under_wide rfl info_wide rfl
      · exact fun xs wx hG hF => step_call1 38 (.tmp 90) #[25] (.agg (widL s0 n0)) rfl ((eval_new (i := 4) (by decide) rfl (by simp)).trans hF.1) (by kernel_rfl) (cpl wx) (fun e w' h => ⟨_, h.1, rfl, h.2⟩)
      · intro xs wx hG hF
        have f3 : xs 3 = (.agg (widL sx n0)) := hF.1
        have f5 : xs 5 = (.agg (widL sx n0)) := hF.2.1
        exact step_value (.bool false) (w' := wx) (by simp only [fillIn, Act.put, List.setIfInBounds_toArray, List.set_cons_zero, List.set_cons_succ, f3, f5]; go_simp) rfl (Below.refl _ _)
      · intro xs wx hG hF
        have f2 : xs 2 = (.bool false) := hF.1
        have f6 : xs 6 = (.bool false) := hF.2.1
        exact step_value (.bool false) (w' := wx) (by simp only [fillIn, Act.put, List.setIfInBounds_toArray, List.set_cons_zero, List.set_cons_succ, f2, f6]; go_simp) rfl (Below.refl _ _)
    intro xs wx hG hA hF
    obtain ⟨f0, f1, f2, f3, f4, f5, f6, f7, _⟩ := hF
    have f0 : xs 0 = (.int .i64 0) := f0
    have f1 : xs 1 = (.bool false) := f1
    have f2 : xs 2 = (.bool false) := f2
    have f3 : xs 3 = (.agg (widL sx n0)) := f3
    have f4 : xs 4 = (.agg (widL s0 n0)) := f4
    have f5 : xs 5 = (.agg (widL sx n0)) := f5
    have f6 : xs 6 = (.bool false) := f6
    have f7 : xs 7 = (.bool false) := f7
    simp only [fillIn, Act.put, List.setIfInBounds_toArray, List.set_cons_zero, List.set_cons_succ, f0, f1, f2, f3, f4, f5, f6, f7, List.drop_succ_cons, List.drop_zero, List.length_cons, List.length_nil]
    obtain ⟨kk, _, kW⟩ := hG
    have k3 : Hid (Blk wx q3 25 (widL s0 n0)) := kk _ (List.mem_cons_self ..)
    have k4 : Hid (Blk wx q4 25 (widL s1 n1)) := kk _ (List.mem_cons_of_mem _ (List.mem_cons_self ..))
    have k5 : Hid (Blk wx q5 25 (widL s2 n2)) := kk _ (List.mem_cons_of_mem _ (List.mem_cons_of_mem _ (List.mem_cons_self ..)))
    have k7 : Hid (Blk wx q7 25 (widL X NX)) := kk _ (List.mem_cons_of_mem _ (List.mem_cons_of_mem _ (List.mem_cons_of_mem _ (List.mem_cons_self ..))))
    have k9 : Hid (Blk wx q9 25 (widL X NX)) := kk _ (List.mem_cons_of_mem _ (List.mem_cons_of_mem _ (List.mem_cons_of_mem _ (List.mem_cons_of_mem _ (List.mem_cons_self ..)))))
    have k11 : Hid (Blk wx q11 25 (widL P NP)) := kk _ (List.mem_cons_of_mem _ (List.mem_cons_of_mem _ (List.mem_cons_of_mem _ (List.mem_cons_of_mem _ (List.mem_cons_of_mem _ (List.mem_cons_self ..))))))
    have k13 : Hid (Blk wx q13 25 (widL P NP)) := kk _ (List.mem_cons_of_mem _ (List.mem_cons_of_mem _ (List.mem_cons_of_mem _ (List.mem_cons_of_mem _ (List.mem_cons_of_mem _ (List.mem_cons_of_mem _ (List.mem_cons_self ..)))))))
    have k15 : Hid (Blk wx q15 25 (widL sx n0)) := kk _ (List.mem_cons_of_mem _ (List.mem_cons_of_mem _ (List.mem_cons_of_mem _ (List.mem_cons_of_mem _ (List.mem_cons_of_mem _ (List.mem_cons_of_mem _ (List.mem_cons_of_mem _ (List.mem_cons_self ..))))))))
    clear kk
    clear hA f0 f1 f2 f3 f4 f5 f6 f7
    go_wp2_with (first | (refine lda 25 (.tmp 3) rfl rfl ?_; refine ldb q3 25 _ _ k3.out rfl under_wide rfl info_wide ?_) | (refine lda 25 (.tmp 4) rfl rfl ?_; refine ldb q4 25 _ _ k4.out rfl under_wide rfl info_wide ?_) | (refine lda 25 (.tmp 5) rfl rfl ?_; refine ldb q5 25 _ _ k5.out rfl under_wide rfl info_wide ?_) | (refine lda 25 (.tmp 7) rfl rfl ?_; refine ldb q7 25 _ _ k7.out rfl under_wide rfl info_wide ?_) | (refine lda 25 (.tmp 9) rfl rfl ?_; refine ldb q9 25 _ _ k9.out rfl under_wide rfl info_wide ?_) | (refine lda 25 (.tmp 11) rfl rfl ?_; refine ldb q11 25 _ _ k11.out rfl under_wide rfl info_wide ?_) | (refine lda 25 (.tmp 13) rfl rfl ?_; refine ldb q13 25 _ _ k13.out rfl under_wide rfl info_wide ?_) | (refine lda 25 (.tmp 15) rfl rfl ?_; refine ldb q15 25 _ _ k15.out rfl under_wide rfl info_wide ?_) | (refine ldga 25 (.tmp 3) rfl rfl ?_; refine ldgb q3 25 _ _ k3.out rfl under_wide rfl info_wide ?_) | (refine ldga 25 (.tmp 4) rfl rfl ?_; refine ldgb q4 25 _ _ k4.out rfl under_wide rfl info_wide ?_) | (refine ldga 25 (.tmp 5) rfl rfl ?_; refine ldgb q5 25 _ _ k5.out rfl under_wide rfl info_wide ?_) | (refine ldga 25 (.tmp 7) rfl rfl ?_; refine ldgb q7 25 _ _ k7.out rfl under_wide rfl info_wide ?_) | (refine ldga 25 (.tmp 9) rfl rfl ?_; refine ldgb q9 25 _ _ k9.out rfl under_wide rfl info_wide ?_) | (refine ldga 25 (.tmp 11) rfl rfl ?_; refine ldgb q11 25 _ _ k11.out rfl under_wide rfl info_wide ?_) | (refine ldga 25 (.tmp 13) rfl rfl ?_; refine ldgb q13 25 _ _ k13.out rfl under_wide rfl info_wide ?_) | (refine ldga 25 (.tmp 15) rfl rfl ?_; refine ldgb q15 25 _ _ k15.out rfl under_wide rfl info_wide ?_))
    refine (c6 _).mono ?_
    rintro e wc14 ⟨rfl, hb⟩
    replace k3 := Lib.hid (k3.out.below hb)
    replace k4 := Lib.hid (k4.out.below hb)
    replace k5 := Lib.hid (k5.out.below hb)
    replace k7 := Lib.hid (k7.out.below hb)
    replace k9 := Lib.hid (k9.out.below hb)
    replace k11 := Lib.hid (k11.out.below hb)
    replace k13 := Lib.hid (k13.out.below hb)
    replace k15 := Lib.hid (k15.out.below hb)
    replace kW := kW.trans (hb.mono kW.size)
    clear hb
    have l3 := k3.out.lt
    have l4 := k4.out.lt
    have l5 := k5.out.lt
    have l7 := k7.out.lt
    have l9 := k9.out.lt
    have l11 := k11.out.lt
    have l13 := k13.out.lt
    have l15 := k15.out.lt
    have z17 : Hid (Blk (wc14.alloc (.cells wid0 25)) (wc14.heap.size) 25 wid0) := (Blk.new _ _ _ : Blk (wc14.alloc (.cells wid0 25)) wc14.heap.size 25 wid0)
    have k17 : Hid (Blk ((wc14.alloc (.cells wid0 25)).setRow (wc14.heap.size) (widL S6 N6)) (wc14.heap.size) 25 (widL S6 N6)) := (z17.out.row (widL S6 N6))
    replace k3 := Lib.hid ((k3.out.old (.cells wid0 25)).rowOther (k := wc14.heap.size) (by omega) (widL S6 N6))
    replace k4 := Lib.hid ((k4.out.old (.cells wid0 25)).rowOther (k := wc14.heap.size) (by omega) (widL S6 N6))
    replace k5 := Lib.hid ((k5.out.old (.cells wid0 25)).rowOther (k := wc14.heap.size) (by omega) (widL S6 N6))
    replace k7 := Lib.hid ((k7.out.old (.cells wid0 25)).rowOther (k := wc14.heap.size) (by omega) (widL S6 N6))
    replace k9 := Lib.hid ((k9.out.old (.cells wid0 25)).rowOther (k := wc14.heap.size) (by omega) (widL S6 N6))
    replace k11 := Lib.hid ((k11.out.old (.cells wid0 25)).rowOther (k := wc14.heap.size) (by omega) (widL S6 N6))
    replace k13 := Lib.hid ((k13.out.old (.cells wid0 25)).rowOther (k := wc14.heap.size) (by omega) (widL S6 N6))
    replace k15 := Lib.hid ((k15.out.old (.cells wid0 25)).rowOther (k := wc14.heap.size) (by omega) (widL S6 N6))
    replace kW := (below_row (kW.alloc (by first | exact kW.size | (simp; have := kW.size; omega)) (.cells wid0 25)) (g := wc14.heap.size) (by have := kW.size; omega) (widL S6 N6))
    go_wp2_with (first | (refine sta 25 (.tmp 17) (.tmp 98) rfl rfl ?_; refine stb (wc14.heap.size) (widL S6 N6) 25 _ z17.out rfl rfl info_wide rfl (widF_ones _ (wd N6)) ?_) | (refine lda 25 (.tmp 3) rfl rfl ?_; refine ldb q3 25 _ _ k3.out rfl under_wide rfl info_wide ?_) | (refine lda 25 (.tmp 4) rfl rfl ?_; refine ldb q4 25 _ _ k4.out rfl under_wide rfl info_wide ?_) | (refine lda 25 (.tmp 5) rfl rfl ?_; refine ldb q5 25 _ _ k5.out rfl under_wide rfl info_wide ?_) | (refine lda 25 (.tmp 7) rfl rfl ?_; refine ldb q7 25 _ _ k7.out rfl under_wide rfl info_wide ?_) | (refine lda 25 (.tmp 9) rfl rfl ?_; refine ldb q9 25 _ _ k9.out rfl under_wide rfl info_wide ?_) | (refine lda 25 (.tmp 11) rfl rfl ?_; refine ldb q11 25 _ _ k11.out rfl under_wide rfl info_wide ?_) | (refine lda 25 (.tmp 13) rfl rfl ?_; refine ldb q13 25 _ _ k13.out rfl under_wide rfl info_wide ?_) | (refine lda 25 (.tmp 15) rfl rfl ?_; refine ldb q15 25 _ _ k15.out rfl under_wide rfl info_wide ?_) | (refine lda 25 (.tmp 17) rfl rfl ?_; refine ldb (wc14.heap.size) 25 _ _ k17.out rfl under_wide rfl info_wide ?_) | (refine ldga 25 (.tmp 3) rfl rfl ?_; refine ldgb q3 25 _ _ k3.out rfl under_wide rfl info_wide ?_) | (refine ldga 25 (.tmp 4) rfl rfl ?_; refine ldgb q4 25 _ _ k4.out rfl under_wide rfl info_wide ?_) | (refine ldga 25 (.tmp 5) rfl rfl ?_; refine ldgb q5 25 _ _ k5.out rfl under_wide rfl info_wide ?_) | (refine ldga 25 (.tmp 7) rfl rfl ?_; refine ldgb q7 25 _ _ k7.out rfl under_wide rfl info_wide ?_) | (refine ldga 25 (.tmp 9) rfl rfl ?_; refine ldgb q9 25 _ _ k9.out rfl under_wide rfl info_wide ?_) | (refine ldga 25 (.tmp 11) rfl rfl ?_; refine ldgb q11 25 _ _ k11.out rfl under_wide rfl info_wide ?_) | (refine ldga 25 (.tmp 13) rfl rfl ?_; refine ldgb q13 25 _ _ k13.out rfl under_wide rfl info_wide ?_) | (refine ldga 25 (.tmp 15) rfl rfl ?_; refine ldgb q15 25 _ _ k15.out rfl under_wide rfl info_wide ?_) | (refine ldga 25 (.tmp 17) rfl rfl ?_; refine ldgb (wc14.heap.size) 25 _ _ k17.out rfl under_wide rfl info_wide ?_))
    clear z17 l3 l4 l5 l7 l9 l11 l13 l15
    generalize wc14.heap.size = q17 at k3 k4 k5 k7 k9 k11 k13 k15 k17 kW ⊢
    generalize World.setRow _ _ _ = wa15 at k3 k4 k5 k7 k9 k11 k13 k15 k17 kW ⊢
    refine (c7 _).mono ?_
    rintro e wc16 ⟨rfl, hb⟩
    replace k3 := Lib.hid (k3.out.below hb)
    replace k4 := Lib.hid (k4.out.below hb)
    replace k5 := Lib.hid (k5.out.below hb)
    replace k7 := Lib.hid (k7.out.below hb)
    replace k9 := Lib.hid (k9.out.below hb)
    replace k11 := Lib.hid (k11.out.below hb)
    replace k13 := Lib.hid (k13.out.below hb)
    replace k15 := Lib.hid (k15.out.below hb)
    replace k17 := Lib.hid (k17.out.below hb)
    replace kW := kW.trans (hb.mono kW.size)
    clear hb
    have l3 := k3.out.lt
    have l4 := k4.out.lt
    have l5 := k5.out.lt
    have l7 := k7.out.lt
    have l9 := k9.out.lt
    have l11 := k11.out.lt
    have l13 := k13.out.lt
    have l15 := k15.out.lt
    have l17 := k17.out.lt
    have z19 : Hid (Blk (wc16.alloc (.cells wid0 25)) (wc16.heap.size) 25 wid0) := (Blk.new _ _ _ : Blk (wc16.alloc (.cells wid0 25)) wc16.heap.size 25 wid0)
    have k19 : Hid (Blk ((wc16.alloc (.cells wid0 25)).setRow (wc16.heap.size) (widL S7 N7)) (wc16.heap.size) 25 (widL S7 N7)) := (z19.out.row (widL S7 N7))
    replace k3 := Lib.hid ((k3.out.old (.cells wid0 25)).rowOther (k := wc16.heap.size) (by omega) (widL S7 N7))
    replace k4 := Lib.hid ((k4.out.old (.cells wid0 25)).rowOther (k := wc16.heap.size) (by omega) (widL S7 N7))
    replace k5 := Lib.hid ((k5.out.old (.cells wid0 25)).rowOther (k := wc16.heap.size) (by omega) (widL S7 N7))
    replace k7 := Lib.hid ((k7.out.old (.cells wid0 25)).rowOther (k := wc16.heap.size) (by omega) (widL S7 N7))
    replace k9 := Lib.hid ((k9.out.old (.cells wid0 25)).rowOther (k := wc16.heap.size) (by omega) (widL S7 N7))
    replace k11 := Lib.hid ((k11.out.old (.cells wid0 25)).rowOther (k := wc16.heap.size) (by omega) (widL S7 N7))
    replace k13 := Lib.hid ((k13.out.old (.cells wid0 25)).rowOther (k := wc16.heap.size) (by omega) (widL S7 N7))
    replace k15 := Lib.hid ((k15.out.old (.cells wid0 25)).rowOther (k := wc16.heap.size) (by omega) (widL S7 N7))
    replace k17 := Lib.hid ((k17.out.old (.cells wid0 25)).rowOther (k := wc16.heap.size) (by omega) (widL S7 N7))
    replace kW := (below_row (kW.alloc (by first | exact kW.size | (simp; have := kW.size; omega)) (.cells wid0 25)) (g := wc16.heap.size) (by have := kW.size; omega) (widL S7 N7))
    go_wp2_with (first | (refine sta 25 (.tmp 19) (.tmp 104) rfl rfl ?_; refine stb (wc16.heap.size) (widL S7 N7) 25 _ z19.out rfl rfl info_wide rfl (widF_ones _ (wd N7)) ?_) | (refine lda 25 (.tmp 3) rfl rfl ?_; refine ldb q3 25 _ _ k3.out rfl under_wide rfl info_wide ?_) | (refine lda 25 (.tmp 4) rfl rfl ?_; refine ldb q4 25 _ _ k4.out rfl under_wide rfl info_wide ?_) | (refine lda 25 (.tmp 5) rfl rfl ?_; refine ldb q5 25 _ _ k5.out rfl under_wide rfl info_wide ?_) | (refine lda 25 (.tmp 7) rfl rfl ?_; refine ldb q7 25 _ _ k7.out rfl under_wide rfl info_wide ?_) | (refine lda 25 (.tmp 9) rfl rfl ?_; refine ldb q9 25 _ _ k9.out rfl under_wide rfl info_wide ?_) | (refine lda 25 (.tmp 11) rfl rfl ?_; refine ldb q11 25 _ _ k11.out rfl under_wide rfl info_wide ?_) | (refine lda 25 (.tmp 13) rfl rfl ?_; refine ldb q13 25 _ _ k13.out rfl under_wide rfl info_wide ?_) | (refine lda 25 (.tmp 15) rfl rfl ?_; refine ldb q15 25 _ _ k15.out rfl under_wide rfl info_wide ?_) | (refine lda 25 (.tmp 17) rfl rfl ?_; refine ldb q17 25 _ _ k17.out rfl under_wide rfl info_wide ?_) | (refine lda 25 (.tmp 19) rfl rfl ?_; refine ldb (wc16.heap.size) 25 _ _ k19.out rfl under_wide rfl info_wide ?_) | (refine ldga 25 (.tmp 3) rfl rfl ?_; refine ldgb q3 25 _ _ k3.out rfl under_wide rfl info_wide ?_) | (refine ldga 25 (.tmp 4) rfl rfl ?_; refine ldgb q4 25 _ _ k4.out rfl under_wide rfl info_wide ?_) | (refine ldga 25 (.tmp 5) rfl rfl ?_; refine ldgb q5 25 _ _ k5.out rfl under_wide rfl info_wide ?_) | (refine ldga 25 (.tmp 7) rfl rfl ?_; refine ldgb q7 25 _ _ k7.out rfl under_wide rfl info_wide ?_) | (refine ldga 25 (.tmp 9) rfl rfl ?_; refine ldgb q9 25 _ _ k9.out rfl under_wide rfl info_wide ?_) | (refine ldga 25 (.tmp 11) rfl rfl ?_; refine ldgb q11 25 _ _ k11.out rfl under_wide rfl info_wide ?_) | (refine ldga 25 (.tmp 13) rfl rfl ?_; refine ldgb q13 25 _ _ k13.out rfl under_wide rfl info_wide ?_) | (refine ldga 25 (.tmp 15) rfl rfl ?_; refine ldgb q15 25 _ _ k15.out rfl under_wide rfl info_wide ?_) | (refine ldga 25 (.tmp 17) rfl rfl ?_; refine ldgb q17 25 _ _ k17.out rfl under_wide rfl info_wide ?_) | (refine ldga 25 (.tmp 19) rfl rfl ?_; refine ldgb (wc16.heap.size) 25 _ _ k19.out rfl under_wide rfl info_wide ?_))
    clear z19 l3 l4 l5 l7 l9 l11 l13 l15 l17
    generalize wc16.heap.size = q19 at k3 k4 k5 k7 k9 k11 k13 k15 k17 k19 kW ⊢
    generalize World.setRow _ _ _ = wa17 at k3 k4 k5 k7 k9 k11 k13 k15 k17 k19 kW ⊢
    refine (c8 _).mono ?_
    rintro e wc18 ⟨rfl, hb⟩
    replace k3 := Lib.hid (k3.out.below hb)
    replace k4 := Lib.hid (k4.out.below hb)
    replace k5 := Lib.hid (k5.out.below hb)
    replace k7 := Lib.hid (k7.out.below hb)
    replace k9 := Lib.hid (k9.out.below hb)
    replace k11 := Lib.hid (k11.out.below hb)
    replace k13 := Lib.hid (k13.out.below hb)
    replace k15 := Lib.hid (k15.out.below hb)
    replace k17 := Lib.hid (k17.out.below hb)
    replace k19 := Lib.hid (k19.out.below hb)
    replace kW := kW.trans (hb.mono kW.size)
    clear hb
    have l3 := k3.out.lt
    have l4 := k4.out.lt
    have l5 := k5.out.lt
    have l7 := k7.out.lt
    have l9 := k9.out.lt
    have l11 := k11.out.lt
    have l13 := k13.out.lt
    have l15 := k15.out.lt
    have l17 := k17.out.lt
    have l19 := k19.out.lt
    have z21 : Hid (Blk (wc18.alloc (.cells wid0 25)) (wc18.heap.size) 25 wid0) := (Blk.new _ _ _ : Blk (wc18.alloc (.cells wid0 25)) wc18.heap.size 25 wid0)
    have k21 : Hid (Blk ((wc18.alloc (.cells wid0 25)).setRow (wc18.heap.size) (widL S8 N8)) (wc18.heap.size) 25 (widL S8 N8)) := (z21.out.row (widL S8 N8))
    replace k3 := Lib.hid ((k3.out.old (.cells wid0 25)).rowOther (k := wc18.heap.size) (by omega) (widL S8 N8))
    replace k4 := Lib.hid ((k4.out.old (.cells wid0 25)).rowOther (k := wc18.heap.size) (by omega) (widL S8 N8))
    replace k5 := Lib.hid ((k5.out.old (.cells wid0 25)).rowOther (k := wc18.heap.size) (by omega) (widL S8 N8))
    replace k7 := Lib.hid ((k7.out.old (.cells wid0 25)).rowOther (k := wc18.heap.size) (by omega) (widL S8 N8))
    replace k9 := Lib.hid ((k9.out.old (.cells wid0 25)).rowOther (k := wc18.heap.size) (by omega) (widL S8 N8))
    replace k11 := Lib.hid ((k11.out.old (.cells wid0 25)).rowOther (k := wc18.heap.size) (by omega) (widL S8 N8))
    replace k13 := Lib.hid ((k13.out.old (.cells wid0 25)).rowOther (k := wc18.heap.size) (by omega) (widL S8 N8))
    replace k15 := Lib.hid ((k15.out.old (.cells wid0 25)).rowOther (k := wc18.heap.size) (by omega) (widL S8 N8))
    replace k17 := Lib.hid ((k17.out.old (.cells wid0 25)).rowOther (k := wc18.heap.size) (by omega) (widL S8 N8))
    replace k19 := Lib.hid ((k19.out.old (.cells wid0 25)).rowOther (k := wc18.heap.size) (by omega) (widL S8 N8))
    replace kW := (below_row (kW.alloc (by first | exact kW.size | (simp; have := kW.size; omega)) (.cells wid0 25)) (g := wc18.heap.size) (by have := kW.size; omega) (widL S8 N8))
    go_upto_region 15 with (first | (refine sta 25 (.tmp 21) (.tmp 110) rfl rfl ?_; refine stb (wc18.heap.size) (widL S8 N8) 25 _ z21.out rfl rfl info_wide rfl (widF_ones _ (wd N8)) ?_) | (refine lda 25 (.tmp 3) rfl rfl ?_; refine ldb q3 25 _ _ k3.out rfl under_wide rfl info_wide ?_) | (refine lda 25 (.tmp 4) rfl rfl ?_; refine ldb q4 25 _ _ k4.out rfl under_wide rfl info_wide ?_) | (refine lda 25 (.tmp 5) rfl rfl ?_; refine ldb q5 25 _ _ k5.out rfl under_wide rfl info_wide ?_) | (refine lda 25 (.tmp 7) rfl rfl ?_; refine ldb q7 25 _ _ k7.out rfl under_wide rfl info_wide ?_) | (refine lda 25 (.tmp 9) rfl rfl ?_; refine ldb q9 25 _ _ k9.out rfl under_wide rfl info_wide ?_) | (refine lda 25 (.tmp 11) rfl rfl ?_; refine ldb q11 25 _ _ k11.out rfl under_wide rfl info_wide ?_) | (refine lda 25 (.tmp 13) rfl rfl ?_; refine ldb q13 25 _ _ k13.out rfl under_wide rfl info_wide ?_) | (refine lda 25 (.tmp 15) rfl rfl ?_; refine ldb q15 25 _ _ k15.out rfl under_wide rfl info_wide ?_) | (refine lda 25 (.tmp 17) rfl rfl ?_; refine ldb q17 25 _ _ k17.out rfl under_wide rfl info_wide ?_) | (refine lda 25 (.tmp 19) rfl rfl ?_; refine ldb q19 25 _ _ k19.out rfl under_wide rfl info_wide ?_) | (refine lda 25 (.tmp 21) rfl rfl ?_; refine ldb (wc18.heap.size) 25 _ _ k21.out rfl under_wide rfl info_wide ?_) | (refine ldga 25 (.tmp 3) rfl rfl ?_; refine ldgb q3 25 _ _ k3.out rfl under_wide rfl info_wide ?_) | (refine ldga 25 (.tmp 4) rfl rfl ?_; refine ldgb q4 25 _ _ k4.out rfl under_wide rfl info_wide ?_) | (refine ldga 25 (.tmp 5) rfl rfl ?_; refine ldgb q5 25 _ _ k5.out rfl under_wide rfl info_wide ?_) | (refine ldga 25 (.tmp 7) rfl rfl ?_; refine ldgb q7 25 _ _ k7.out rfl under_wide rfl info_wide ?_) | (refine ldga 25 (.tmp 9) rfl rfl ?_; refine ldgb q9 25 _ _ k9.out rfl under_wide rfl info_wide ?_) | (refine ldga 25 (.tmp 11) rfl rfl ?_; refine ldgb q11 25 _ _ k11.out rfl under_wide rfl info_wide ?_) | (refine ldga 25 (.tmp 13) rfl rfl ?_; refine ldgb q13 25 _ _ k13.out rfl under_wide rfl info_wide ?_) | (refine ldga 25 (.tmp 15) rfl rfl ?_; refine ldgb q15 25 _ _ k15.out rfl under_wide rfl info_wide ?_) | (refine ldga 25 (.tmp 17) rfl rfl ?_; refine ldgb q17 25 _ _ k17.out rfl under_wide rfl info_wide ?_) | (refine ldga 25 (.tmp 19) rfl rfl ?_; refine ldgb q19 25 _ _ k19.out rfl under_wide rfl info_wide ?_) | (refine ldga 25 (.tmp 21) rfl rfl ?_; refine ldgb (wc18.heap.size) 25 _ _ k21.out rfl under_wide rfl info_wide ?_))
    try simp only [Act.put]
    clear z21 l3 l4 l5 l7 l9 l11 l13 l15 l17 l19
    generalize wc18.heap.size = q21 at k3 k4 k5 k7 k9 k11 k13 k15 k17 k19 k21 kW ⊢
    generalize World.setRow _ _ _ = wa19 at k3 k4 k5 k7 k9 k11 k13 k15 k17 k19 k21 kW ⊢
    go_cut [126] (fun s126 wx => s126 = .bool false ∧ Hid (Blk wx q3 25 (widL s0 n0)) ∧ Hid (Blk wx q4 25 (widL s1 n1)) ∧ Hid (Blk wx q5 25 (widL s2 n2)) ∧ Hid (Blk wx q7 25 (widL X NX)) ∧ Hid (Blk wx q9 25 (widL X NX)) ∧ Hid (Blk wx q11 25 (widL P NP)) ∧ Hid (Blk wx q13 25 (widL P NP)) ∧ Hid (Blk wx q15 25 (widL sx n0)) ∧ Hid (Blk wx q17 25 (widL S6 N6)) ∧ Hid (Blk wx q19 25 (widL S7 N7)) ∧ Hid (Blk wx q21 25 (widL S8 N8)) ∧ Below w.heap.size w wx)
    case first =>
      rcases T1.out with h | ⟨h, h2⟩ | ⟨h, h2, h3, h4, h5⟩
      · have hb : (E6 != 0) = true := by rw [bne, h]; rfl
        go_wp2_with (first | (refine lda 25 (.tmp 3) rfl rfl ?_; refine ldb q3 25 _ _ k3.out rfl under_wide rfl info_wide ?_) | (refine lda 25 (.tmp 4) rfl rfl ?_; refine ldb q4 25 _ _ k4.out rfl under_wide rfl info_wide ?_) | (refine lda 25 (.tmp 5) rfl rfl ?_; refine ldb q5 25 _ _ k5.out rfl under_wide rfl info_wide ?_) | (refine lda 25 (.tmp 7) rfl rfl ?_; refine ldb q7 25 _ _ k7.out rfl under_wide rfl info_wide ?_) | (refine lda 25 (.tmp 9) rfl rfl ?_; refine ldb q9 25 _ _ k9.out rfl under_wide rfl info_wide ?_) | (refine lda 25 (.tmp 11) rfl rfl ?_; refine ldb q11 25 _ _ k11.out rfl under_wide rfl info_wide ?_) | (refine lda 25 (.tmp 13) rfl rfl ?_; refine ldb q13 25 _ _ k13.out rfl under_wide rfl info_wide ?_) | (refine lda 25 (.tmp 15) rfl rfl ?_; refine ldb q15 25 _ _ k15.out rfl under_wide rfl info_wide ?_) | (refine lda 25 (.tmp 17) rfl rfl ?_; refine ldb q17 25 _ _ k17.out rfl under_wide rfl info_wide ?_) | (refine lda 25 (.tmp 19) rfl rfl ?_; refine ldb q19 25 _ _ k19.out rfl under_wide rfl info_wide ?_) | (refine lda 25 (.tmp 21) rfl rfl ?_; refine ldb q21 25 _ _ k21.out rfl under_wide rfl info_wide ?_) | (refine ldga 25 (.tmp 3) rfl rfl ?_; refine ldgb q3 25 _ _ k3.out rfl under_wide rfl info_wide ?_) | (refine ldga 25 (.tmp 4) rfl rfl ?_; refine ldgb q4 25 _ _ k4.out rfl under_wide rfl info_wide ?_) | (refine ldga 25 (.tmp 5) rfl rfl ?_; refine ldgb q5 25 _ _ k5.out rfl under_wide rfl info_wide ?_) | (refine ldga 25 (.tmp 7) rfl rfl ?_; refine ldgb q7 25 _ _ k7.out rfl under_wide rfl info_wide ?_) | (refine ldga 25 (.tmp 9) rfl rfl ?_; refine ldgb q9 25 _ _ k9.out rfl under_wide rfl info_wide ?_) | (refine ldga 25 (.tmp 11) rfl rfl ?_; refine ldgb q11 25 _ _ k11.out rfl under_wide rfl info_wide ?_) | (refine ldga 25 (.tmp 13) rfl rfl ?_; refine ldgb q13 25 _ _ k13.out rfl under_wide rfl info_wide ?_) | (refine ldga 25 (.tmp 15) rfl rfl ?_; refine ldgb q15 25 _ _ k15.out rfl under_wide rfl info_wide ?_) | (refine ldga 25 (.tmp 17) rfl rfl ?_; refine ldgb q17 25 _ _ k17.out rfl under_wide rfl info_wide ?_) | (refine ldga 25 (.tmp 19) rfl rfl ?_; refine ldgb q19 25 _ _ k19.out rfl under_wide rfl info_wide ?_) | (refine ldga 25 (.tmp 21) rfl rfl ?_; refine ldgb q21 25 _ _ k21.out rfl under_wide rfl info_wide ?_))
        go_meet
        exact ⟨rfl, k3.out, k4.out, k5.out, k7.out, k9.out, k11.out, k13.out, k15.out, k17.out, k19.out, k21.out, kW⟩
      · subst h
        have hb : (E7 != 0) = true := by rw [bne, h2]; rfl
        go_wp2_with (first | (refine lda 25 (.tmp 3) rfl rfl ?_; refine ldb q3 25 _ _ k3.out rfl under_wide rfl info_wide ?_) | (refine lda 25 (.tmp 4) rfl rfl ?_; refine ldb q4 25 _ _ k4.out rfl under_wide rfl info_wide ?_) | (refine lda 25 (.tmp 5) rfl rfl ?_; refine ldb q5 25 _ _ k5.out rfl under_wide rfl info_wide ?_) | (refine lda 25 (.tmp 7) rfl rfl ?_; refine ldb q7 25 _ _ k7.out rfl under_wide rfl info_wide ?_) | (refine lda 25 (.tmp 9) rfl rfl ?_; refine ldb q9 25 _ _ k9.out rfl under_wide rfl info_wide ?_) | (refine lda 25 (.tmp 11) rfl rfl ?_; refine ldb q11 25 _ _ k11.out rfl under_wide rfl info_wide ?_) | (refine lda 25 (.tmp 13) rfl rfl ?_; refine ldb q13 25 _ _ k13.out rfl under_wide rfl info_wide ?_) | (refine lda 25 (.tmp 15) rfl rfl ?_; refine ldb q15 25 _ _ k15.out rfl under_wide rfl info_wide ?_) | (refine lda 25 (.tmp 17) rfl rfl ?_; refine ldb q17 25 _ _ k17.out rfl under_wide rfl info_wide ?_) | (refine lda 25 (.tmp 19) rfl rfl ?_; refine ldb q19 25 _ _ k19.out rfl under_wide rfl info_wide ?_) | (refine lda 25 (.tmp 21) rfl rfl ?_; refine ldb q21 25 _ _ k21.out rfl under_wide rfl info_wide ?_) | (refine ldga 25 (.tmp 3) rfl rfl ?_; refine ldgb q3 25 _ _ k3.out rfl under_wide rfl info_wide ?_) | (refine ldga 25 (.tmp 4) rfl rfl ?_; refine ldgb q4 25 _ _ k4.out rfl under_wide rfl info_wide ?_) | (refine ldga 25 (.tmp 5) rfl rfl ?_; refine ldgb q5 25 _ _ k5.out rfl under_wide rfl info_wide ?_) | (refine ldga 25 (.tmp 7) rfl rfl ?_; refine ldgb q7 25 _ _ k7.out rfl under_wide rfl info_wide ?_) | (refine ldga 25 (.tmp 9) rfl rfl ?_; refine ldgb q9 25 _ _ k9.out rfl under_wide rfl info_wide ?_) | (refine ldga 25 (.tmp 11) rfl rfl ?_; refine ldgb q11 25 _ _ k11.out rfl under_wide rfl info_wide ?_) | (refine ldga 25 (.tmp 13) rfl rfl ?_; refine ldgb q13 25 _ _ k13.out rfl under_wide rfl info_wide ?_) | (refine ldga 25 (.tmp 15) rfl rfl ?_; refine ldgb q15 25 _ _ k15.out rfl under_wide rfl info_wide ?_) | (refine ldga 25 (.tmp 17) rfl rfl ?_; refine ldgb q17 25 _ _ k17.out rfl under_wide rfl info_wide ?_) | (refine ldga 25 (.tmp 19) rfl rfl ?_; refine ldgb q19 25 _ _ k19.out rfl under_wide rfl info_wide ?_) | (refine ldga 25 (.tmp 21) rfl rfl ?_; refine ldgb q21 25 _ _ k21.out rfl under_wide rfl info_wide ?_))
        go_meet
        exact ⟨rfl, k3.out, k4.out, k5.out, k7.out, k9.out, k11.out, k13.out, k15.out, k17.out, k19.out, k21.out, kW⟩
      · subst h h2 h3 h4 h5
        go_wp2_with (first | (refine lda 25 (.tmp 3) rfl rfl ?_; refine ldb q3 25 _ _ k3.out rfl under_wide rfl info_wide ?_) | (refine lda 25 (.tmp 4) rfl rfl ?_; refine ldb q4 25 _ _ k4.out rfl under_wide rfl info_wide ?_) | (refine lda 25 (.tmp 5) rfl rfl ?_; refine ldb q5 25 _ _ k5.out rfl under_wide rfl info_wide ?_) | (refine lda 25 (.tmp 7) rfl rfl ?_; refine ldb q7 25 _ _ k7.out rfl under_wide rfl info_wide ?_) | (refine lda 25 (.tmp 9) rfl rfl ?_; refine ldb q9 25 _ _ k9.out rfl under_wide rfl info_wide ?_) | (refine lda 25 (.tmp 11) rfl rfl ?_; refine ldb q11 25 _ _ k11.out rfl under_wide rfl info_wide ?_) | (refine lda 25 (.tmp 13) rfl rfl ?_; refine ldb q13 25 _ _ k13.out rfl under_wide rfl info_wide ?_) | (refine lda 25 (.tmp 15) rfl rfl ?_; refine ldb q15 25 _ _ k15.out rfl under_wide rfl info_wide ?_) | (refine lda 25 (.tmp 17) rfl rfl ?_; refine ldb q17 25 _ _ k17.out rfl under_wide rfl info_wide ?_) | (refine lda 25 (.tmp 19) rfl rfl ?_; refine ldb q19 25 _ _ k19.out rfl under_wide rfl info_wide ?_) | (refine lda 25 (.tmp 21) rfl rfl ?_; refine ldb q21 25 _ _ k21.out rfl under_wide rfl info_wide ?_) | (refine ldga 25 (.tmp 3) rfl rfl ?_; refine ldgb q3 25 _ _ k3.out rfl under_wide rfl info_wide ?_) | (refine ldga 25 (.tmp 4) rfl rfl ?_; refine ldgb q4 25 _ _ k4.out rfl under_wide rfl info_wide ?_) | (refine ldga 25 (.tmp 5) rfl rfl ?_; refine ldgb q5 25 _ _ k5.out rfl under_wide rfl info_wide ?_) | (refine ldga 25 (.tmp 7) rfl rfl ?_; refine ldgb q7 25 _ _ k7.out rfl under_wide rfl info_wide ?_) | (refine ldga 25 (.tmp 9) rfl rfl ?_; refine ldgb q9 25 _ _ k9.out rfl under_wide rfl info_wide ?_) | (refine ldga 25 (.tmp 11) rfl rfl ?_; refine ldgb q11 25 _ _ k11.out rfl under_wide rfl info_wide ?_) | (refine ldga 25 (.tmp 13) rfl rfl ?_; refine ldgb q13 25 _ _ k13.out rfl under_wide rfl info_wide ?_) | (refine ldga 25 (.tmp 15) rfl rfl ?_; refine ldgb q15 25 _ _ k15.out rfl under_wide rfl info_wide ?_) | (refine ldga 25 (.tmp 17) rfl rfl ?_; refine ldgb q17 25 _ _ k17.out rfl under_wide rfl info_wide ?_) | (refine ldga 25 (.tmp 19) rfl rfl ?_; refine ldgb q19 25 _ _ k19.out rfl under_wide rfl info_wide ?_) | (refine ldga 25 (.tmp 21) rfl rfl ?_; refine ldgb q21 25 _ _ k21.out rfl under_wide rfl info_wide ?_))
        go_meet
        exact ⟨rfl, k3.out, k4.out, k5.out, k7.out, k9.out, k11.out, k13.out, k15.out, k17.out, k19.out, k21.out, kW⟩
    case rest =>
      clear k3 k4 k5 k7 k9 k11 k13 k15 k17 k19 k21 kW
      obtain ⟨rfl, k3, k4, k5, k7, k9, k11, k13, k15, k17, k19, k21, kW⟩ := hcut
      go_wp2_with (first | (refine lda 25 (.tmp 3) rfl rfl ?_; refine ldb q3 25 _ _ k3.out rfl under_wide rfl info_wide ?_) | (refine lda 25 (.tmp 4) rfl rfl ?_; refine ldb q4 25 _ _ k4.out rfl under_wide rfl info_wide ?_) | (refine lda 25 (.tmp 5) rfl rfl ?_; refine ldb q5 25 _ _ k5.out rfl under_wide rfl info_wide ?_) | (refine lda 25 (.tmp 7) rfl rfl ?_; refine ldb q7 25 _ _ k7.out rfl under_wide rfl info_wide ?_) | (refine lda 25 (.tmp 9) rfl rfl ?_; refine ldb q9 25 _ _ k9.out rfl under_wide rfl info_wide ?_) | (refine lda 25 (.tmp 11) rfl rfl ?_; refine ldb q11 25 _ _ k11.out rfl under_wide rfl info_wide ?_) | (refine lda 25 (.tmp 13) rfl rfl ?_; refine ldb q13 25 _ _ k13.out rfl under_wide rfl info_wide ?_) | (refine lda 25 (.tmp 15) rfl rfl ?_; refine ldb q15 25 _ _ k15.out rfl under_wide rfl info_wide ?_) | (refine lda 25 (.tmp 17) rfl rfl ?_; refine ldb q17 25 _ _ k17.out rfl under_wide rfl info_wide ?_) | (refine lda 25 (.tmp 19) rfl rfl ?_; refine ldb q19 25 _ _ k19.out rfl under_wide rfl info_wide ?_) | (refine lda 25 (.tmp 21) rfl rfl ?_; refine ldb q21 25 _ _ k21.out rfl under_wide rfl info_wide ?_) | (refine ldga 25 (.tmp 3) rfl rfl ?_; refine ldgb q3 25 _ _ k3.out rfl under_wide rfl info_wide ?_) | (refine ldga 25 (.tmp 4) rfl rfl ?_; refine ldgb q4 25 _ _ k4.out rfl under_wide rfl info_wide ?_) | (refine ldga 25 (.tmp 5) rfl rfl ?_; refine ldgb q5 25 _ _ k5.out rfl under_wide rfl info_wide ?_) | (refine ldga 25 (.tmp 7) rfl rfl ?_; refine ldgb q7 25 _ _ k7.out rfl under_wide rfl info_wide ?_) | (refine ldga 25 (.tmp 9) rfl rfl ?_; refine ldgb q9 25 _ _ k9.out rfl under_wide rfl info_wide ?_) | (refine ldga 25 (.tmp 11) rfl rfl ?_; refine ldgb q11 25 _ _ k11.out rfl under_wide rfl info_wide ?_) | (refine ldga 25 (.tmp 13) rfl rfl ?_; refine ldgb q13 25 _ _ k13.out rfl under_wide rfl info_wide ?_) | (refine ldga 25 (.tmp 15) rfl rfl ?_; refine ldgb q15 25 _ _ k15.out rfl under_wide rfl info_wide ?_) | (refine ldga 25 (.tmp 17) rfl rfl ?_; refine ldgb q17 25 _ _ k17.out rfl under_wide rfl info_wide ?_) | (refine ldga 25 (.tmp 19) rfl rfl ?_; refine ldgb q19 25 _ _ k19.out rfl under_wide rfl info_wide ?_) | (refine ldga 25 (.tmp 21) rfl rfl ?_; refine ldgb q21 25 _ _ k21.out rfl under_wide rfl info_wide ?_))
      refine (c9 _).mono ?_
      rintro e wc20 ⟨rfl, hb⟩
      replace k3 := Lib.hid (k3.out.below hb)
      replace k4 := Lib.hid (k4.out.below hb)
      replace k5 := Lib.hid (k5.out.below hb)
      replace k7 := Lib.hid (k7.out.below hb)
      replace k9 := Lib.hid (k9.out.below hb)
      replace k11 := Lib.hid (k11.out.below hb)
      replace k13 := Lib.hid (k13.out.below hb)
      replace k15 := Lib.hid (k15.out.below hb)
      replace k17 := Lib.hid (k17.out.below hb)
      replace k19 := Lib.hid (k19.out.below hb)
      replace k21 := Lib.hid (k21.out.below hb)
      replace kW := kW.trans (hb.mono kW.size)
      clear hb
      have l3 := k3.out.lt
      have l4 := k4.out.lt
      have l5 := k5.out.lt
      have l7 := k7.out.lt
      have l9 := k9.out.lt
      have l11 := k11.out.lt
      have l13 := k13.out.lt
      have l15 := k15.out.lt
      have l17 := k17.out.lt
      have l19 := k19.out.lt
      have l21 := k21.out.lt
      have z23 : Hid (Blk (wc20.alloc (.cells wid0 25)) (wc20.heap.size) 25 wid0) := (Blk.new _ _ _ : Blk (wc20.alloc (.cells wid0 25)) wc20.heap.size 25 wid0)
      have k23 : Hid (Blk ((wc20.alloc (.cells wid0 25)).setRow (wc20.heap.size) (widL S9 N9)) (wc20.heap.size) 25 (widL S9 N9)) := (z23.out.row (widL S9 N9))
      replace k3 := Lib.hid ((k3.out.old (.cells wid0 25)).rowOther (k := wc20.heap.size) (by omega) (widL S9 N9))
      replace k4 := Lib.hid ((k4.out.old (.cells wid0 25)).rowOther (k := wc20.heap.size) (by omega) (widL S9 N9))
      replace k5 := Lib.hid ((k5.out.old (.cells wid0 25)).rowOther (k := wc20.heap.size) (by omega) (widL S9 N9))
      replace k7 := Lib.hid ((k7.out.old (.cells wid0 25)).rowOther (k := wc20.heap.size) (by omega) (widL S9 N9))
      replace k9 := Lib.hid ((k9.out.old (.cells wid0 25)).rowOther (k := wc20.heap.size) (by omega) (widL S9 N9))
      replace k11 := Lib.hid ((k11.out.old (.cells wid0 25)).rowOther (k := wc20.heap.size) (by omega) (widL S9 N9))
      replace k13 := Lib.hid ((k13.out.old (.cells wid0 25)).rowOther (k := wc20.heap.size) (by omega) (widL S9 N9))
      replace k15 := Lib.hid ((k15.out.old (.cells wid0 25)).rowOther (k := wc20.heap.size) (by omega) (widL S9 N9))
      replace k17 := Lib.hid ((k17.out.old (.cells wid0 25)).rowOther (k := wc20.heap.size) (by omega) (widL S9 N9))
      replace k19 := Lib.hid ((k19.out.old (.cells wid0 25)).rowOther (k := wc20.heap.size) (by omega) (widL S9 N9))
      replace k21 := Lib.hid ((k21.out.old (.cells wid0 25)).rowOther (k := wc20.heap.size) (by omega) (widL S9 N9))
      replace kW := (below_row (kW.alloc (by first | exact kW.size | (simp; have := kW.size; omega)) (.cells wid0 25)) (g := wc20.heap.size) (by have := kW.size; omega) (widL S9 N9))
      go_wp2_with (first | (refine sta 25 (.tmp 23) (.tmp 131) rfl rfl ?_; refine stb (wc20.heap.size) (widL S9 N9) 25 _ z23.out rfl rfl info_wide rfl (widF_ones _ (wd N9)) ?_) | (refine lda 25 (.tmp 3) rfl rfl ?_; refine ldb q3 25 _ _ k3.out rfl under_wide rfl info_wide ?_) | (refine lda 25 (.tmp 4) rfl rfl ?_; refine ldb q4 25 _ _ k4.out rfl under_wide rfl info_wide ?_) | (refine lda 25 (.tmp 5) rfl rfl ?_; refine ldb q5 25 _ _ k5.out rfl under_wide rfl info_wide ?_) | (refine lda 25 (.tmp 7) rfl rfl ?_; refine ldb q7 25 _ _ k7.out rfl under_wide rfl info_wide ?_) | (refine lda 25 (.tmp 9) rfl rfl ?_; refine ldb q9 25 _ _ k9.out rfl under_wide rfl info_wide ?_) | (refine lda 25 (.tmp 11) rfl rfl ?_; refine ldb q11 25 _ _ k11.out rfl under_wide rfl info_wide ?_) | (refine lda 25 (.tmp 13) rfl rfl ?_; refine ldb q13 25 _ _ k13.out rfl under_wide rfl info_wide ?_) | (refine lda 25 (.tmp 15) rfl rfl ?_; refine ldb q15 25 _ _ k15.out rfl under_wide rfl info_wide ?_) | (refine lda 25 (.tmp 17) rfl rfl ?_; refine ldb q17 25 _ _ k17.out rfl under_wide rfl info_wide ?_) | (refine lda 25 (.tmp 19) rfl rfl ?_; refine ldb q19 25 _ _ k19.out rfl under_wide rfl info_wide ?_) | (refine lda 25 (.tmp 21) rfl rfl ?_; refine ldb q21 25 _ _ k21.out rfl under_wide rfl info_wide ?_) | (refine lda 25 (.tmp 23) rfl rfl ?_; refine ldb (wc20.heap.size) 25 _ _ k23.out rfl under_wide rfl info_wide ?_) | (refine ldga 25 (.tmp 3) rfl rfl ?_; refine ldgb q3 25 _ _ k3.out rfl under_wide rfl info_wide ?_) | (refine ldga 25 (.tmp 4) rfl rfl ?_; refine ldgb q4 25 _ _ k4.out rfl under_wide rfl info_wide ?_) | (refine ldga 25 (.tmp 5) rfl rfl ?_; refine ldgb q5 25 _ _ k5.out rfl under_wide rfl info_wide ?_) | (refine ldga 25 (.tmp 7) rfl rfl ?_; refine ldgb q7 25 _ _ k7.out rfl under_wide rfl info_wide ?_) | (refine ldga 25 (.tmp 9) rfl rfl ?_; refine ldgb q9 25 _ _ k9.out rfl under_wide rfl info_wide ?_) | (refine ldga 25 (.tmp 11) rfl rfl ?_; refine ldgb q11 25 _ _ k11.out rfl under_wide rfl info_wide ?_) | (refine ldga 25 (.tmp 13) rfl rfl ?_; refine ldgb q13 25 _ _ k13.out rfl under_wide rfl info_wide ?_) | (refine ldga 25 (.tmp 15) rfl rfl ?_; refine ldgb q15 25 _ _ k15.out rfl under_wide rfl info_wide ?_) | (refine ldga 25 (.tmp 17) rfl rfl ?_; refine ldgb q17 25 _ _ k17.out rfl under_wide rfl info_wide ?_) | (refine ldga 25 (.tmp 19) rfl rfl ?_; refine ldgb q19 25 _ _ k19.out rfl under_wide rfl info_wide ?_) | (refine ldga 25 (.tmp 21) rfl rfl ?_; refine ldgb q21 25 _ _ k21.out rfl under_wide rfl info_wide ?_) | (refine ldga 25 (.tmp 23) rfl rfl ?_; refine ldgb (wc20.heap.size) 25 _ _ k23.out rfl under_wide rfl info_wide ?_))
      clear z23 l3 l4 l5 l7 l9 l11 l13 l15 l17 l19 l21
      generalize wc20.heap.size = q23 at k3 k4 k5 k7 k9 k11 k13 k15 k17 k19 k21 k23 kW ⊢
      generalize World.setRow _ _ _ = wa21 at k3 k4 k5 k7 k9 k11 k13 k15 k17 k19 k21 k23 kW ⊢
      refine (c10 _).mono ?_
      rintro e wc22 ⟨rfl, hb⟩
      replace k3 := Lib.hid (k3.out.below hb)
      replace k4 := Lib.hid (k4.out.below hb)
      replace k5 := Lib.hid (k5.out.below hb)
      replace k7 := Lib.hid (k7.out.below hb)
      replace k9 := Lib.hid (k9.out.below hb)
      replace k11 := Lib.hid (k11.out.below hb)
      replace k13 := Lib.hid (k13.out.below hb)
      replace k15 := Lib.hid (k15.out.below hb)
      replace k17 := Lib.hid (k17.out.below hb)
      replace k19 := Lib.hid (k19.out.below hb)
      replace k21 := Lib.hid (k21.out.below hb)
      replace k23 := Lib.hid (k23.out.below hb)
      replace kW := kW.trans (hb.mono kW.size)
      clear hb
      have l3 := k3.out.lt
      have l4 := k4.out.lt
      have l5 := k5.out.lt
      have l7 := k7.out.lt
      have l9 := k9.out.lt
      have l11 := k11.out.lt
      have l13 := k13.out.lt
      have l15 := k15.out.lt
      have l17 := k17.out.lt
      have l19 := k19.out.lt
      have l21 := k21.out.lt
      have l23 := k23.out.lt
      have z25 : Hid (Blk (wc22.alloc (.cells wid0 25)) (wc22.heap.size) 25 wid0) := (Blk.new _ _ _ : Blk (wc22.alloc (.cells wid0 25)) wc22.heap.size 25 wid0)
      have k25 : Hid (Blk ((wc22.alloc (.cells wid0 25)).setRow (wc22.heap.size) (widL S10 N10)) (wc22.heap.size) 25 (widL S10 N10)) := (z25.out.row (widL S10 N10))
      replace k3 := Lib.hid ((k3.out.old (.cells wid0 25)).rowOther (k := wc22.heap.size) (by omega) (widL S10 N10))
      replace k4 := Lib.hid ((k4.out.old (.cells wid0 25)).rowOther (k := wc22.heap.size) (by omega) (widL S10 N10))
      replace k5 := Lib.hid ((k5.out.old (.cells wid0 25)).rowOther (k := wc22.heap.size) (by omega) (widL S10 N10))
      replace k7 := Lib.hid ((k7.out.old (.cells wid0 25)).rowOther (k := wc22.heap.size) (by omega) (widL S10 N10))
      replace k9 := Lib.hid ((k9.out.old (.cells wid0 25)).rowOther (k := wc22.heap.size) (by omega) (widL S10 N10))
      replace k11 := Lib.hid ((k11.out.old (.cells wid0 25)).rowOther (k := wc22.heap.size) (by omega) (widL S10 N10))
      replace k13 := Lib.hid ((k13.out.old (.cells wid0 25)).rowOther (k := wc22.heap.size) (by omega) (widL S10 N10))
      replace k15 := Lib.hid ((k15.out.old (.cells wid0 25)).rowOther (k := wc22.heap.size) (by omega) (widL S10 N10))
      replace k17 := Lib.hid ((k17.out.old (.cells wid0 25)).rowOther (k := wc22.heap.size) (by omega) (widL S10 N10))
      replace k19 := Lib.hid ((k19.out.old (.cells wid0 25)).rowOther (k := wc22.heap.size) (by omega) (widL S10 N10))
      replace k21 := Lib.hid ((k21.out.old (.cells wid0 25)).rowOther (k := wc22.heap.size) (by omega) (widL S10 N10))
      replace k23 := Lib.hid ((k23.out.old (.cells wid0 25)).rowOther (k := wc22.heap.size) (by omega) (widL S10 N10))
      replace kW := (below_row (kW.alloc (by first | exact kW.size | (simp; have := kW.size; omega)) (.cells wid0 25)) (g := wc22.heap.size) (by have := kW.size; omega) (widL S10 N10))
      go_wp2_with (first | (refine sta 25 (.tmp 25) (.tmp 137) rfl rfl ?_; refine stb (wc22.heap.size) (widL S10 N10) 25 _ z25.out rfl rfl info_wide rfl (widF_ones _ (wd N10)) ?_) | (refine lda 25 (.tmp 3) rfl rfl ?_; refine ldb q3 25 _ _ k3.out rfl under_wide rfl info_wide ?_) | (refine lda 25 (.tmp 4) rfl rfl ?_; refine ldb q4 25 _ _ k4.out rfl under_wide rfl info_wide ?_) | (refine lda 25 (.tmp 5) rfl rfl ?_; refine ldb q5 25 _ _ k5.out rfl under_wide rfl info_wide ?_) | (refine lda 25 (.tmp 7) rfl rfl ?_; refine ldb q7 25 _ _ k7.out rfl under_wide rfl info_wide ?_) | (refine lda 25 (.tmp 9) rfl rfl ?_; refine ldb q9 25 _ _ k9.out rfl under_wide rfl info_wide ?_) | (refine lda 25 (.tmp 11) rfl rfl ?_; refine ldb q11 25 _ _ k11.out rfl under_wide rfl info_wide ?_) | (refine lda 25 (.tmp 13) rfl rfl ?_; refine ldb q13 25 _ _ k13.out rfl under_wide rfl info_wide ?_) | (refine lda 25 (.tmp 15) rfl rfl ?_; refine ldb q15 25 _ _ k15.out rfl under_wide rfl info_wide ?_) | (refine lda 25 (.tmp 17) rfl rfl ?_; refine ldb q17 25 _ _ k17.out rfl under_wide rfl info_wide ?_) | (refine lda 25 (.tmp 19) rfl rfl ?_; refine ldb q19 25 _ _ k19.out rfl under_wide rfl info_wide ?_) | (refine lda 25 (.tmp 21) rfl rfl ?_; refine ldb q21 25 _ _ k21.out rfl under_wide rfl info_wide ?_) | (refine lda 25 (.tmp 23) rfl rfl ?_; refine ldb q23 25 _ _ k23.out rfl under_wide rfl info_wide ?_) | (refine lda 25 (.tmp 25) rfl rfl ?_; refine ldb (wc22.heap.size) 25 _ _ k25.out rfl under_wide rfl info_wide ?_) | (refine ldga 25 (.tmp 3) rfl rfl ?_; refine ldgb q3 25 _ _ k3.out rfl under_wide rfl info_wide ?_) | (refine ldga 25 (.tmp 4) rfl rfl ?_; refine ldgb q4 25 _ _ k4.out rfl under_wide rfl info_wide ?_) | (refine ldga 25 (.tmp 5) rfl rfl ?_; refine ldgb q5 25 _ _ k5.out rfl under_wide rfl info_wide ?_) | (refine ldga 25 (.tmp 7) rfl rfl ?_; refine ldgb q7 25 _ _ k7.out rfl under_wide rfl info_wide ?_) | (refine ldga 25 (.tmp 9) rfl rfl ?_; refine ldgb q9 25 _ _ k9.out rfl under_wide rfl info_wide ?_) | (refine ldga 25 (.tmp 11) rfl rfl ?_; refine ldgb q11 25 _ _ k11.out rfl under_wide rfl info_wide ?_) | (refine ldga 25 (.tmp 13) rfl rfl ?_; refine ldgb q13 25 _ _ k13.out rfl under_wide rfl info_wide ?_) | (refine ldga 25 (.tmp 15) rfl rfl ?_; refine ldgb q15 25 _ _ k15.out rfl under_wide rfl info_wide ?_) | (refine ldga 25 (.tmp 17) rfl rfl ?_; refine ldgb q17 25 _ _ k17.out rfl under_wide rfl info_wide ?_) | (refine ldga 25 (.tmp 19) rfl rfl ?_; refine ldgb q19 25 _ _ k19.out rfl under_wide rfl info_wide ?_) | (refine ldga 25 (.tmp 21) rfl rfl ?_; refine ldgb q21 25 _ _ k21.out rfl under_wide rfl info_wide ?_) | (refine ldga 25 (.tmp 23) rfl rfl ?_; refine ldgb q23 25 _ _ k23.out rfl under_wide rfl info_wide ?_) | (refine ldga 25 (.tmp 25) rfl rfl ?_; refine ldgb (wc22.heap.size) 25 _ _ k25.out rfl under_wide rfl info_wide ?_))
      clear z25 l3 l4 l5 l7 l9 l11 l13 l15 l17 l19 l21 l23
      generalize wc22.heap.size = q25 at k3 k4 k5 k7 k9 k11 k13 k15 k17 k19 k21 k23 k25 kW ⊢
      generalize World.setRow _ _ _ = wa23 at k3 k4 k5 k7 k9 k11 k13 k15 k17 k19 k21 k23 k25 kW ⊢
      refine (c11 _).mono ?_
      rintro e wc24 ⟨rfl, hb⟩
      replace k3 := Lib.hid (k3.out.below hb)
      replace k4 := Lib.hid (k4.out.below hb)
      replace k5 := Lib.hid (k5.out.below hb)
      replace k7 := Lib.hid (k7.out.below hb)
      replace k9 := Lib.hid (k9.out.below hb)
      replace k11 := Lib.hid (k11.out.below hb)
      replace k13 := Lib.hid (k13.out.below hb)
      replace k15 := Lib.hid (k15.out.below hb)
      replace k17 := Lib.hid (k17.out.below hb)
      replace k19 := Lib.hid (k19.out.below hb)
      replace k21 := Lib.hid (k21.out.below hb)
      replace k23 := Lib.hid (k23.out.below hb)
      replace k25 := Lib.hid (k25.out.below hb)
      replace kW := kW.trans (hb.mono kW.size)
      clear hb
      have l3 := k3.out.lt
      have l4 := k4.out.lt
      have l5 := k5.out.lt
      have l7 := k7.out.lt
      have l9 := k9.out.lt
      have l11 := k11.out.lt
      have l13 := k13.out.lt
      have l15 := k15.out.lt
      have l17 := k17.out.lt
      have l19 := k19.out.lt
      have l21 := k21.out.lt
      have l23 := k23.out.lt
      have l25 := k25.out.lt
      have z27 : Hid (Blk (wc24.alloc (.cells wid0 25)) (wc24.heap.size) 25 wid0) := (Blk.new _ _ _ : Blk (wc24.alloc (.cells wid0 25)) wc24.heap.size 25 wid0)
      have k27 : Hid (Blk ((wc24.alloc (.cells wid0 25)).setRow (wc24.heap.size) (widL S11 N11)) (wc24.heap.size) 25 (widL S11 N11)) := (z27.out.row (widL S11 N11))
      replace k3 := Lib.hid ((k3.out.old (.cells wid0 25)).rowOther (k := wc24.heap.size) (by omega) (widL S11 N11))
      replace k4 := Lib.hid ((k4.out.old (.cells wid0 25)).rowOther (k := wc24.heap.size) (by omega) (widL S11 N11))
      replace k5 := Lib.hid ((k5.out.old (.cells wid0 25)).rowOther (k := wc24.heap.size) (by omega) (widL S11 N11))
      replace k7 := Lib.hid ((k7.out.old (.cells wid0 25)).rowOther (k := wc24.heap.size) (by omega) (widL S11 N11))
      replace k9 := Lib.hid ((k9.out.old (.cells wid0 25)).rowOther (k := wc24.heap.size) (by omega) (widL S11 N11))
      replace k11 := Lib.hid ((k11.out.old (.cells wid0 25)).rowOther (k := wc24.heap.size) (by omega) (widL S11 N11))
      replace k13 := Lib.hid ((k13.out.old (.cells wid0 25)).rowOther (k := wc24.heap.size) (by omega) (widL S11 N11))
      replace k15 := Lib.hid ((k15.out.old (.cells wid0 25)).rowOther (k := wc24.heap.size) (by omega) (widL S11 N11))
      replace k17 := Lib.hid ((k17.out.old (.cells wid0 25)).rowOther (k := wc24.heap.size) (by omega) (widL S11 N11))
      replace k19 := Lib.hid ((k19.out.old (.cells wid0 25)).rowOther (k := wc24.heap.size) (by omega) (widL S11 N11))
      replace k21 := Lib.hid ((k21.out.old (.cells wid0 25)).rowOther (k := wc24.heap.size) (by omega) (widL S11 N11))
      replace k23 := Lib.hid ((k23.out.old (.cells wid0 25)).rowOther (k := wc24.heap.size) (by omega) (widL S11 N11))
      replace k25 := Lib.hid ((k25.out.old (.cells wid0 25)).rowOther (k := wc24.heap.size) (by omega) (widL S11 N11))
      replace kW := (below_row (kW.alloc (by first | exact kW.size | (simp; have := kW.size; omega)) (.cells wid0 25)) (g := wc24.heap.size) (by have := kW.size; omega) (widL S11 N11))
      go_wp2_with (first | (refine sta 25 (.tmp 27) (.tmp 143) rfl rfl ?_; refine stb (wc24.heap.size) (widL S11 N11) 25 _ z27.out rfl rfl info_wide rfl (widF_ones _ (wd N11)) ?_) | (refine lda 25 (.tmp 3) rfl rfl ?_; refine ldb q3 25 _ _ k3.out rfl under_wide rfl info_wide ?_) | (refine lda 25 (.tmp 4) rfl rfl ?_; refine ldb q4 25 _ _ k4.out rfl under_wide rfl info_wide ?_) | (refine lda 25 (.tmp 5) rfl rfl ?_; refine ldb q5 25 _ _ k5.out rfl under_wide rfl info_wide ?_) | (refine lda 25 (.tmp 7) rfl rfl ?_; refine ldb q7 25 _ _ k7.out rfl under_wide rfl info_wide ?_) | (refine lda 25 (.tmp 9) rfl rfl ?_; refine ldb q9 25 _ _ k9.out rfl under_wide rfl info_wide ?_) | (refine lda 25 (.tmp 11) rfl rfl ?_; refine ldb q11 25 _ _ k11.out rfl under_wide rfl info_wide ?_) | (refine lda 25 (.tmp 13) rfl rfl ?_; refine ldb q13 25 _ _ k13.out rfl under_wide rfl info_wide ?_) | (refine lda 25 (.tmp 15) rfl rfl ?_; refine ldb q15 25 _ _ k15.out rfl under_wide rfl info_wide ?_) | (refine lda 25 (.tmp 17) rfl rfl ?_; refine ldb q17 25 _ _ k17.out rfl under_wide rfl info_wide ?_) | (refine lda 25 (.tmp 19) rfl rfl ?_; refine ldb q19 25 _ _ k19.out rfl under_wide rfl info_wide ?_) | (refine lda 25 (.tmp 21) rfl rfl ?_; refine ldb q21 25 _ _ k21.out rfl under_wide rfl info_wide ?_) | (refine lda 25 (.tmp 23) rfl rfl ?_; refine ldb q23 25 _ _ k23.out rfl under_wide rfl info_wide ?_) | (refine lda 25 (.tmp 25) rfl rfl ?_; refine ldb q25 25 _ _ k25.out rfl under_wide rfl info_wide ?_) | (refine lda 25 (.tmp 27) rfl rfl ?_; refine ldb (wc24.heap.size) 25 _ _ k27.out rfl under_wide rfl info_wide ?_) | (refine ldga 25 (.tmp 3) rfl rfl ?_; refine ldgb q3 25 _ _ k3.out rfl under_wide rfl info_wide ?_) | (refine ldga 25 (.tmp 4) rfl rfl ?_; refine ldgb q4 25 _ _ k4.out rfl under_wide rfl info_wide ?_) | (refine ldga 25 (.tmp 5) rfl rfl ?_; refine ldgb q5 25 _ _ k5.out rfl under_wide rfl info_wide ?_) | (refine ldga 25 (.tmp 7) rfl rfl ?_; refine ldgb q7 25 _ _ k7.out rfl under_wide rfl info_wide ?_) | (refine ldga 25 (.tmp 9) rfl rfl ?_; refine ldgb q9 25 _ _ k9.out rfl under_wide rfl info_wide ?_) | (refine ldga 25 (.tmp 11) rfl rfl ?_; refine ldgb q11 25 _ _ k11.out rfl under_wide rfl info_wide ?_) | (refine ldga 25 (.tmp 13) rfl rfl ?_; refine ldgb q13 25 _ _ k13.out rfl under_wide rfl info_wide ?_) | (refine ldga 25 (.tmp 15) rfl rfl ?_; refine ldgb q15 25 _ _ k15.out rfl under_wide rfl info_wide ?_) | (refine ldga 25 (.tmp 17) rfl rfl ?_; refine ldgb q17 25 _ _ k17.out rfl under_wide rfl info_wide ?_) | (refine ldga 25 (.tmp 19) rfl rfl ?_; refine ldgb q19 25 _ _ k19.out rfl under_wide rfl info_wide ?_) | (refine ldga 25 (.tmp 21) rfl rfl ?_; refine ldgb q21 25 _ _ k21.out rfl under_wide rfl info_wide ?_) | (refine ldga 25 (.tmp 23) rfl rfl ?_; refine ldgb q23 25 _ _ k23.out rfl under_wide rfl info_wide ?_) | (refine ldga 25 (.tmp 25) rfl rfl ?_; refine ldgb q25 25 _ _ k25.out rfl under_wide rfl info_wide ?_) | (refine ldga 25 (.tmp 27) rfl rfl ?_; refine ldgb (wc24.heap.size) 25 _ _ k27.out rfl under_wide rfl info_wide ?_))
      clear z27 l3 l4 l5 l7 l9 l11 l13 l15 l17 l19 l21 l23 l25
      generalize wc24.heap.size = q27 at k3 k4 k5 k7 k9 k11 k13 k15 k17 k19 k21 k23 k25 k27 kW ⊢
      generalize World.setRow _ _ _ = wa25 at k3 k4 k5 k7 k9 k11 k13 k15 k17 k19 k21 k23 k25 k27 kW ⊢
      refine (c12 _).mono ?_
      rintro e wc26 ⟨rfl, hb⟩
      replace k3 := Lib.hid (k3.out.below hb)
      replace k4 := Lib.hid (k4.out.below hb)
      replace k5 := Lib.hid (k5.out.below hb)
      replace k7 := Lib.hid (k7.out.below hb)
      replace k9 := Lib.hid (k9.out.below hb)
      replace k11 := Lib.hid (k11.out.below hb)
      replace k13 := Lib.hid (k13.out.below hb)
      replace k15 := Lib.hid (k15.out.below hb)
      replace k17 := Lib.hid (k17.out.below hb)
      replace k19 := Lib.hid (k19.out.below hb)
      replace k21 := Lib.hid (k21.out.below hb)
      replace k23 := Lib.hid (k23.out.below hb)
      replace k25 := Lib.hid (k25.out.below hb)
      replace k27 := Lib.hid (k27.out.below hb)
      replace kW := kW.trans (hb.mono kW.size)
      clear hb
      rcases T2.out with h | ⟨h, h2⟩ | ⟨h, h2, h3⟩ | ⟨h, h2, h3, h4, h5, h6⟩
      · have hb : (E9 != 0) = true := by rw [bne, h]; rfl
        have l3 := k3.out.lt
        have l4 := k4.out.lt
        have l5 := k5.out.lt
        have l7 := k7.out.lt
        have l9 := k9.out.lt
        have l11 := k11.out.lt
        have l13 := k13.out.lt
        have l15 := k15.out.lt
        have l17 := k17.out.lt
        have l19 := k19.out.lt
        have l21 := k21.out.lt
        have l23 := k23.out.lt
        have l25 := k25.out.lt
        have l27 := k27.out.lt
        have z29 : Hid (Blk (wc26.alloc (.cells wid0 25)) (wc26.heap.size) 25 wid0) := (Blk.new _ _ _ : Blk (wc26.alloc (.cells wid0 25)) wc26.heap.size 25 wid0)
        have k29 : Hid (Blk ((wc26.alloc (.cells wid0 25)).setRow (wc26.heap.size) (widL S12 N12)) (wc26.heap.size) 25 (widL S12 N12)) := (z29.out.row (widL S12 N12))
        replace k3 := Lib.hid ((k3.out.old (.cells wid0 25)).rowOther (k := wc26.heap.size) (by omega) (widL S12 N12))
        replace k4 := Lib.hid ((k4.out.old (.cells wid0 25)).rowOther (k := wc26.heap.size) (by omega) (widL S12 N12))
        replace k5 := Lib.hid ((k5.out.old (.cells wid0 25)).rowOther (k := wc26.heap.size) (by omega) (widL S12 N12))
        replace k7 := Lib.hid ((k7.out.old (.cells wid0 25)).rowOther (k := wc26.heap.size) (by omega) (widL S12 N12))
        replace k9 := Lib.hid ((k9.out.old (.cells wid0 25)).rowOther (k := wc26.heap.size) (by omega) (widL S12 N12))
        replace k11 := Lib.hid ((k11.out.old (.cells wid0 25)).rowOther (k := wc26.heap.size) (by omega) (widL S12 N12))
        replace k13 := Lib.hid ((k13.out.old (.cells wid0 25)).rowOther (k := wc26.heap.size) (by omega) (widL S12 N12))
        replace k15 := Lib.hid ((k15.out.old (.cells wid0 25)).rowOther (k := wc26.heap.size) (by omega) (widL S12 N12))
        replace k17 := Lib.hid ((k17.out.old (.cells wid0 25)).rowOther (k := wc26.heap.size) (by omega) (widL S12 N12))
        replace k19 := Lib.hid ((k19.out.old (.cells wid0 25)).rowOther (k := wc26.heap.size) (by omega) (widL S12 N12))
        replace k21 := Lib.hid ((k21.out.old (.cells wid0 25)).rowOther (k := wc26.heap.size) (by omega) (widL S12 N12))
        replace k23 := Lib.hid ((k23.out.old (.cells wid0 25)).rowOther (k := wc26.heap.size) (by omega) (widL S12 N12))
        replace k25 := Lib.hid ((k25.out.old (.cells wid0 25)).rowOther (k := wc26.heap.size) (by omega) (widL S12 N12))
        replace k27 := Lib.hid ((k27.out.old (.cells wid0 25)).rowOther (k := wc26.heap.size) (by omega) (widL S12 N12))
        replace kW := (below_row (kW.alloc (by first | exact kW.size | (simp; have := kW.size; omega)) (.cells wid0 25)) (g := wc26.heap.size) (by have := kW.size; omega) (widL S12 N12))
        go_wp2_with (first | (refine sta 25 (.tmp 29) (.tmp 149) rfl rfl ?_; refine stb (wc26.heap.size) (widL S12 N12) 25 _ z29.out rfl rfl info_wide rfl (widF_ones _ (wd N12)) ?_) | (refine lda 25 (.tmp 3) rfl rfl ?_; refine ldb q3 25 _ _ k3.out rfl under_wide rfl info_wide ?_) | (refine lda 25 (.tmp 4) rfl rfl ?_; refine ldb q4 25 _ _ k4.out rfl under_wide rfl info_wide ?_) | (refine lda 25 (.tmp 5) rfl rfl ?_; refine ldb q5 25 _ _ k5.out rfl under_wide rfl info_wide ?_) | (refine lda 25 (.tmp 7) rfl rfl ?_; refine ldb q7 25 _ _ k7.out rfl under_wide rfl info_wide ?_) | (refine lda 25 (.tmp 9) rfl rfl ?_; refine ldb q9 25 _ _ k9.out rfl under_wide rfl info_wide ?_) | (refine lda 25 (.tmp 11) rfl rfl ?_; refine ldb q11 25 _ _ k11.out rfl under_wide rfl info_wide ?_) | (refine lda 25 (.tmp 13) rfl rfl ?_; refine ldb q13 25 _ _ k13.out rfl under_wide rfl info_wide ?_) | (refine lda 25 (.tmp 15) rfl rfl ?_; refine ldb q15 25 _ _ k15.out rfl under_wide rfl info_wide ?_) | (refine lda 25 (.tmp 17) rfl rfl ?_; refine ldb q17 25 _ _ k17.out rfl under_wide rfl info_wide ?_) | (refine lda 25 (.tmp 19) rfl rfl ?_; refine ldb q19 25 _ _ k19.out rfl under_wide rfl info_wide ?_) | (refine lda 25 (.tmp 21) rfl rfl ?_; refine ldb q21 25 _ _ k21.out rfl under_wide rfl info_wide ?_) | (refine lda 25 (.tmp 23) rfl rfl ?_; refine ldb q23 25 _ _ k23.out rfl under_wide rfl info_wide ?_) | (refine lda 25 (.tmp 25) rfl rfl ?_; refine ldb q25 25 _ _ k25.out rfl under_wide rfl info_wide ?_) | (refine lda 25 (.tmp 27) rfl rfl ?_; refine ldb q27 25 _ _ k27.out rfl under_wide rfl info_wide ?_) | (refine lda 25 (.tmp 29) rfl rfl ?_; refine ldb (wc26.heap.size) 25 _ _ k29.out rfl under_wide rfl info_wide ?_) | (refine ldga 25 (.tmp 3) rfl rfl ?_; refine ldgb q3 25 _ _ k3.out rfl under_wide rfl info_wide ?_) | (refine ldga 25 (.tmp 4) rfl rfl ?_; refine ldgb q4 25 _ _ k4.out rfl under_wide rfl info_wide ?_) | (refine ldga 25 (.tmp 5) rfl rfl ?_; refine ldgb q5 25 _ _ k5.out rfl under_wide rfl info_wide ?_) | (refine ldga 25 (.tmp 7) rfl rfl ?_; refine ldgb q7 25 _ _ k7.out rfl under_wide rfl info_wide ?_) | (refine ldga 25 (.tmp 9) rfl rfl ?_; refine ldgb q9 25 _ _ k9.out rfl under_wide rfl info_wide ?_) | (refine ldga 25 (.tmp 11) rfl rfl ?_; refine ldgb q11 25 _ _ k11.out rfl under_wide rfl info_wide ?_) | (refine ldga 25 (.tmp 13) rfl rfl ?_; refine ldgb q13 25 _ _ k13.out rfl under_wide rfl info_wide ?_) | (refine ldga 25 (.tmp 15) rfl rfl ?_; refine ldgb q15 25 _ _ k15.out rfl under_wide rfl info_wide ?_) | (refine ldga 25 (.tmp 17) rfl rfl ?_; refine ldgb q17 25 _ _ k17.out rfl under_wide rfl info_wide ?_) | (refine ldga 25 (.tmp 19) rfl rfl ?_; refine ldgb q19 25 _ _ k19.out rfl under_wide rfl info_wide ?_) | (refine ldga 25 (.tmp 21) rfl rfl ?_; refine ldgb q21 25 _ _ k21.out rfl under_wide rfl info_wide ?_) | (refine ldga 25 (.tmp 23) rfl rfl ?_; refine ldgb q23 25 _ _ k23.out rfl under_wide rfl info_wide ?_) | (refine ldga 25 (.tmp 25) rfl rfl ?_; refine ldgb q25 25 _ _ k25.out rfl under_wide rfl info_wide ?_) | (refine ldga 25 (.tmp 27) rfl rfl ?_; refine ldgb q27 25 _ _ k27.out rfl under_wide rfl info_wide ?_) | (refine ldga 25 (.tmp 29) rfl rfl ?_; refine ldgb (wc26.heap.size) 25 _ _ k29.out rfl under_wide rfl info_wide ?_))
        clear z29 l3 l4 l5 l7 l9 l11 l13 l15 l17 l19 l21 l23 l25 l27
        generalize wc26.heap.size = q29 at k3 k4 k5 k7 k9 k11 k13 k15 k17 k19 k21 k23 k25 k27 k29 kW ⊢
        generalize World.setRow _ _ _ = wa27 at k3 k4 k5 k7 k9 k11 k13 k15 k17 k19 k21 k23 k25 k27 k29 kW ⊢
        refine (awake_any _).mono ?_
        rintro e wc28 ⟨rfl, hb⟩
        replace k3 := Lib.hid (k3.out.below hb)
        replace k4 := Lib.hid (k4.out.below hb)
        replace k5 := Lib.hid (k5.out.below hb)
        replace k7 := Lib.hid (k7.out.below hb)
        replace k9 := Lib.hid (k9.out.below hb)
        replace k11 := Lib.hid (k11.out.below hb)
        replace k13 := Lib.hid (k13.out.below hb)
        replace k15 := Lib.hid (k15.out.below hb)
        replace k17 := Lib.hid (k17.out.below hb)
        replace k19 := Lib.hid (k19.out.below hb)
        replace k21 := Lib.hid (k21.out.below hb)
        replace k23 := Lib.hid (k23.out.below hb)
        replace k25 := Lib.hid (k25.out.below hb)
        replace k27 := Lib.hid (k27.out.below hb)
        replace k29 := Lib.hid (k29.out.below hb)
        replace kW := kW.trans (hb.mono kW.size)
        clear hb
        go_wp2_with fail
        go_ret
        exact ⟨rfl, kW⟩
      · subst h
        have l3 := k3.out.lt
        have l4 := k4.out.lt
        have l5 := k5.out.lt
        have l7 := k7.out.lt
        have l9 := k9.out.lt
        have l11 := k11.out.lt
        have l13 := k13.out.lt
        have l15 := k15.out.lt
        have l17 := k17.out.lt
        have l19 := k19.out.lt
        have l21 := k21.out.lt
        have l23 := k23.out.lt
        have l25 := k25.out.lt
        have l27 := k27.out.lt
        have z29 : Hid (Blk (wc26.alloc (.cells wid0 25)) (wc26.heap.size) 25 wid0) := (Blk.new _ _ _ : Blk (wc26.alloc (.cells wid0 25)) wc26.heap.size 25 wid0)
        have k29 : Hid (Blk ((wc26.alloc (.cells wid0 25)).setRow (wc26.heap.size) (widL S12 N12)) (wc26.heap.size) 25 (widL S12 N12)) := (z29.out.row (widL S12 N12))
        replace k3 := Lib.hid ((k3.out.old (.cells wid0 25)).rowOther (k := wc26.heap.size) (by omega) (widL S12 N12))
        replace k4 := Lib.hid ((k4.out.old (.cells wid0 25)).rowOther (k := wc26.heap.size) (by omega) (widL S12 N12))
        replace k5 := Lib.hid ((k5.out.old (.cells wid0 25)).rowOther (k := wc26.heap.size) (by omega) (widL S12 N12))
        replace k7 := Lib.hid ((k7.out.old (.cells wid0 25)).rowOther (k := wc26.heap.size) (by omega) (widL S12 N12))
        replace k9 := Lib.hid ((k9.out.old (.cells wid0 25)).rowOther (k := wc26.heap.size) (by omega) (widL S12 N12))
        replace k11 := Lib.hid ((k11.out.old (.cells wid0 25)).rowOther (k := wc26.heap.size) (by omega) (widL S12 N12))
        replace k13 := Lib.hid ((k13.out.old (.cells wid0 25)).rowOther (k := wc26.heap.size) (by omega) (widL S12 N12))
        replace k15 := Lib.hid ((k15.out.old (.cells wid0 25)).rowOther (k := wc26.heap.size) (by omega) (widL S12 N12))
        replace k17 := Lib.hid ((k17.out.old (.cells wid0 25)).rowOther (k := wc26.heap.size) (by omega) (widL S12 N12))
        replace k19 := Lib.hid ((k19.out.old (.cells wid0 25)).rowOther (k := wc26.heap.size) (by omega) (widL S12 N12))
        replace k21 := Lib.hid ((k21.out.old (.cells wid0 25)).rowOther (k := wc26.heap.size) (by omega) (widL S12 N12))
        replace k23 := Lib.hid ((k23.out.old (.cells wid0 25)).rowOther (k := wc26.heap.size) (by omega) (widL S12 N12))
        replace k25 := Lib.hid ((k25.out.old (.cells wid0 25)).rowOther (k := wc26.heap.size) (by omega) (widL S12 N12))
        replace k27 := Lib.hid ((k27.out.old (.cells wid0 25)).rowOther (k := wc26.heap.size) (by omega) (widL S12 N12))
        replace kW := (below_row (kW.alloc (by first | exact kW.size | (simp; have := kW.size; omega)) (.cells wid0 25)) (g := wc26.heap.size) (by have := kW.size; omega) (widL S12 N12))
        go_wp2_with (first | (refine sta 25 (.tmp 29) (.tmp 149) rfl rfl ?_; refine stb (wc26.heap.size) (widL S12 N12) 25 _ z29.out rfl rfl info_wide rfl (widF_ones _ (wd N12)) ?_) | (refine lda 25 (.tmp 3) rfl rfl ?_; refine ldb q3 25 _ _ k3.out rfl under_wide rfl info_wide ?_) | (refine lda 25 (.tmp 4) rfl rfl ?_; refine ldb q4 25 _ _ k4.out rfl under_wide rfl info_wide ?_) | (refine lda 25 (.tmp 5) rfl rfl ?_; refine ldb q5 25 _ _ k5.out rfl under_wide rfl info_wide ?_) | (refine lda 25 (.tmp 7) rfl rfl ?_; refine ldb q7 25 _ _ k7.out rfl under_wide rfl info_wide ?_) | (refine lda 25 (.tmp 9) rfl rfl ?_; refine ldb q9 25 _ _ k9.out rfl under_wide rfl info_wide ?_) | (refine lda 25 (.tmp 11) rfl rfl ?_; refine ldb q11 25 _ _ k11.out rfl under_wide rfl info_wide ?_) | (refine lda 25 (.tmp 13) rfl rfl ?_; refine ldb q13 25 _ _ k13.out rfl under_wide rfl info_wide ?_) | (refine lda 25 (.tmp 15) rfl rfl ?_; refine ldb q15 25 _ _ k15.out rfl under_wide rfl info_wide ?_) | (refine lda 25 (.tmp 17) rfl rfl ?_; refine ldb q17 25 _ _ k17.out rfl under_wide rfl info_wide ?_) | (refine lda 25 (.tmp 19) rfl rfl ?_; refine ldb q19 25 _ _ k19.out rfl under_wide rfl info_wide ?_) | (refine lda 25 (.tmp 21) rfl rfl ?_; refine ldb q21 25 _ _ k21.out rfl under_wide rfl info_wide ?_) | (refine lda 25 (.tmp 23) rfl rfl ?_; refine ldb q23 25 _ _ k23.out rfl under_wide rfl info_wide ?_) | (refine lda 25 (.tmp 25) rfl rfl ?_; refine ldb q25 25 _ _ k25.out rfl under_wide rfl info_wide ?_) | (refine lda 25 (.tmp 27) rfl rfl ?_; refine ldb q27 25 _ _ k27.out rfl under_wide rfl info_wide ?_) | (refine lda 25 (.tmp 29) rfl rfl ?_; refine ldb (wc26.heap.size) 25 _ _ k29.out rfl under_wide rfl info_wide ?_) | (refine ldga 25 (.tmp 3) rfl rfl ?_; refine ldgb q3 25 _ _ k3.out rfl under_wide rfl info_wide ?_) | (refine ldga 25 (.tmp 4) rfl rfl ?_; refine ldgb q4 25 _ _ k4.out rfl under_wide rfl info_wide ?_) | (refine ldga 25 (.tmp 5) rfl rfl ?_; refine ldgb q5 25 _ _ k5.out rfl under_wide rfl info_wide ?_) | (refine ldga 25 (.tmp 7) rfl rfl ?_; refine ldgb q7 25 _ _ k7.out rfl under_wide rfl info_wide ?_) | (refine ldga 25 (.tmp 9) rfl rfl ?_; refine ldgb q9 25 _ _ k9.out rfl under_wide rfl info_wide ?_) | (refine ldga 25 (.tmp 11) rfl rfl ?_; refine ldgb q11 25 _ _ k11.out rfl under_wide rfl info_wide ?_) | (refine ldga 25 (.tmp 13) rfl rfl ?_; refine ldgb q13 25 _ _ k13.out rfl under_wide rfl info_wide ?_) | (refine ldga 25 (.tmp 15) rfl rfl ?_; refine ldgb q15 25 _ _ k15.out rfl under_wide rfl info_wide ?_) | (refine ldga 25 (.tmp 17) rfl rfl ?_; refine ldgb q17 25 _ _ k17.out rfl under_wide rfl info_wide ?_) | (refine ldga 25 (.tmp 19) rfl rfl ?_; refine ldgb q19 25 _ _ k19.out rfl under_wide rfl info_wide ?_) | (refine ldga 25 (.tmp 21) rfl rfl ?_; refine ldgb q21 25 _ _ k21.out rfl under_wide rfl info_wide ?_) | (refine ldga 25 (.tmp 23) rfl rfl ?_; refine ldgb q23 25 _ _ k23.out rfl under_wide rfl info_wide ?_) | (refine ldga 25 (.tmp 25) rfl rfl ?_; refine ldgb q25 25 _ _ k25.out rfl under_wide rfl info_wide ?_) | (refine ldga 25 (.tmp 27) rfl rfl ?_; refine ldgb q27 25 _ _ k27.out rfl under_wide rfl info_wide ?_) | (refine ldga 25 (.tmp 29) rfl rfl ?_; refine ldgb (wc26.heap.size) 25 _ _ k29.out rfl under_wide rfl info_wide ?_))
        clear z29 l3 l4 l5 l7 l9 l11 l13 l15 l17 l19 l21 l23 l25 l27
        generalize wc26.heap.size = q29 at k3 k4 k5 k7 k9 k11 k13 k15 k17 k19 k21 k23 k25 k27 k29 kW ⊢
        generalize World.setRow _ _ _ = wa29 at k3 k4 k5 k7 k9 k11 k13 k15 k17 k19 k21 k23 k25 k27 k29 kW ⊢
        refine (awake_any _).mono ?_
        rintro e wc30 ⟨rfl, hb⟩
        replace k3 := Lib.hid (k3.out.below hb)
        replace k4 := Lib.hid (k4.out.below hb)
        replace k5 := Lib.hid (k5.out.below hb)
        replace k7 := Lib.hid (k7.out.below hb)
        replace k9 := Lib.hid (k9.out.below hb)
        replace k11 := Lib.hid (k11.out.below hb)
        replace k13 := Lib.hid (k13.out.below hb)
        replace k15 := Lib.hid (k15.out.below hb)
        replace k17 := Lib.hid (k17.out.below hb)
        replace k19 := Lib.hid (k19.out.below hb)
        replace k21 := Lib.hid (k21.out.below hb)
        replace k23 := Lib.hid (k23.out.below hb)
        replace k25 := Lib.hid (k25.out.below hb)
        replace k27 := Lib.hid (k27.out.below hb)
        replace k29 := Lib.hid (k29.out.below hb)
        replace kW := kW.trans (hb.mono kW.size)
        clear hb
        go_wp2_with fail
        go_ret
        exact ⟨rfl, kW⟩
      · subst h h2
        have l3 := k3.out.lt
        have l4 := k4.out.lt
        have l5 := k5.out.lt
        have l7 := k7.out.lt
        have l9 := k9.out.lt
        have l11 := k11.out.lt
        have l13 := k13.out.lt
        have l15 := k15.out.lt
        have l17 := k17.out.lt
        have l19 := k19.out.lt
        have l21 := k21.out.lt
        have l23 := k23.out.lt
        have l25 := k25.out.lt
        have l27 := k27.out.lt
        have z29 : Hid (Blk (wc26.alloc (.cells wid0 25)) (wc26.heap.size) 25 wid0) := (Blk.new _ _ _ : Blk (wc26.alloc (.cells wid0 25)) wc26.heap.size 25 wid0)
        have k29 : Hid (Blk ((wc26.alloc (.cells wid0 25)).setRow (wc26.heap.size) (widL S12 N12)) (wc26.heap.size) 25 (widL S12 N12)) := (z29.out.row (widL S12 N12))
        replace k3 := Lib.hid ((k3.out.old (.cells wid0 25)).rowOther (k := wc26.heap.size) (by omega) (widL S12 N12))
        replace k4 := Lib.hid ((k4.out.old (.cells wid0 25)).rowOther (k := wc26.heap.size) (by omega) (widL S12 N12))
        replace k5 := Lib.hid ((k5.out.old (.cells wid0 25)).rowOther (k := wc26.heap.size) (by omega) (widL S12 N12))
        replace k7 := Lib.hid ((k7.out.old (.cells wid0 25)).rowOther (k := wc26.heap.size) (by omega) (widL S12 N12))
        replace k9 := Lib.hid ((k9.out.old (.cells wid0 25)).rowOther (k := wc26.heap.size) (by omega) (widL S12 N12))
        replace k11 := Lib.hid ((k11.out.old (.cells wid0 25)).rowOther (k := wc26.heap.size) (by omega) (widL S12 N12))
        replace k13 := Lib.hid ((k13.out.old (.cells wid0 25)).rowOther (k := wc26.heap.size) (by omega) (widL S12 N12))
        replace k15 := Lib.hid ((k15.out.old (.cells wid0 25)).rowOther (k := wc26.heap.size) (by omega) (widL S12 N12))
        replace k17 := Lib.hid ((k17.out.old (.cells wid0 25)).rowOther (k := wc26.heap.size) (by omega) (widL S12 N12))
        replace k19 := Lib.hid ((k19.out.old (.cells wid0 25)).rowOther (k := wc26.heap.size) (by omega) (widL S12 N12))
        replace k21 := Lib.hid ((k21.out.old (.cells wid0 25)).rowOther (k := wc26.heap.size) (by omega) (widL S12 N12))
        replace k23 := Lib.hid ((k23.out.old (.cells wid0 25)).rowOther (k := wc26.heap.size) (by omega) (widL S12 N12))
        replace k25 := Lib.hid ((k25.out.old (.cells wid0 25)).rowOther (k := wc26.heap.size) (by omega) (widL S12 N12))
        replace k27 := Lib.hid ((k27.out.old (.cells wid0 25)).rowOther (k := wc26.heap.size) (by omega) (widL S12 N12))
        replace kW := (below_row (kW.alloc (by first | exact kW.size | (simp; have := kW.size; omega)) (.cells wid0 25)) (g := wc26.heap.size) (by have := kW.size; omega) (widL S12 N12))
        go_wp2_with (first | (refine sta 25 (.tmp 29) (.tmp 149) rfl rfl ?_; refine stb (wc26.heap.size) (widL S12 N12) 25 _ z29.out rfl rfl info_wide rfl (widF_ones _ (wd N12)) ?_) | (refine lda 25 (.tmp 3) rfl rfl ?_; refine ldb q3 25 _ _ k3.out rfl under_wide rfl info_wide ?_) | (refine lda 25 (.tmp 4) rfl rfl ?_; refine ldb q4 25 _ _ k4.out rfl under_wide rfl info_wide ?_) | (refine lda 25 (.tmp 5) rfl rfl ?_; refine ldb q5 25 _ _ k5.out rfl under_wide rfl info_wide ?_) | (refine lda 25 (.tmp 7) rfl rfl ?_; refine ldb q7 25 _ _ k7.out rfl under_wide rfl info_wide ?_) | (refine lda 25 (.tmp 9) rfl rfl ?_; refine ldb q9 25 _ _ k9.out rfl under_wide rfl info_wide ?_) | (refine lda 25 (.tmp 11) rfl rfl ?_; refine ldb q11 25 _ _ k11.out rfl under_wide rfl info_wide ?_) | (refine lda 25 (.tmp 13) rfl rfl ?_; refine ldb q13 25 _ _ k13.out rfl under_wide rfl info_wide ?_) | (refine lda 25 (.tmp 15) rfl rfl ?_; refine ldb q15 25 _ _ k15.out rfl under_wide rfl info_wide ?_) | (refine lda 25 (.tmp 17) rfl rfl ?_; refine ldb q17 25 _ _ k17.out rfl under_wide rfl info_wide ?_) | (refine lda 25 (.tmp 19) rfl rfl ?_; refine ldb q19 25 _ _ k19.out rfl under_wide rfl info_wide ?_) | (refine lda 25 (.tmp 21) rfl rfl ?_; refine ldb q21 25 _ _ k21.out rfl under_wide rfl info_wide ?_) | (refine lda 25 (.tmp 23) rfl rfl ?_; refine ldb q23 25 _ _ k23.out rfl under_wide rfl info_wide ?_) | (refine lda 25 (.tmp 25) rfl rfl ?_; refine ldb q25 25 _ _ k25.out rfl under_wide rfl info_wide ?_) | (refine lda 25 (.tmp 27) rfl rfl ?_; refine ldb q27 25 _ _ k27.out rfl under_wide rfl info_wide ?_) | (refine lda 25 (.tmp 29) rfl rfl ?_; refine ldb (wc26.heap.size) 25 _ _ k29.out rfl under_wide rfl info_wide ?_) | (refine ldga 25 (.tmp 3) rfl rfl ?_; refine ldgb q3 25 _ _ k3.out rfl under_wide rfl info_wide ?_) | (refine ldga 25 (.tmp 4) rfl rfl ?_; refine ldgb q4 25 _ _ k4.out rfl under_wide rfl info_wide ?_) | (refine ldga 25 (.tmp 5) rfl rfl ?_; refine ldgb q5 25 _ _ k5.out rfl under_wide rfl info_wide ?_) | (refine ldga 25 (.tmp 7) rfl rfl ?_; refine ldgb q7 25 _ _ k7.out rfl under_wide rfl info_wide ?_) | (refine ldga 25 (.tmp 9) rfl rfl ?_; refine ldgb q9 25 _ _ k9.out rfl under_wide rfl info_wide ?_) | (refine ldga 25 (.tmp 11) rfl rfl ?_; refine ldgb q11 25 _ _ k11.out rfl under_wide rfl info_wide ?_) | (refine ldga 25 (.tmp 13) rfl rfl ?_; refine ldgb q13 25 _ _ k13.out rfl under_wide rfl info_wide ?_) | (refine ldga 25 (.tmp 15) rfl rfl ?_; refine ldgb q15 25 _ _ k15.out rfl under_wide rfl info_wide ?_) | (refine ldga 25 (.tmp 17) rfl rfl ?_; refine ldgb q17 25 _ _ k17.out rfl under_wide rfl info_wide ?_) | (refine ldga 25 (.tmp 19) rfl rfl ?_; refine ldgb q19 25 _ _ k19.out rfl under_wide rfl info_wide ?_) | (refine ldga 25 (.tmp 21) rfl rfl ?_; refine ldgb q21 25 _ _ k21.out rfl under_wide rfl info_wide ?_) | (refine ldga 25 (.tmp 23) rfl rfl ?_; refine ldgb q23 25 _ _ k23.out rfl under_wide rfl info_wide ?_) | (refine ldga 25 (.tmp 25) rfl rfl ?_; refine ldgb q25 25 _ _ k25.out rfl under_wide rfl info_wide ?_) | (refine ldga 25 (.tmp 27) rfl rfl ?_; refine ldgb q27 25 _ _ k27.out rfl under_wide rfl info_wide ?_) | (refine ldga 25 (.tmp 29) rfl rfl ?_; refine ldgb (wc26.heap.size) 25 _ _ k29.out rfl under_wide rfl info_wide ?_))
        clear z29 l3 l4 l5 l7 l9 l11 l13 l15 l17 l19 l21 l23 l25 l27
        generalize wc26.heap.size = q29 at k3 k4 k5 k7 k9 k11 k13 k15 k17 k19 k21 k23 k25 k27 k29 kW ⊢
        generalize World.setRow _ _ _ = wa31 at k3 k4 k5 k7 k9 k11 k13 k15 k17 k19 k21 k23 k25 k27 k29 kW ⊢
        refine (awake_any _).mono ?_
        rintro e wc32 ⟨rfl, hb⟩
        replace k3 := Lib.hid (k3.out.below hb)
        replace k4 := Lib.hid (k4.out.below hb)
        replace k5 := Lib.hid (k5.out.below hb)
        replace k7 := Lib.hid (k7.out.below hb)
        replace k9 := Lib.hid (k9.out.below hb)
        replace k11 := Lib.hid (k11.out.below hb)
        replace k13 := Lib.hid (k13.out.below hb)
        replace k15 := Lib.hid (k15.out.below hb)
        replace k17 := Lib.hid (k17.out.below hb)
        replace k19 := Lib.hid (k19.out.below hb)
        replace k21 := Lib.hid (k21.out.below hb)
        replace k23 := Lib.hid (k23.out.below hb)
        replace k25 := Lib.hid (k25.out.below hb)
        replace k27 := Lib.hid (k27.out.below hb)
        replace k29 := Lib.hid (k29.out.below hb)
        replace kW := kW.trans (hb.mono kW.size)
        clear hb
        go_wp2_with fail
        go_ret
        exact ⟨rfl, kW⟩
      · subst h h2 h3 h4 h5 h6
        have l3 := k3.out.lt
        have l4 := k4.out.lt
        have l5 := k5.out.lt
        have l7 := k7.out.lt
        have l9 := k9.out.lt
        have l11 := k11.out.lt
        have l13 := k13.out.lt
        have l15 := k15.out.lt
        have l17 := k17.out.lt
        have l19 := k19.out.lt
        have l21 := k21.out.lt
        have l23 := k23.out.lt
        have l25 := k25.out.lt
        have l27 := k27.out.lt
        have z29 : Hid (Blk (wc26.alloc (.cells wid0 25)) (wc26.heap.size) 25 wid0) := (Blk.new _ _ _ : Blk (wc26.alloc (.cells wid0 25)) wc26.heap.size 25 wid0)
        have k29 : Hid (Blk ((wc26.alloc (.cells wid0 25)).setRow (wc26.heap.size) (widL S9 N9)) (wc26.heap.size) 25 (widL S9 N9)) := (z29.out.row (widL S9 N9))
        replace k3 := Lib.hid ((k3.out.old (.cells wid0 25)).rowOther (k := wc26.heap.size) (by omega) (widL S9 N9))
        replace k4 := Lib.hid ((k4.out.old (.cells wid0 25)).rowOther (k := wc26.heap.size) (by omega) (widL S9 N9))
        replace k5 := Lib.hid ((k5.out.old (.cells wid0 25)).rowOther (k := wc26.heap.size) (by omega) (widL S9 N9))
        replace k7 := Lib.hid ((k7.out.old (.cells wid0 25)).rowOther (k := wc26.heap.size) (by omega) (widL S9 N9))
        replace k9 := Lib.hid ((k9.out.old (.cells wid0 25)).rowOther (k := wc26.heap.size) (by omega) (widL S9 N9))
        replace k11 := Lib.hid ((k11.out.old (.cells wid0 25)).rowOther (k := wc26.heap.size) (by omega) (widL S9 N9))
        replace k13 := Lib.hid ((k13.out.old (.cells wid0 25)).rowOther (k := wc26.heap.size) (by omega) (widL S9 N9))
        replace k15 := Lib.hid ((k15.out.old (.cells wid0 25)).rowOther (k := wc26.heap.size) (by omega) (widL S9 N9))
        replace k17 := Lib.hid ((k17.out.old (.cells wid0 25)).rowOther (k := wc26.heap.size) (by omega) (widL S9 N9))
        replace k19 := Lib.hid ((k19.out.old (.cells wid0 25)).rowOther (k := wc26.heap.size) (by omega) (widL S9 N9))
        replace k21 := Lib.hid ((k21.out.old (.cells wid0 25)).rowOther (k := wc26.heap.size) (by omega) (widL S9 N9))
        replace k23 := Lib.hid ((k23.out.old (.cells wid0 25)).rowOther (k := wc26.heap.size) (by omega) (widL S9 N9))
        replace k25 := Lib.hid ((k25.out.old (.cells wid0 25)).rowOther (k := wc26.heap.size) (by omega) (widL S9 N9))
        replace k27 := Lib.hid ((k27.out.old (.cells wid0 25)).rowOther (k := wc26.heap.size) (by omega) (widL S9 N9))
        replace kW := (below_row (kW.alloc (by first | exact kW.size | (simp; have := kW.size; omega)) (.cells wid0 25)) (g := wc26.heap.size) (by have := kW.size; omega) (widL S9 N9))
        go_wp2_with (first | (refine sta 25 (.tmp 29) (.tmp 149) rfl rfl ?_; refine stb (wc26.heap.size) (widL S9 N9) 25 _ z29.out rfl rfl info_wide rfl (widF_ones _ (wd N9)) ?_) | (refine lda 25 (.tmp 3) rfl rfl ?_; refine ldb q3 25 _ _ k3.out rfl under_wide rfl info_wide ?_) | (refine lda 25 (.tmp 4) rfl rfl ?_; refine ldb q4 25 _ _ k4.out rfl under_wide rfl info_wide ?_) | (refine lda 25 (.tmp 5) rfl rfl ?_; refine ldb q5 25 _ _ k5.out rfl under_wide rfl info_wide ?_) | (refine lda 25 (.tmp 7) rfl rfl ?_; refine ldb q7 25 _ _ k7.out rfl under_wide rfl info_wide ?_) | (refine lda 25 (.tmp 9) rfl rfl ?_; refine ldb q9 25 _ _ k9.out rfl under_wide rfl info_wide ?_) | (refine lda 25 (.tmp 11) rfl rfl ?_; refine ldb q11 25 _ _ k11.out rfl under_wide rfl info_wide ?_) | (refine lda 25 (.tmp 13) rfl rfl ?_; refine ldb q13 25 _ _ k13.out rfl under_wide rfl info_wide ?_) | (refine lda 25 (.tmp 15) rfl rfl ?_; refine ldb q15 25 _ _ k15.out rfl under_wide rfl info_wide ?_) | (refine lda 25 (.tmp 17) rfl rfl ?_; refine ldb q17 25 _ _ k17.out rfl under_wide rfl info_wide ?_) | (refine lda 25 (.tmp 19) rfl rfl ?_; refine ldb q19 25 _ _ k19.out rfl under_wide rfl info_wide ?_) | (refine lda 25 (.tmp 21) rfl rfl ?_; refine ldb q21 25 _ _ k21.out rfl under_wide rfl info_wide ?_) | (refine lda 25 (.tmp 23) rfl rfl ?_; refine ldb q23 25 _ _ k23.out rfl under_wide rfl info_wide ?_) | (refine lda 25 (.tmp 25) rfl rfl ?_; refine ldb q25 25 _ _ k25.out rfl under_wide rfl info_wide ?_) | (refine lda 25 (.tmp 27) rfl rfl ?_; refine ldb q27 25 _ _ k27.out rfl under_wide rfl info_wide ?_) | (refine lda 25 (.tmp 29) rfl rfl ?_; refine ldb (wc26.heap.size) 25 _ _ k29.out rfl under_wide rfl info_wide ?_) | (refine ldga 25 (.tmp 3) rfl rfl ?_; refine ldgb q3 25 _ _ k3.out rfl under_wide rfl info_wide ?_) | (refine ldga 25 (.tmp 4) rfl rfl ?_; refine ldgb q4 25 _ _ k4.out rfl under_wide rfl info_wide ?_) | (refine ldga 25 (.tmp 5) rfl rfl ?_; refine ldgb q5 25 _ _ k5.out rfl under_wide rfl info_wide ?_) | (refine ldga 25 (.tmp 7) rfl rfl ?_; refine ldgb q7 25 _ _ k7.out rfl under_wide rfl info_wide ?_) | (refine ldga 25 (.tmp 9) rfl rfl ?_; refine ldgb q9 25 _ _ k9.out rfl under_wide rfl info_wide ?_) | (refine ldga 25 (.tmp 11) rfl rfl ?_; refine ldgb q11 25 _ _ k11.out rfl under_wide rfl info_wide ?_) | (refine ldga 25 (.tmp 13) rfl rfl ?_; refine ldgb q13 25 _ _ k13.out rfl under_wide rfl info_wide ?_) | (refine ldga 25 (.tmp 15) rfl rfl ?_; refine ldgb q15 25 _ _ k15.out rfl under_wide rfl info_wide ?_) | (refine ldga 25 (.tmp 17) rfl rfl ?_; refine ldgb q17 25 _ _ k17.out rfl under_wide rfl info_wide ?_) | (refine ldga 25 (.tmp 19) rfl rfl ?_; refine ldgb q19 25 _ _ k19.out rfl under_wide rfl info_wide ?_) | (refine ldga 25 (.tmp 21) rfl rfl ?_; refine ldgb q21 25 _ _ k21.out rfl under_wide rfl info_wide ?_) | (refine ldga 25 (.tmp 23) rfl rfl ?_; refine ldgb q23 25 _ _ k23.out rfl under_wide rfl info_wide ?_) | (refine ldga 25 (.tmp 25) rfl rfl ?_; refine ldgb q25 25 _ _ k25.out rfl under_wide rfl info_wide ?_) | (refine ldga 25 (.tmp 27) rfl rfl ?_; refine ldgb q27 25 _ _ k27.out rfl under_wide rfl info_wide ?_) | (refine ldga 25 (.tmp 29) rfl rfl ?_; refine ldgb (wc26.heap.size) 25 _ _ k29.out rfl under_wide rfl info_wide ?_))
        clear z29 l3 l4 l5 l7 l9 l11 l13 l15 l17 l19 l21 l23 l25 l27
        generalize wc26.heap.size = q29 at k3 k4 k5 k7 k9 k11 k13 k15 k17 k19 k21 k23 k25 k27 k29 kW ⊢
        generalize World.setRow _ _ _ = wa33 at k3 k4 k5 k7 k9 k11 k13 k15 k17 k19 k21 k23 k25 k27 k29 kW ⊢
        refine (awake_any _).mono ?_
        rintro e wc34 ⟨rfl, hb⟩
        replace k3 := Lib.hid (k3.out.below hb)
        replace k4 := Lib.hid (k4.out.below hb)
        replace k5 := Lib.hid (k5.out.below hb)
        replace k7 := Lib.hid (k7.out.below hb)
        replace k9 := Lib.hid (k9.out.below hb)
        replace k11 := Lib.hid (k11.out.below hb)
        replace k13 := Lib.hid (k13.out.below hb)
        replace k15 := Lib.hid (k15.out.below hb)
        replace k17 := Lib.hid (k17.out.below hb)
        replace k19 := Lib.hid (k19.out.below hb)
        replace k21 := Lib.hid (k21.out.below hb)
        replace k23 := Lib.hid (k23.out.below hb)
        replace k25 := Lib.hid (k25.out.below hb)
        replace k27 := Lib.hid (k27.out.below hb)
        replace k29 := Lib.hid (k29.out.below hb)
        replace kW := kW.trans (hb.mono kW.size)
        clear hb
        go_wp2_with fail
        go_ret
        exact ⟨rfl, kW⟩

/-! ### The row's step -/
set_option maxRecDepth 100000 in
theorem lifted (os : Os) (started : os.Started) (H : Type) (enc : TypeId × Value → H) :
    ReturnsInHanded {} Try.checked os 10 .any (Rows.wideRingSpec.pre6 enc Try.prog Try.f10 Rows.wideRingRow.domain false) (Rows.wideRingSpec.post enc Try.prog Try.f10 false true false false) := by
  refine returnsInHanded_of_change (C := Try.checked) own started (by kernel_rfl) Try.func10
    (ChangeSpec.witness6 (enc := enc) (C := Try.checked) false ⟨#[], #[.agg #[.bool false, .int .u64 0, .int .u64 0, .int .u64 0, .int .u64 0], .agg #[.bool false, .int .u64 0, .int .u64 0, .int .u64 0, .int .u64 0], .agg #[.bool false, .int .u64 0, .int .u64 0, .int .u64 0, .int .u64 0]], []⟩ 8 (by kernel_rfl) (by kernel_rfl) (by kernel_rfl) (by kernel_rfl)) ?_
  intro W base args ds gs before hval0 hW hcnd _
  have hval : ∀ (j : Nat) t v, Try.f10.params[j]? = some t → args[j]? = some v → Value.okWide Try.prog W .any base t v := hval0
  have hW' := hW
  obtain ⟨p, q, hA0, hV, rfl, hfz, hnd⟩ := hW
  have hA : DataW.TrodAll enc Try.prog W 0 (fun _ => true) true Try.f10.params.toList args.toList ds p := hA0
  rw [Try.params10] at hA hval
  obtain ⟨v0, vs0, d0, ds0, p0, q0, hargs, rfl, rfl, h0, r0⟩ := trodAll_cons hA
  obtain ⟨v1, vs1, d1, ds1, p1, q1, rfl, rfl, rfl, h1, r1⟩ := trodAll_cons r0
  obtain ⟨v2, vs2, d2, ds2, p2, q2, rfl, rfl, rfl, h2, r2⟩ := trodAll_cons r1
  obtain ⟨rfl, rfl, rfl⟩ := trodAll_nil r2
  obtain rfl : args = #[v0, v1, v2] := by cases args; simp_all
  obtain ⟨rfl, rfl⟩ := trodVars_none hV
  obtain ⟨s0, n0, rfl, rfl, rfl, w0⟩ := open_wide (hval 0 25 v0 rfl rfl) h0
  obtain ⟨s1, n1, rfl, rfl, rfl, w1⟩ := open_wide (hval 1 25 v1 rfl rfl) h1
  obtain ⟨s2, n2, rfl, rfl, rfl, w2⟩ := open_wide (hval 2 25 v2 rfl rfl) h2
  clear hA0 hval0
  simp only [List.append_nil] at hW'
  refine (walk s0 n0 w0 s1 n1 w1 s2 n2 w2 W).mono fun e W' ⟨he, hg⟩ => ?_
  subst he
  exact ⟨_, rfl, _, _, _, [], [], [], hW', (trodAll_cons_mk (shut_bool Try.underlying4 _) trodAll_mk0), (trodAll_cons_mk (shut_wide s0 n0) (trodAll_cons_mk (shut_wide s1 n1) (trodAll_cons_mk (shut_wide s2 n2) trodAll_mk0))), rfl, hg.frame _, fun h => by cases h⟩

theorem over : Rows.wideRingRow.holds Try.pinned (OpenSpec.ofChange Rows.wideRingSpec) :=
  OpenClaim.holds_of_wide 10 Try.f10 rfl rfl rfl rfl rfl rfl rfl ⟨rfl, rfl, rfl, rfl, rfl⟩ rfl rfl rfl rfl rfl (by kernel_rfl) Try.func10 (by kernel_rfl)
    (of_decide_eq_true (by kernel_rfl)) (by unfold Func.isWrapper; first | (rw [if_pos (by decide +kernel)]; kernel_rfl) | (rw [if_neg (by decide +kernel)]; exact ⟨rfl, rfl⟩))
    (fun os started H enc _ => lifted os started H enc)

/-- The statement. -/
theorem proved : Rows.WideRingSaid :=
  over
#print axioms proved
end Go.Proofs.Ytnpgikjahfhaoaa.wideRing
