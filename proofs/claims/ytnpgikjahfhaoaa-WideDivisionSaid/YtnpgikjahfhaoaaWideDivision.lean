/-
  For any two wide numbers the law WideDivision (P2.5) returns true and leaves its arguments alone: a is the quotient times b and the remainder, which is 0 or has the sign of b, and is less than b in magnitude. No condition.
-/
import Derived.Test.YtnpgikjahfhaoaaRows
import Derived.WalkKit
import Derived.ProofKit
import Derived.OpenShut
import Derived.ShutString
import Derived.ChangeOld
import Derived.Below
import Derived.Test.YtnpgikjahfhaoaaWOpen
import Derived.Test.YtnpgikjahfhaoaaWLaw
import Derived.Test.YtnpgikjahfhaoaaWPlain
import Derived.Test.YtnpgikjahfhaoaaWOps2
import Derived.Test.YtnpgikjahfhaoaaWInt
import Derived.Test.YtnpgikjahfhaoaaWText
import Derived.Test.YtnpgikjahfhaoaaWParse
namespace Go.Proofs.Ytnpgikjahfhaoaa.wideDivision
open Go.ChangeShapes Go.WideShapes Go.ChangeAt Go.RowKit Go.Proofs.WM Go.Proofs.WD Go.Proofs.Reg
open Go.ChangeMaps (open_string shut_string)
set_option linter.unusedVariables false

theorem own : ownKnob Try.prog.godebug = none := by kernel_rfl

theorem of0 (w : World) : Calls Try.prog 15 #[.int .i64 0] w (Gives (.agg (widL false 0)) w) := pof_any 0 w (by decide) (by decide)
set_option maxRecDepth 100000 in
set_option maxHeartbeats 16000000 in
theorem div_zero (s0 : Bool) (n0 : Nat) (s1 : Bool) (w : World) (w0 : n0 < M256) :
    Calls Try.prog 9 #[.agg (widL s0 n0), .agg (widL s1 0)] w (Gives (.bool true) w) := by
  have c1 : ∀ w, Calls Try.prog 30 #[.agg (widL s0 n0), .agg (widL s1 0)] w (Gives (.tuple #[.agg (widL false 0), .agg (widL false 0), .int .i64 22]) w) := by
    intro w
    have h := pdiv_wide s0 s1 n0 0 w w0 m_pos
    rw [divV_zero] at h
    exact h
  have cpl : ∀ w, Calls Try.prog 38 #[.agg (widL s1 0)] w (Gives (.agg (widL false 0)) w) := by
    intro w
    have h := plain_any s1 0 w m_pos
    rw [sg_zero] at h
    exact h
  have e0 := fun wx => eq_zero wx
  clear w0
  go_enter Try.func9, Try.ntmps9
  go_upto_region 1 with fail
  have k2 : Hid (Blk ((w.alloc (.cells (widL s0 n0) 25)).alloc (.cells (widL s1 0) 25)) (w.heap.size) 25 (widL s0 n0)) := (Blk.new _ _ _).old _
  have k3 : Hid (Blk ((w.alloc (.cells (widL s0 n0) 25)).alloc (.cells (widL s1 0) 25)) (w.heap.size + 1) 25 (widL s1 0)) := Blk.newAt (by simp) _ _
  have kW : Below w.heap.size w ((w.alloc (.cells (widL s0 n0) 25)).alloc (.cells (widL s1 0) 25)) := (((Below.refl _ _).alloc (by simp) _).alloc (by simp <;> omega) _)
  obtain ⟨q2, hg2⟩ : ∃ g, g = w.heap.size := ⟨_, rfl⟩
  obtain ⟨q3, hg3⟩ : ∃ g, g = w.heap.size + 1 := ⟨_, rfl⟩
  rw [← hg3] at k3 ⊢
  rw [← hg2] at k2 ⊢
  have hlow : w.heap.size ≤ q2 := by omega
  have o3 : q2 < q3 := by omega
  clear hg2 hg3
  generalize World.alloc _ _ = wa1 at k2 k3 kW ⊢
  go_wp2_with (first | (refine lda 25 (.tmp 2) rfl rfl ?_; refine ldb q2 25 _ _ k2.out rfl under_wide rfl info_wide ?_) | (refine lda 25 (.tmp 3) rfl rfl ?_; refine ldb q3 25 _ _ k3.out rfl under_wide rfl info_wide ?_) | (refine ldga 25 (.tmp 2) rfl rfl ?_; refine ldgb q2 25 _ _ k2.out rfl under_wide rfl info_wide ?_) | (refine ldga 25 (.tmp 3) rfl rfl ?_; refine ldgb q3 25 _ _ k3.out rfl under_wide rfl info_wide ?_))
  refine (c1 _).mono ?_
  rintro e wc2 ⟨rfl, hb⟩
  replace k2 := Lib.hid (k2.out.below hb)
  replace k3 := Lib.hid (k3.out.below hb)
  replace kW := kW.trans (hb.mono kW.size)
  clear hb
  have l2 := k2.out.lt
  have l3 := k3.out.lt
  have z5 : Hid (Blk ((wc2.alloc (.cells wid0 25)).alloc (.cells wid0 25)) (wc2.heap.size) 25 wid0) := ((Blk.new _ _ _ : Blk (wc2.alloc (.cells wid0 25)) wc2.heap.size 25 wid0).old _)
  have z6 : Hid (Blk (((wc2.alloc (.cells wid0 25)).alloc (.cells wid0 25)).setRow (wc2.heap.size) (widL false 0)) (wc2.heap.size + 1) 25 wid0) := ((Blk.newAt (by simp) _ _).rowOther (k := wc2.heap.size) (by omega) (widL false 0))
  have k5 : Hid (Blk ((((wc2.alloc (.cells wid0 25)).alloc (.cells wid0 25)).setRow (wc2.heap.size) (widL false 0)).setRow (wc2.heap.size + 1) (widL false 0)) (wc2.heap.size) 25 (widL false 0)) := ((z5.out.row (widL false 0)).rowOther (k := wc2.heap.size + 1) (by omega) (widL false 0))
  have k6 : Hid (Blk ((((wc2.alloc (.cells wid0 25)).alloc (.cells wid0 25)).setRow (wc2.heap.size) (widL false 0)).setRow (wc2.heap.size + 1) (widL false 0)) (wc2.heap.size + 1) 25 (widL false 0)) := (z6.out.row (widL false 0))
  replace k2 := Lib.hid ((((k2.out.old (.cells wid0 25)).old (.cells wid0 25)).rowOther (k := wc2.heap.size) (by omega) (widL false 0)).rowOther (k := wc2.heap.size + 1) (by omega) (widL false 0))
  replace k3 := Lib.hid ((((k3.out.old (.cells wid0 25)).old (.cells wid0 25)).rowOther (k := wc2.heap.size) (by omega) (widL false 0)).rowOther (k := wc2.heap.size + 1) (by omega) (widL false 0))
  replace kW := (below_row (below_row ((kW.alloc (by first | exact kW.size | (simp; have := kW.size; omega)) (.cells wid0 25)).alloc (by first | exact kW.size | (simp; have := kW.size; omega)) (.cells wid0 25)) (g := wc2.heap.size) (by have := kW.size; omega) (widL false 0)) (g := wc2.heap.size + 1) (by have := kW.size; omega) (widL false 0))
  go_wp2_with (first | (refine sta 25 (.tmp 5) (.tmp 19) rfl rfl ?_; refine stb (wc2.heap.size) (widL false 0) 25 _ z5.out rfl rfl info_wide rfl (widF_ones _ (wd 0)) ?_) | (refine sta 25 (.tmp 6) (.tmp 20) rfl rfl ?_; refine stb (wc2.heap.size + 1) (widL false 0) 25 _ z6.out rfl rfl info_wide rfl (widF_ones _ (wd 0)) ?_) | (refine lda 25 (.tmp 2) rfl rfl ?_; refine ldb q2 25 _ _ k2.out rfl under_wide rfl info_wide ?_) | (refine lda 25 (.tmp 3) rfl rfl ?_; refine ldb q3 25 _ _ k3.out rfl under_wide rfl info_wide ?_) | (refine lda 25 (.tmp 5) rfl rfl ?_; refine ldb (wc2.heap.size) 25 _ _ k5.out rfl under_wide rfl info_wide ?_) | (refine lda 25 (.tmp 6) rfl rfl ?_; refine ldb (wc2.heap.size + 1) 25 _ _ k6.out rfl under_wide rfl info_wide ?_) | (refine ldga 25 (.tmp 2) rfl rfl ?_; refine ldgb q2 25 _ _ k2.out rfl under_wide rfl info_wide ?_) | (refine ldga 25 (.tmp 3) rfl rfl ?_; refine ldgb q3 25 _ _ k3.out rfl under_wide rfl info_wide ?_) | (refine ldga 25 (.tmp 5) rfl rfl ?_; refine ldgb (wc2.heap.size) 25 _ _ k5.out rfl under_wide rfl info_wide ?_) | (refine ldga 25 (.tmp 6) rfl rfl ?_; refine ldgb (wc2.heap.size + 1) 25 _ _ k6.out rfl under_wide rfl info_wide ?_))
  clear z5 z6 l2 l3
  generalize wc2.heap.size + 1 = q6 at k2 k3 k5 k6 kW ⊢
  generalize wc2.heap.size = q5 at k2 k3 k5 k6 kW ⊢
  generalize World.setRow _ _ _ = wa3 at k2 k3 k5 k6 kW ⊢
  refine (cpl _).mono ?_
  rintro e wc4 ⟨rfl, hb⟩
  replace k2 := Lib.hid (k2.out.below hb)
  replace k3 := Lib.hid (k3.out.below hb)
  replace k5 := Lib.hid (k5.out.below hb)
  replace k6 := Lib.hid (k6.out.below hb)
  replace kW := kW.trans (hb.mono kW.size)
  clear hb
  go_wp2_with (first | (refine lda 25 (.tmp 2) rfl rfl ?_; refine ldb q2 25 _ _ k2.out rfl under_wide rfl info_wide ?_) | (refine lda 25 (.tmp 3) rfl rfl ?_; refine ldb q3 25 _ _ k3.out rfl under_wide rfl info_wide ?_) | (refine lda 25 (.tmp 5) rfl rfl ?_; refine ldb q5 25 _ _ k5.out rfl under_wide rfl info_wide ?_) | (refine lda 25 (.tmp 6) rfl rfl ?_; refine ldb q6 25 _ _ k6.out rfl under_wide rfl info_wide ?_) | (refine ldga 25 (.tmp 2) rfl rfl ?_; refine ldgb q2 25 _ _ k2.out rfl under_wide rfl info_wide ?_) | (refine ldga 25 (.tmp 3) rfl rfl ?_; refine ldgb q3 25 _ _ k3.out rfl under_wide rfl info_wide ?_) | (refine ldga 25 (.tmp 5) rfl rfl ?_; refine ldgb q5 25 _ _ k5.out rfl under_wide rfl info_wide ?_) | (refine ldga 25 (.tmp 6) rfl rfl ?_; refine ldgb q6 25 _ _ k6.out rfl under_wide rfl info_wide ?_))
  refine (awake_any _).mono ?_
  rintro e wc5 ⟨rfl, hb⟩
  replace k2 := Lib.hid (k2.out.below hb)
  replace k3 := Lib.hid (k3.out.below hb)
  replace k5 := Lib.hid (k5.out.below hb)
  replace k6 := Lib.hid (k6.out.below hb)
  replace kW := kW.trans (hb.mono kW.size)
  clear hb
  go_wp2_with fail
  go_ret
  exact ⟨rfl, kW⟩
set_option maxRecDepth 100000 in
set_option maxHeartbeats 16000000 in
theorem div_false_fits (s0 : Bool) (n0 n1 : Nat) (q r : Int) (w : World) (w0 : n0 < M256) (w1 : n1 < M256) (h0 : n1 ≠ 0) (hdv : DivV s0 n0 false n1 = .tuple #[.agg (widL (cS q) (cN q)), .agg (widL (cS r) (cN r)), .int .i64 0])
    (hid : wv s0 n0 = q * wv false n1 + r) (lq : cN q < M256) (lr : cN r < M256) (hb : 0 ≤ r ∧ r < (n1 : Int)) (hov : (q * wv false n1).natAbs < M256) :
    Calls Try.prog 9 #[.agg (widL s0 n0), .agg (widL false n1)] w (Gives (.bool true) w) := by
  have c1 : ∀ w, Calls Try.prog 30 #[.agg (widL s0 n0), .agg (widL false n1)] w (Gives (.tuple #[.agg (widL (cS q) (cN q)), .agg (widL (cS r) (cN r)), .int .i64 0]) w) := by
    intro w
    have h := pdiv_wide s0 false n0 n1 w w0 w1
    rw [hdv] at h
    exact h
  have cpl := fun w => plain_any false n1 w w1
  have ez := fun wx => eq_zero_ne (sg false n1) n1 w1 h0 wx
  have cpa := fun w => plain_any s0 n0 w w0
  have wq := wv_c q
  have wr := wv_c r
  obtain ⟨P, NP, EP, hp⟩ := res_ex (wv (cS q) (cN q) * wv false n1)
  have c2 := fun w => mul_res (cS q) false (cN q) n1 lq w1 hp w
  obtain ⟨S, NS, ES, hs⟩ := res_ex (wv P NP + wv (cS r) (cN r))
  have c3 := fun w => add_res P (cS r) NP (cN r) hp.lt lr hs w
  have cm1 := cmpW_int (cS r) false (cN r) 0
  have cm2 := cmpW_int (cS r) false (cN r) n1
  have cc1 := fun w => pcmp_wide (cS r) false (cN r) 0 w lr m_pos
  have cc2 := fun w => pcmp_wide (cS r) false (cN r) n1 w lr w1
  generalize cmpW (cS r) (cN r) false 0 = x1 at *
  generalize cmpW (cS r) (cN r) false n1 = x2 at *
  rw [wr] at cm1 cm2 hs
  rw [wq] at hp
  have z00 : wv false 0 = 0 := rfl
  have z01 : wv false n1 = n1 := rfl
  have hx1 : 0 ≤ x1 := by rcases cm1 with ⟨a, b⟩ | ⟨a, b⟩ | ⟨a, b⟩ <;> omega
  have hx2 : x2 < 0 := by rcases cm2 with ⟨a, b⟩ | ⟨a, b⟩ | ⟨a, b⟩ <;> omega
  obtain ⟨hP1, hwP⟩ : EP = 0 ∧ wv P NP = q * wv false n1 := by
    rcases hp.cases with ⟨h, _, _, _, h2⟩ | ⟨_, h⟩
    · exact ⟨h, h2⟩
    · omega
  subst hP1
  obtain ⟨k1, k2, k3⟩ := hs.of (s := s0) (n := n0) (by rw [hwP, hid]) w0
  rw [k1, k2, k3] at c3
  clear k1 k2 k3
  have e5 := fun wx => eq_self (sg s0 n0) n0 w0 wx
  generalize sg s0 n0 = sx at *
  clear hdv hov hid wq wr hp hs cm1 cm2 z00 z01 hb w0 w1 lq lr h0 hwP
  generalize cS q = Sq at *
  generalize cN q = Nq at *
  generalize cS r = Sr at *
  generalize cN r = Nr at *
  generalize sg false n1 = sy at *
  clear q r
  go_enter Try.func9, Try.ntmps9
  go_upto_region 1 with fail
  have k2 : Hid (Blk ((w.alloc (.cells (widL s0 n0) 25)).alloc (.cells (widL false n1) 25)) (w.heap.size) 25 (widL s0 n0)) := (Blk.new _ _ _).old _
  have k3 : Hid (Blk ((w.alloc (.cells (widL s0 n0) 25)).alloc (.cells (widL false n1) 25)) (w.heap.size + 1) 25 (widL false n1)) := Blk.newAt (by simp) _ _
  have kW : Below w.heap.size w ((w.alloc (.cells (widL s0 n0) 25)).alloc (.cells (widL false n1) 25)) := (((Below.refl _ _).alloc (by simp) _).alloc (by simp <;> omega) _)
  obtain ⟨q2, hg2⟩ : ∃ g, g = w.heap.size := ⟨_, rfl⟩
  obtain ⟨q3, hg3⟩ : ∃ g, g = w.heap.size + 1 := ⟨_, rfl⟩
  rw [← hg3] at k3 ⊢
  rw [← hg2] at k2 ⊢
  have hlow : w.heap.size ≤ q2 := by omega
  have o3 : q2 < q3 := by omega
  clear hg2 hg3
  generalize World.alloc _ _ = wa1 at k2 k3 kW ⊢
  go_wp2_with (first | (refine lda 25 (.tmp 2) rfl rfl ?_; refine ldb q2 25 _ _ k2.out rfl under_wide rfl info_wide ?_) | (refine lda 25 (.tmp 3) rfl rfl ?_; refine ldb q3 25 _ _ k3.out rfl under_wide rfl info_wide ?_) | (refine ldga 25 (.tmp 2) rfl rfl ?_; refine ldgb q2 25 _ _ k2.out rfl under_wide rfl info_wide ?_) | (refine ldga 25 (.tmp 3) rfl rfl ?_; refine ldgb q3 25 _ _ k3.out rfl under_wide rfl info_wide ?_))
  refine (c1 _).mono ?_
  rintro e wc2 ⟨rfl, hb⟩
  replace k2 := Lib.hid (k2.out.below hb)
  replace k3 := Lib.hid (k3.out.below hb)
  replace kW := kW.trans (hb.mono kW.size)
  clear hb
  have l2 := k2.out.lt
  have l3 := k3.out.lt
  have z5 : Hid (Blk ((wc2.alloc (.cells wid0 25)).alloc (.cells wid0 25)) (wc2.heap.size) 25 wid0) := ((Blk.new _ _ _ : Blk (wc2.alloc (.cells wid0 25)) wc2.heap.size 25 wid0).old _)
  have z6 : Hid (Blk (((wc2.alloc (.cells wid0 25)).alloc (.cells wid0 25)).setRow (wc2.heap.size) (widL Sq Nq)) (wc2.heap.size + 1) 25 wid0) := ((Blk.newAt (by simp) _ _).rowOther (k := wc2.heap.size) (by omega) (widL Sq Nq))
  have k5 : Hid (Blk ((((wc2.alloc (.cells wid0 25)).alloc (.cells wid0 25)).setRow (wc2.heap.size) (widL Sq Nq)).setRow (wc2.heap.size + 1) (widL Sr Nr)) (wc2.heap.size) 25 (widL Sq Nq)) := ((z5.out.row (widL Sq Nq)).rowOther (k := wc2.heap.size + 1) (by omega) (widL Sr Nr))
  have k6 : Hid (Blk ((((wc2.alloc (.cells wid0 25)).alloc (.cells wid0 25)).setRow (wc2.heap.size) (widL Sq Nq)).setRow (wc2.heap.size + 1) (widL Sr Nr)) (wc2.heap.size + 1) 25 (widL Sr Nr)) := (z6.out.row (widL Sr Nr))
  replace k2 := Lib.hid ((((k2.out.old (.cells wid0 25)).old (.cells wid0 25)).rowOther (k := wc2.heap.size) (by omega) (widL Sq Nq)).rowOther (k := wc2.heap.size + 1) (by omega) (widL Sr Nr))
  replace k3 := Lib.hid ((((k3.out.old (.cells wid0 25)).old (.cells wid0 25)).rowOther (k := wc2.heap.size) (by omega) (widL Sq Nq)).rowOther (k := wc2.heap.size + 1) (by omega) (widL Sr Nr))
  replace kW := (below_row (below_row ((kW.alloc (by first | exact kW.size | (simp; have := kW.size; omega)) (.cells wid0 25)).alloc (by first | exact kW.size | (simp; have := kW.size; omega)) (.cells wid0 25)) (g := wc2.heap.size) (by have := kW.size; omega) (widL Sq Nq)) (g := wc2.heap.size + 1) (by have := kW.size; omega) (widL Sr Nr))
  go_wp2_with (first | (refine sta 25 (.tmp 5) (.tmp 19) rfl rfl ?_; refine stb (wc2.heap.size) (widL Sq Nq) 25 _ z5.out rfl rfl info_wide rfl (widF_ones _ (wd Nq)) ?_) | (refine sta 25 (.tmp 6) (.tmp 20) rfl rfl ?_; refine stb (wc2.heap.size + 1) (widL Sr Nr) 25 _ z6.out rfl rfl info_wide rfl (widF_ones _ (wd Nr)) ?_) | (refine lda 25 (.tmp 2) rfl rfl ?_; refine ldb q2 25 _ _ k2.out rfl under_wide rfl info_wide ?_) | (refine lda 25 (.tmp 3) rfl rfl ?_; refine ldb q3 25 _ _ k3.out rfl under_wide rfl info_wide ?_) | (refine lda 25 (.tmp 5) rfl rfl ?_; refine ldb (wc2.heap.size) 25 _ _ k5.out rfl under_wide rfl info_wide ?_) | (refine lda 25 (.tmp 6) rfl rfl ?_; refine ldb (wc2.heap.size + 1) 25 _ _ k6.out rfl under_wide rfl info_wide ?_) | (refine ldga 25 (.tmp 2) rfl rfl ?_; refine ldgb q2 25 _ _ k2.out rfl under_wide rfl info_wide ?_) | (refine ldga 25 (.tmp 3) rfl rfl ?_; refine ldgb q3 25 _ _ k3.out rfl under_wide rfl info_wide ?_) | (refine ldga 25 (.tmp 5) rfl rfl ?_; refine ldgb (wc2.heap.size) 25 _ _ k5.out rfl under_wide rfl info_wide ?_) | (refine ldga 25 (.tmp 6) rfl rfl ?_; refine ldgb (wc2.heap.size + 1) 25 _ _ k6.out rfl under_wide rfl info_wide ?_))
  clear z5 z6
  have o6 : wc2.heap.size < wc2.heap.size + 1 := by omega
  generalize wc2.heap.size + 1 = q6 at k2 k3 k5 k6 l2 l3 o6 kW ⊢
  generalize wc2.heap.size = q5 at k2 k3 k5 k6 l2 l3 o6 kW ⊢
  generalize World.setRow _ _ _ = wa3 at k2 k3 k5 k6 l2 l3 o6 kW ⊢
  refine (cpl _).mono ?_
  rintro e wc4 ⟨rfl, hb⟩
  replace k2 := Lib.hid (k2.out.below hb)
  replace k3 := Lib.hid (k3.out.below hb)
  replace k5 := Lib.hid (k5.out.below hb)
  replace k6 := Lib.hid (k6.out.below hb)
  replace kW := kW.trans (hb.mono kW.size)
  clear hb
  go_wp2_with (first | (refine lda 25 (.tmp 2) rfl rfl ?_; refine ldb q2 25 _ _ k2.out rfl under_wide rfl info_wide ?_) | (refine lda 25 (.tmp 3) rfl rfl ?_; refine ldb q3 25 _ _ k3.out rfl under_wide rfl info_wide ?_) | (refine lda 25 (.tmp 5) rfl rfl ?_; refine ldb q5 25 _ _ k5.out rfl under_wide rfl info_wide ?_) | (refine lda 25 (.tmp 6) rfl rfl ?_; refine ldb q6 25 _ _ k6.out rfl under_wide rfl info_wide ?_) | (refine ldga 25 (.tmp 2) rfl rfl ?_; refine ldgb q2 25 _ _ k2.out rfl under_wide rfl info_wide ?_) | (refine ldga 25 (.tmp 3) rfl rfl ?_; refine ldgb q3 25 _ _ k3.out rfl under_wide rfl info_wide ?_) | (refine ldga 25 (.tmp 5) rfl rfl ?_; refine ldgb q5 25 _ _ k5.out rfl under_wide rfl info_wide ?_) | (refine ldga 25 (.tmp 6) rfl rfl ?_; refine ldgb q6 25 _ _ k6.out rfl under_wide rfl info_wide ?_))
  refine (c2 _).mono ?_
  rintro e wc5 ⟨rfl, hb⟩
  replace k2 := Lib.hid (k2.out.below hb)
  replace k3 := Lib.hid (k3.out.below hb)
  replace k5 := Lib.hid (k5.out.below hb)
  replace k6 := Lib.hid (k6.out.below hb)
  replace kW := kW.trans (hb.mono kW.size)
  clear hb
  have l2 := k2.out.lt
  have l3 := k3.out.lt
  have l5 := k5.out.lt
  have l6 := k6.out.lt
  have z8 : Hid (Blk (wc5.alloc (.cells wid0 25)) (wc5.heap.size) 25 wid0) := (Blk.new _ _ _ : Blk (wc5.alloc (.cells wid0 25)) wc5.heap.size 25 wid0)
  have k8 : Hid (Blk ((wc5.alloc (.cells wid0 25)).setRow (wc5.heap.size) (widL P NP)) (wc5.heap.size) 25 (widL P NP)) := (z8.out.row (widL P NP))
  replace k2 := Lib.hid ((k2.out.old (.cells wid0 25)).rowOther (k := wc5.heap.size) (by omega) (widL P NP))
  replace k3 := Lib.hid ((k3.out.old (.cells wid0 25)).rowOther (k := wc5.heap.size) (by omega) (widL P NP))
  replace k5 := Lib.hid ((k5.out.old (.cells wid0 25)).rowOther (k := wc5.heap.size) (by omega) (widL P NP))
  replace k6 := Lib.hid ((k6.out.old (.cells wid0 25)).rowOther (k := wc5.heap.size) (by omega) (widL P NP))
  replace kW := (below_row (kW.alloc (by first | exact kW.size | (simp; have := kW.size; omega)) (.cells wid0 25)) (g := wc5.heap.size) (by have := kW.size; omega) (widL P NP))
  go_wp2_with (first | (refine sta 25 (.tmp 8) (.tmp 45) rfl rfl ?_; refine stb (wc5.heap.size) (widL P NP) 25 _ z8.out rfl rfl info_wide rfl (widF_ones _ (wd NP)) ?_) | (refine lda 25 (.tmp 2) rfl rfl ?_; refine ldb q2 25 _ _ k2.out rfl under_wide rfl info_wide ?_) | (refine lda 25 (.tmp 3) rfl rfl ?_; refine ldb q3 25 _ _ k3.out rfl under_wide rfl info_wide ?_) | (refine lda 25 (.tmp 5) rfl rfl ?_; refine ldb q5 25 _ _ k5.out rfl under_wide rfl info_wide ?_) | (refine lda 25 (.tmp 6) rfl rfl ?_; refine ldb q6 25 _ _ k6.out rfl under_wide rfl info_wide ?_) | (refine lda 25 (.tmp 8) rfl rfl ?_; refine ldb (wc5.heap.size) 25 _ _ k8.out rfl under_wide rfl info_wide ?_) | (refine ldga 25 (.tmp 2) rfl rfl ?_; refine ldgb q2 25 _ _ k2.out rfl under_wide rfl info_wide ?_) | (refine ldga 25 (.tmp 3) rfl rfl ?_; refine ldgb q3 25 _ _ k3.out rfl under_wide rfl info_wide ?_) | (refine ldga 25 (.tmp 5) rfl rfl ?_; refine ldgb q5 25 _ _ k5.out rfl under_wide rfl info_wide ?_) | (refine ldga 25 (.tmp 6) rfl rfl ?_; refine ldgb q6 25 _ _ k6.out rfl under_wide rfl info_wide ?_) | (refine ldga 25 (.tmp 8) rfl rfl ?_; refine ldgb (wc5.heap.size) 25 _ _ k8.out rfl under_wide rfl info_wide ?_))
  clear z8
  generalize wc5.heap.size = q8 at k2 k3 k5 k6 k8 l2 l3 l5 l6 kW ⊢
  generalize World.setRow _ _ _ = wa6 at k2 k3 k5 k6 k8 l2 l3 l5 l6 kW ⊢
  refine (c3 _).mono ?_
  rintro e wc7 ⟨rfl, hb⟩
  replace k2 := Lib.hid (k2.out.below hb)
  replace k3 := Lib.hid (k3.out.below hb)
  replace k5 := Lib.hid (k5.out.below hb)
  replace k6 := Lib.hid (k6.out.below hb)
  replace k8 := Lib.hid (k8.out.below hb)
  replace kW := kW.trans (hb.mono kW.size)
  clear hb
  have l2 := k2.out.lt
  have l3 := k3.out.lt
  have l5 := k5.out.lt
  have l6 := k6.out.lt
  have l8 := k8.out.lt
  have z10 : Hid (Blk (wc7.alloc (.cells wid0 25)) (wc7.heap.size) 25 wid0) := (Blk.new _ _ _ : Blk (wc7.alloc (.cells wid0 25)) wc7.heap.size 25 wid0)
  have k10 : Hid (Blk ((wc7.alloc (.cells wid0 25)).setRow (wc7.heap.size) (widL sx n0)) (wc7.heap.size) 25 (widL sx n0)) := (z10.out.row (widL sx n0))
  replace k2 := Lib.hid ((k2.out.old (.cells wid0 25)).rowOther (k := wc7.heap.size) (by omega) (widL sx n0))
  replace k3 := Lib.hid ((k3.out.old (.cells wid0 25)).rowOther (k := wc7.heap.size) (by omega) (widL sx n0))
  replace k5 := Lib.hid ((k5.out.old (.cells wid0 25)).rowOther (k := wc7.heap.size) (by omega) (widL sx n0))
  replace k6 := Lib.hid ((k6.out.old (.cells wid0 25)).rowOther (k := wc7.heap.size) (by omega) (widL sx n0))
  replace k8 := Lib.hid ((k8.out.old (.cells wid0 25)).rowOther (k := wc7.heap.size) (by omega) (widL sx n0))
  replace kW := (below_row (kW.alloc (by first | exact kW.size | (simp; have := kW.size; omega)) (.cells wid0 25)) (g := wc7.heap.size) (by have := kW.size; omega) (widL sx n0))
  go_wp2_with (first | (refine sta 25 (.tmp 10) (.tmp 51) rfl rfl ?_; refine stb (wc7.heap.size) (widL sx n0) 25 _ z10.out rfl rfl info_wide rfl (widF_ones _ (wd n0)) ?_) | (refine lda 25 (.tmp 2) rfl rfl ?_; refine ldb q2 25 _ _ k2.out rfl under_wide rfl info_wide ?_) | (refine lda 25 (.tmp 3) rfl rfl ?_; refine ldb q3 25 _ _ k3.out rfl under_wide rfl info_wide ?_) | (refine lda 25 (.tmp 5) rfl rfl ?_; refine ldb q5 25 _ _ k5.out rfl under_wide rfl info_wide ?_) | (refine lda 25 (.tmp 6) rfl rfl ?_; refine ldb q6 25 _ _ k6.out rfl under_wide rfl info_wide ?_) | (refine lda 25 (.tmp 8) rfl rfl ?_; refine ldb q8 25 _ _ k8.out rfl under_wide rfl info_wide ?_) | (refine lda 25 (.tmp 10) rfl rfl ?_; refine ldb (wc7.heap.size) 25 _ _ k10.out rfl under_wide rfl info_wide ?_) | (refine ldga 25 (.tmp 2) rfl rfl ?_; refine ldgb q2 25 _ _ k2.out rfl under_wide rfl info_wide ?_) | (refine ldga 25 (.tmp 3) rfl rfl ?_; refine ldgb q3 25 _ _ k3.out rfl under_wide rfl info_wide ?_) | (refine ldga 25 (.tmp 5) rfl rfl ?_; refine ldgb q5 25 _ _ k5.out rfl under_wide rfl info_wide ?_) | (refine ldga 25 (.tmp 6) rfl rfl ?_; refine ldgb q6 25 _ _ k6.out rfl under_wide rfl info_wide ?_) | (refine ldga 25 (.tmp 8) rfl rfl ?_; refine ldgb q8 25 _ _ k8.out rfl under_wide rfl info_wide ?_) | (refine ldga 25 (.tmp 10) rfl rfl ?_; refine ldgb (wc7.heap.size) 25 _ _ k10.out rfl under_wide rfl info_wide ?_))
  clear z10
  generalize wc7.heap.size = q10 at k2 k3 k5 k6 k8 k10 l2 l3 l5 l6 l8 kW ⊢
  generalize World.setRow _ _ _ = wa8 at k2 k3 k5 k6 k8 k10 l2 l3 l5 l6 l8 kW ⊢
  have hG : Keep [(q2, 25, (widL s0 n0)), (q3, 25, (widL false n1)), (q5, 25, (widL Sq Nq)), (q6, 25, (widL Sr Nr)), (q8, 25, (widL P NP)), (q10, 25, (widL sx n0))] q2 25 (widL s0 n0) (widL s0 n0) w wa8.drew := by
    refine ⟨?_, .inl k2.out.drew, kW.drew⟩
    intro k hk
    simp only [List.mem_cons, List.mem_nil_iff, or_false] at hk
    rcases hk with rfl | rfl | rfl | rfl | rfl | rfl
    · exact k2.out.drew
    · exact k3.out.drew
    · exact k5.out.drew
    · exact k6.out.drew
    · exact k8.out.drew
    · exact k10.out.drew
  clear k2 k3 k5 k6 k8 k10 kW
  refine region_kit (ds := [some 53, some 54, some 12, some 13, none]) [((fun k => decide (q10 + 1 ≤ k)), 25, (widL false 0))] [[], [], [], [], [0, 2]] (fun i => i == 2 || i == 3) [.is _ 0 (.agg (widL false 0)), .is _ 1 (.agg (widL false n1)), .ptr2 _ 2 (q10 + 1) 25 wid0 (widL false 0) (by intro r hr k hk hx; simp only [List.mem_cons, List.mem_nil_iff, or_false] at hr; rcases hr with rfl <;> simp at hx ⊢ <;> omega), .ptr2 _ 3 (q10 + 1) 25 wid0 (widL false 0) (by intro r hr k hk hx; simp only [List.mem_cons, List.mem_nil_iff, or_false] at hr; rcases hr with rfl <;> simp at hx ⊢ <;> omega), .own _ 2 (q10 + 1) 25 (widL false 0) (by intro r hr k hk hx; simp only [List.mem_cons, List.mem_nil_iff, or_false] at hr; rcases hr with rfl <;> simp at hx ⊢ <;> omega)] (Keep [(q2, 25, (widL s0 n0)), (q3, 25, (widL false n1)), (q5, 25, (widL Sq Nq)), (q6, 25, (widL Sr Nr)), (q8, 25, (widL P NP)), (q10, 25, (widL sx n0))] (q2) 25 (widL s0 n0) (widL s0 n0) w) follows_mixed (by kernel_rfl) (by kernel_rfl) (by kernel_rfl) (fun _ _ h he => h.ext he (by intro r hr k hk; simp only [List.mem_cons, List.mem_nil_iff, or_false] at hr hk; rcases hr with rfl <;> rcases hk with rfl | rfl | rfl | rfl | rfl | rfl <;> simp <;> omega) (by intro r hr hx; simp only [List.mem_cons, List.mem_nil_iff, or_false] at hr; rcases hr with rfl <;> simp at hx ⊢ <;> omega) (by intro r hr k hk; simp only [List.mem_cons, List.mem_nil_iff, or_false] at hr; rcases hr with rfl <;> simp <;> omega)) hG ?_ ?_
  · refine steps_cons ?_ (steps_cons ?_ (steps_cons ?_ (steps_cons ?_ (steps_cons ?_ (steps_nil)))))
    · exact fun xs wx hG hF => step_call1 15 (.const (.int .i64 (0))) #[3] (.int .i64 (0)) rfl rfl (by kernel_rfl) (of0 wx) (fun e w' h => ⟨_, h.1, rfl, h.2⟩)
    · exact fun xs wx hG _ => step_row 25 (.tmp 3) rfl (q3) (eval_old (by decide)) 25 (widL false n1) _ (hG.rows _ (List.mem_cons_of_mem _ (List.mem_cons_self ..))) under_wide rfl info_wide rfl
    · exact fun xs wx hG _ => step_alloc (.cells wid0 25) (by go_simp) ⟨_, (by have := Blk.lt (hG.rows _ (List.mem_cons_of_mem _ (List.mem_cons_of_mem _ (List.mem_cons_of_mem _ (List.mem_cons_of_mem _ (List.mem_cons_of_mem _ (List.mem_cons_self ..))))))); omega), rfl, .inl (Blk.new _ _ _)⟩
    · exact fun xs wx hG _ => step_alloc (.cells wid0 25) (by go_simp) ⟨_, (by have := Blk.lt (hG.rows _ (List.mem_cons_of_mem _ (List.mem_cons_of_mem _ (List.mem_cons_of_mem _ (List.mem_cons_of_mem _ (List.mem_cons_of_mem _ (List.mem_cons_self ..))))))); omega), rfl, .inl (Blk.new _ _ _)⟩
    · intro xs wx hG hF
      obtain ⟨g, hg, hx, hr | hr⟩ := hF.2.1
      · exact step_store 25 (.tmp 12) (.tmp 53) rfl g (widL false 0) ((eval_new (i := 2) (by decide) rfl (by simp)).trans hx) ((eval_new (i := 0) (by decide) rfl (by simp)).trans hF.1) _ _ hr info_wide rfl (widF_ones _ (wd 0)) ⟨_, (List.mem_cons_self ..), by simp <;> omega, rfl, rfl⟩ ⟨g, hg, hx, Blk.row hr _⟩
      · exact step_store 25 (.tmp 12) (.tmp 53) rfl g (widL false 0) ((eval_new (i := 2) (by decide) rfl (by simp)).trans hx) ((eval_new (i := 0) (by decide) rfl (by simp)).trans hF.1) _ _ hr info_wide rfl (widF_ones _ (wd 0)) ⟨_, (List.mem_cons_self ..), by simp <;> omega, rfl, rfl⟩ ⟨g, hg, hx, Blk.row hr _⟩
  intro xs wx hG hA hF
  obtain ⟨f0, f1, f2, f3, f4, _⟩ := hF
  have f0 : xs 0 = (.agg (widL false 0)) := f0
  have f1 : xs 1 = (.agg (widL false n1)) := f1
  obtain ⟨g2, l2, x2, r2⟩ := f2
  obtain ⟨g3, l3, x3, r3⟩ := f3
  obtain ⟨g4, l4, x4, r4⟩ := f4
  simp only [fillIn, Act.put, List.setIfInBounds_toArray, List.set_cons_zero, List.set_cons_succ, f0, f1, x2, x3, List.drop_succ_cons, List.drop_zero, List.length_cons, List.length_nil]
  have hne := hA 2 3 (by decide) (by decide) rfl rfl (by decide)
  rw [x2, x3] at hne
  have hq : g2 ≠ g3 := fun e => hne (by rw [e])
  have e2 : g2 = g4 := by
    have := x2.symm.trans x4
    simp at this
    exact this
  subst e2
  obtain ⟨kk, _, kW⟩ := hG
  have k2 : Hid (Blk wx q2 25 (widL s0 n0)) := kk _ (List.mem_cons_self ..)
  have k3 : Hid (Blk wx q3 25 (widL false n1)) := kk _ (List.mem_cons_of_mem _ (List.mem_cons_self ..))
  have k5 : Hid (Blk wx q5 25 (widL Sq Nq)) := kk _ (List.mem_cons_of_mem _ (List.mem_cons_of_mem _ (List.mem_cons_self ..)))
  have k6 : Hid (Blk wx q6 25 (widL Sr Nr)) := kk _ (List.mem_cons_of_mem _ (List.mem_cons_of_mem _ (List.mem_cons_of_mem _ (List.mem_cons_self ..))))
  have k8 : Hid (Blk wx q8 25 (widL P NP)) := kk _ (List.mem_cons_of_mem _ (List.mem_cons_of_mem _ (List.mem_cons_of_mem _ (List.mem_cons_of_mem _ (List.mem_cons_self ..)))))
  have k10 : Hid (Blk wx q10 25 (widL sx n0)) := kk _ (List.mem_cons_of_mem _ (List.mem_cons_of_mem _ (List.mem_cons_of_mem _ (List.mem_cons_of_mem _ (List.mem_cons_of_mem _ (List.mem_cons_self ..))))))
  have k12 : Hid (Blk wx g2 25 (widL false 0)) := r4
  have z13 : Hid (Blk wx g3 25 (widL false 0)) := r3.elim (fun h => Blk.of_eq h widL0) id
  clear kk hne hA r2 r3 r4 x2 x3 x4 f0 f1
  generalize g2 = q12 at *
  generalize g3 = q13 at *
  refine wpList_store_row rfl 25 (.tmp 13) (.tmp 54) rfl q13 (widL false n1) rfl rfl 25 _ z13.out info_wide rfl (widF_ones _ (wd n1)) ?_
  replace k2 := Lib.hid (k2.out.rowOther (k := q13) (by omega) (widL false n1))
  replace k3 := Lib.hid (k3.out.rowOther (k := q13) (by omega) (widL false n1))
  replace k5 := Lib.hid (k5.out.rowOther (k := q13) (by omega) (widL false n1))
  replace k6 := Lib.hid (k6.out.rowOther (k := q13) (by omega) (widL false n1))
  replace k8 := Lib.hid (k8.out.rowOther (k := q13) (by omega) (widL false n1))
  replace k10 := Lib.hid (k10.out.rowOther (k := q13) (by omega) (widL false n1))
  replace k12 := Lib.hid (k12.out.rowOther (k := q13) (by omega) (widL false n1))
  replace k13 := Lib.hid (z13.out.row (widL false n1))
  replace kW := (below_row kW (g := q13) (by omega) (widL false n1))
  generalize World.setRow _ _ _ = wa9 at k2 k3 k5 k6 k8 k10 k12 k13 kW ⊢
  have c0 := (wide_cells k3.out).1
  go_wp2_with (first | (refine lda 25 (.tmp 2) rfl rfl ?_; refine ldb q2 25 _ _ k2.out rfl under_wide rfl info_wide ?_) | (refine lda 25 (.tmp 3) rfl rfl ?_; refine ldb q3 25 _ _ k3.out rfl under_wide rfl info_wide ?_) | (refine lda 25 (.tmp 5) rfl rfl ?_; refine ldb q5 25 _ _ k5.out rfl under_wide rfl info_wide ?_) | (refine lda 25 (.tmp 6) rfl rfl ?_; refine ldb q6 25 _ _ k6.out rfl under_wide rfl info_wide ?_) | (refine lda 25 (.tmp 8) rfl rfl ?_; refine ldb q8 25 _ _ k8.out rfl under_wide rfl info_wide ?_) | (refine lda 25 (.tmp 10) rfl rfl ?_; refine ldb q10 25 _ _ k10.out rfl under_wide rfl info_wide ?_) | (refine lda 25 (.tmp 12) rfl rfl ?_; refine ldb q12 25 _ _ k12.out rfl under_wide rfl info_wide ?_) | (refine lda 25 (.tmp 13) rfl rfl ?_; refine ldb q13 25 _ _ k13.out rfl under_wide rfl info_wide ?_) | (refine ldga 25 (.tmp 2) rfl rfl ?_; refine ldgb q2 25 _ _ k2.out rfl under_wide rfl info_wide ?_) | (refine ldga 25 (.tmp 3) rfl rfl ?_; refine ldgb q3 25 _ _ k3.out rfl under_wide rfl info_wide ?_) | (refine ldga 25 (.tmp 5) rfl rfl ?_; refine ldgb q5 25 _ _ k5.out rfl under_wide rfl info_wide ?_) | (refine ldga 25 (.tmp 6) rfl rfl ?_; refine ldgb q6 25 _ _ k6.out rfl under_wide rfl info_wide ?_) | (refine ldga 25 (.tmp 8) rfl rfl ?_; refine ldgb q8 25 _ _ k8.out rfl under_wide rfl info_wide ?_) | (refine ldga 25 (.tmp 10) rfl rfl ?_; refine ldgb q10 25 _ _ k10.out rfl under_wide rfl info_wide ?_) | (refine ldga 25 (.tmp 12) rfl rfl ?_; refine ldgb q12 25 _ _ k12.out rfl under_wide rfl info_wide ?_) | (refine ldga 25 (.tmp 13) rfl rfl ?_; refine ldgb q13 25 _ _ k13.out rfl under_wide rfl info_wide ?_))
  refine (cc1 _).mono ?_
  rintro e wc10 ⟨rfl, hb⟩
  replace k2 := Lib.hid (k2.out.below hb)
  replace k3 := Lib.hid (k3.out.below hb)
  replace k5 := Lib.hid (k5.out.below hb)
  replace k6 := Lib.hid (k6.out.below hb)
  replace k8 := Lib.hid (k8.out.below hb)
  replace k10 := Lib.hid (k10.out.below hb)
  replace k12 := Lib.hid (k12.out.below hb)
  replace k13 := Lib.hid (k13.out.below hb)
  replace kW := kW.trans (hb.mono kW.size)
  clear hb
  go_wp2_with (first | (refine lda 25 (.tmp 2) rfl rfl ?_; refine ldb q2 25 _ _ k2.out rfl under_wide rfl info_wide ?_) | (refine lda 25 (.tmp 3) rfl rfl ?_; refine ldb q3 25 _ _ k3.out rfl under_wide rfl info_wide ?_) | (refine lda 25 (.tmp 5) rfl rfl ?_; refine ldb q5 25 _ _ k5.out rfl under_wide rfl info_wide ?_) | (refine lda 25 (.tmp 6) rfl rfl ?_; refine ldb q6 25 _ _ k6.out rfl under_wide rfl info_wide ?_) | (refine lda 25 (.tmp 8) rfl rfl ?_; refine ldb q8 25 _ _ k8.out rfl under_wide rfl info_wide ?_) | (refine lda 25 (.tmp 10) rfl rfl ?_; refine ldb q10 25 _ _ k10.out rfl under_wide rfl info_wide ?_) | (refine lda 25 (.tmp 12) rfl rfl ?_; refine ldb q12 25 _ _ k12.out rfl under_wide rfl info_wide ?_) | (refine lda 25 (.tmp 13) rfl rfl ?_; refine ldb q13 25 _ _ k13.out rfl under_wide rfl info_wide ?_) | (refine ldga 25 (.tmp 2) rfl rfl ?_; refine ldgb q2 25 _ _ k2.out rfl under_wide rfl info_wide ?_) | (refine ldga 25 (.tmp 3) rfl rfl ?_; refine ldgb q3 25 _ _ k3.out rfl under_wide rfl info_wide ?_) | (refine ldga 25 (.tmp 5) rfl rfl ?_; refine ldgb q5 25 _ _ k5.out rfl under_wide rfl info_wide ?_) | (refine ldga 25 (.tmp 6) rfl rfl ?_; refine ldgb q6 25 _ _ k6.out rfl under_wide rfl info_wide ?_) | (refine ldga 25 (.tmp 8) rfl rfl ?_; refine ldgb q8 25 _ _ k8.out rfl under_wide rfl info_wide ?_) | (refine ldga 25 (.tmp 10) rfl rfl ?_; refine ldgb q10 25 _ _ k10.out rfl under_wide rfl info_wide ?_) | (refine ldga 25 (.tmp 12) rfl rfl ?_; refine ldgb q12 25 _ _ k12.out rfl under_wide rfl info_wide ?_) | (refine ldga 25 (.tmp 13) rfl rfl ?_; refine ldgb q13 25 _ _ k13.out rfl under_wide rfl info_wide ?_))
  refine (cc2 _).mono ?_
  rintro e wc11 ⟨rfl, hb⟩
  replace k2 := Lib.hid (k2.out.below hb)
  replace k3 := Lib.hid (k3.out.below hb)
  replace k5 := Lib.hid (k5.out.below hb)
  replace k6 := Lib.hid (k6.out.below hb)
  replace k8 := Lib.hid (k8.out.below hb)
  replace k10 := Lib.hid (k10.out.below hb)
  replace k12 := Lib.hid (k12.out.below hb)
  replace k13 := Lib.hid (k13.out.below hb)
  replace kW := kW.trans (hb.mono kW.size)
  clear hb
  have c0 := (wide_cells k3.out).1
  go_wp2_with (first | (refine lda 25 (.tmp 2) rfl rfl ?_; refine ldb q2 25 _ _ k2.out rfl under_wide rfl info_wide ?_) | (refine lda 25 (.tmp 3) rfl rfl ?_; refine ldb q3 25 _ _ k3.out rfl under_wide rfl info_wide ?_) | (refine lda 25 (.tmp 5) rfl rfl ?_; refine ldb q5 25 _ _ k5.out rfl under_wide rfl info_wide ?_) | (refine lda 25 (.tmp 6) rfl rfl ?_; refine ldb q6 25 _ _ k6.out rfl under_wide rfl info_wide ?_) | (refine lda 25 (.tmp 8) rfl rfl ?_; refine ldb q8 25 _ _ k8.out rfl under_wide rfl info_wide ?_) | (refine lda 25 (.tmp 10) rfl rfl ?_; refine ldb q10 25 _ _ k10.out rfl under_wide rfl info_wide ?_) | (refine lda 25 (.tmp 12) rfl rfl ?_; refine ldb q12 25 _ _ k12.out rfl under_wide rfl info_wide ?_) | (refine lda 25 (.tmp 13) rfl rfl ?_; refine ldb q13 25 _ _ k13.out rfl under_wide rfl info_wide ?_) | (refine ldga 25 (.tmp 2) rfl rfl ?_; refine ldgb q2 25 _ _ k2.out rfl under_wide rfl info_wide ?_) | (refine ldga 25 (.tmp 3) rfl rfl ?_; refine ldgb q3 25 _ _ k3.out rfl under_wide rfl info_wide ?_) | (refine ldga 25 (.tmp 5) rfl rfl ?_; refine ldgb q5 25 _ _ k5.out rfl under_wide rfl info_wide ?_) | (refine ldga 25 (.tmp 6) rfl rfl ?_; refine ldgb q6 25 _ _ k6.out rfl under_wide rfl info_wide ?_) | (refine ldga 25 (.tmp 8) rfl rfl ?_; refine ldgb q8 25 _ _ k8.out rfl under_wide rfl info_wide ?_) | (refine ldga 25 (.tmp 10) rfl rfl ?_; refine ldgb q10 25 _ _ k10.out rfl under_wide rfl info_wide ?_) | (refine ldga 25 (.tmp 12) rfl rfl ?_; refine ldgb q12 25 _ _ k12.out rfl under_wide rfl info_wide ?_) | (refine ldga 25 (.tmp 13) rfl rfl ?_; refine ldgb q13 25 _ _ k13.out rfl under_wide rfl info_wide ?_))
  have hG : Keep [(q2, 25, (widL s0 n0)), (q3, 25, (widL false n1)), (q5, 25, (widL Sq Nq)), (q6, 25, (widL Sr Nr)), (q8, 25, (widL P NP)), (q10, 25, (widL sx n0)), (q12, 25, (widL false 0)), (q13, 25, (widL false n1))] q2 25 (widL s0 n0) (widL s0 n0) w wc11.drew := by
    refine ⟨?_, .inl k2.out.drew, kW.drew⟩
    intro k hk
    simp only [List.mem_cons, List.mem_nil_iff, or_false] at hk
    rcases hk with rfl | rfl | rfl | rfl | rfl | rfl | rfl | rfl
    · exact k2.out.drew
    · exact k3.out.drew
    · exact k5.out.drew
    · exact k6.out.drew
    · exact k8.out.drew
    · exact k10.out.drew
    · exact k12.out.drew
    · exact k13.out.drew
  clear k2 k3 k5 k6 k8 k10 k12 k13 kW
  refine region_kitG (ds := [some 91, some 92, some 93, some 94, some 95, some 96, some 97, some 98, some 99, some 100, some 101, some 102, some 103, some 104, some 105, some 106, some 107, some 108, some 109, some 110, some 111, some 112]) [] [[], [0], [1], [], [3], [2, 4], [5], [], [7], [6, 8], [9], [], [], [12], [11, 13], [10, 14], [15], [], [16, 17], [18], [], [19, 20]] (fun i => false) [.is _ 0 (.int .i64 0), .is _ 1 (.bool true), .is _ 2 (.bool true), .is _ 3 (.int .i64 0), .is _ 4 (.bool true), .is _ 5 (.bool true), .is _ 6 (.bool true), .is _ 7 (.int .i64 0), .is _ 8 (.bool true), .is _ 9 (.bool true), .is _ 10 (.bool true), .is _ 11 (.agg (widL sx n0)), .is _ 12 (.agg (widL s0 n0)), .is _ 13 (.agg (widL sx n0)), .is _ 14 (.bool true), .is _ 15 (.bool true), .is _ 16 (.bool true), .is _ 17 (.bool true), .is _ 18 (.bool true), .is _ 19 (.bool true), .is _ 20 (.bool true), .is _ 21 (.bool true)] (Keep [(q2, 25, (widL s0 n0)), (q3, 25, (widL false n1)), (q5, 25, (widL Sq Nq)), (q6, 25, (widL Sr Nr)), (q8, 25, (widL P NP)), (q10, 25, (widL sx n0)), (q12, 25, (widL false 0)), (q13, 25, (widL false n1))] (q2) 25 (widL s0 n0) (widL s0 n0) w) follows_mixed (by kernel_rfl) (by kernel_rfl) (by kernel_rfl) (fun _ _ h he => h.ext he (by intro r hr; simp at hr) (by intro r hr; simp at hr) (by intro r hr; simp at hr)) hG ?_ [none, none, some true, none, none, none, some true, none, none, none, some true, none, none, none, none, none, some true, none, none, some true, none, none] ⟨fun _ _ h => h, ⟨fun _ _ h => h, ⟨fun _ _ h => h, ⟨fun _ _ h => h, ⟨fun _ _ h => h, trivial⟩⟩⟩⟩⟩ (Nat.le_of_ble_eq_true rfl) (by kernel_rfl) rfl ?_
  · refine steps_cons ?_ (steps_cons ?_ (steps_cons ?_ (steps_cons ?_ (steps_cons ?_ (steps_cons ?_ (steps_cons ?_ (steps_cons ?_ (steps_cons ?_ (steps_cons ?_ (steps_cons ?_ (steps_cons ?_ (steps_cons ?_ (steps_cons ?_ (steps_cons ?_ (steps_cons ?_ (steps_cons ?_ (steps_cons ?_ (steps_cons ?_ (steps_cons ?_ (steps_cons ?_ (steps_cons ?_ (steps_nil))))))))))))))))))))))
    · exact fun xs wx hG _ => step_value (.int .i64 0) (w' := wx) (by simp only [fillIn, Act.put, List.setIfInBounds_toArray, List.set_cons_zero, List.set_cons_succ]; go_simp) rfl (Below.refl _ _)
    · intro xs wx hG hF
      have f0 : xs 0 = (.int .i64 0) := hF.1
      exact step_value (.bool true) (w' := wx) (by simp only [fillIn, Act.put, List.setIfInBounds_toArray, List.set_cons_zero, List.set_cons_succ, f0]; go_simp) rfl (Below.refl _ _)
    · intro xs wx hG hF
      have f1 : xs 1 = (.bool true) := hF.1
      exact step_value (.bool true) (w' := wx) (by simp only [fillIn, Act.put, List.setIfInBounds_toArray, List.set_cons_zero, List.set_cons_succ, f1]; go_simp) rfl (Below.refl _ _)
    · exact fun xs wx hG _ => step_value (.int .i64 0) (w' := wx) (by simp only [fillIn, Act.put, List.setIfInBounds_toArray, List.set_cons_zero, List.set_cons_succ]; go_simp) rfl (Below.refl _ _)
    · intro xs wx hG hF
      have f3 : xs 3 = (.int .i64 0) := hF.1
      exact step_value (.bool true) (w' := wx) (by simp only [fillIn, Act.put, List.setIfInBounds_toArray, List.set_cons_zero, List.set_cons_succ, f3]; go_simp) rfl (Below.refl _ _)
    · intro xs wx hG hF
      have f2 : xs 2 = (.bool true) := hF.1
      have f4 : xs 4 = (.bool true) := hF.2.1
      exact step_value (.bool true) (w' := wx) (by simp only [fillIn, Act.put, List.setIfInBounds_toArray, List.set_cons_zero, List.set_cons_succ, f2, f4]; go_simp) rfl (Below.refl _ _)
    · intro xs wx hG hF
      have f5 : xs 5 = (.bool true) := hF.1
      exact step_value (.bool true) (w' := wx) (by simp only [fillIn, Act.put, List.setIfInBounds_toArray, List.set_cons_zero, List.set_cons_succ, f5]; go_simp) rfl (Below.refl _ _)
    · exact fun xs wx hG _ => step_value (.int .i64 0) (w' := wx) (by simp only [fillIn, Act.put, List.setIfInBounds_toArray, List.set_cons_zero, List.set_cons_succ]; go_simp) rfl (Below.refl _ _)
    · intro xs wx hG hF
      have f7 : xs 7 = (.int .i64 0) := hF.1
      exact step_value (.bool true) (w' := wx) (by simp only [fillIn, Act.put, List.setIfInBounds_toArray, List.set_cons_zero, List.set_cons_succ, f7]; go_simp) rfl (Below.refl _ _)
    · intro xs wx hG hF
      have f6 : xs 6 = (.bool true) := hF.1
      have f8 : xs 8 = (.bool true) := hF.2.1
      exact step_value (.bool true) (w' := wx) (by simp only [fillIn, Act.put, List.setIfInBounds_toArray, List.set_cons_zero, List.set_cons_succ, f6, f8]; go_simp) rfl (Below.refl _ _)
    · intro xs wx hG hF
      have f9 : xs 9 = (.bool true) := hF.1
      exact step_value (.bool true) (w' := wx) (by simp only [fillIn, Act.put, List.setIfInBounds_toArray, List.set_cons_zero, List.set_cons_succ, f9]; go_simp) rfl (Below.refl _ _)
    · exact fun xs wx hG _ => step_row 25 (.tmp 10) rfl (q10) (eval_old (by decide)) 25 (widL sx n0) _ (hG.rows _ (List.mem_cons_of_mem _ (List.mem_cons_of_mem _ (List.mem_cons_of_mem _ (List.mem_cons_of_mem _ (List.mem_cons_of_mem _ (List.mem_cons_self ..))))))) under_wide rfl info_wide rfl
    · exact fun xs wx hG _ => step_row 25 (.tmp 2) rfl (q2) (eval_old (by decide)) 25 (widL s0 n0) _ (hG.rows _ (List.mem_cons_self ..)) under_wide rfl info_wide rfl
    · exact fun xs wx hG hF => step_call1 38 (.tmp 103) #[25] (.agg (widL s0 n0)) rfl ((eval_new (i := 12) (by decide) rfl (by simp)).trans hF.1) (by kernel_rfl) (cpa wx) (fun e w' h => ⟨_, h.1, rfl, h.2⟩)
    · intro xs wx hG hF
      have f11 : xs 11 = (.agg (widL sx n0)) := hF.1
      have f13 : xs 13 = (.agg (widL sx n0)) := hF.2.1
      exact step_value (.bool true) (w' := wx) (by simp only [fillIn, Act.put, List.setIfInBounds_toArray, List.set_cons_zero, List.set_cons_succ, f11, f13]; go_simp) rfl (Below.refl _ _)
    · intro xs wx hG hF
      have f10 : xs 10 = (.bool true) := hF.1
      have f14 : xs 14 = (.bool true) := hF.2.1
      exact step_value (.bool true) (w' := wx) (by simp only [fillIn, Act.put, List.setIfInBounds_toArray, List.set_cons_zero, List.set_cons_succ, f10, f14]; go_simp) rfl (Below.refl _ _)
    · intro xs wx hG hF
      have f15 : xs 15 = (.bool true) := hF.1
      exact step_value (.bool true) (w' := wx) (by simp only [fillIn, Act.put, List.setIfInBounds_toArray, List.set_cons_zero, List.set_cons_succ, f15]; go_simp) rfl (Below.refl _ _)
    · exact fun xs wx hG _ => step_value (.bool true) (w' := wx) (by simp only [fillIn, Act.put, List.setIfInBounds_toArray, List.set_cons_zero, List.set_cons_succ]; go_simp) rfl (Below.refl _ _)
    · intro xs wx hG hF
      have f16 : xs 16 = (.bool true) := hF.1
      have f17 : xs 17 = (.bool true) := hF.2.1
      exact step_value (.bool true) (w' := wx) (by simp only [fillIn, Act.put, List.setIfInBounds_toArray, List.set_cons_zero, List.set_cons_succ, f16, f17]; go_simp) rfl (Below.refl _ _)
    · intro xs wx hG hF
      have f18 : xs 18 = (.bool true) := hF.1
      exact step_value (.bool true) (w' := wx) (by simp only [fillIn, Act.put, List.setIfInBounds_toArray, List.set_cons_zero, List.set_cons_succ, f18]; go_simp) rfl (Below.refl _ _)
    · exact fun xs wx hG hF => step_call0 21  #[]  rfl  (by kernel_rfl) (awake_any wx) (fun e w' h => ⟨_, h.1, rfl, h.2⟩)
    · intro xs wx hG hF
      have f19 : xs 19 = (.bool true) := hF.1
      have f20 : xs 20 = (.bool true) := hF.2.1
      exact step_value (.bool true) (w' := wx) (by simp only [fillIn, Act.put, List.setIfInBounds_toArray, List.set_cons_zero, List.set_cons_succ, f19, f20]; go_simp) rfl (Below.refl _ _)
  intro xs wx hG hA hF
  obtain ⟨f0, f1, f2, f3, f4, f5, f6, f7, f8, f9, f10, f11, f12, f13, f14, f15, f16, f17, f18, f19, f20, f21, _⟩ := hF
  have f0 : xs 0 = (.int .i64 0) := f0
  have f1 : xs 1 = (.bool true) := f1
  have f2 : xs 2 = (.bool true) := f2
  have f3 : xs 3 = (.int .i64 0) := f3
  have f4 : xs 4 = (.bool true) := f4
  have f5 : xs 5 = (.bool true) := f5
  have f6 : xs 6 = (.bool true) := f6
  have f7 : xs 7 = (.int .i64 0) := f7
  have f8 : xs 8 = (.bool true) := f8
  have f9 : xs 9 = (.bool true) := f9
  have f10 : xs 10 = (.bool true) := f10
  have f11 : xs 11 = (.agg (widL sx n0)) := f11
  have f12 : xs 12 = (.agg (widL s0 n0)) := f12
  have f13 : xs 13 = (.agg (widL sx n0)) := f13
  have f14 : xs 14 = (.bool true) := f14
  have f15 : xs 15 = (.bool true) := f15
  have f16 : xs 16 = (.bool true) := f16
  have f17 : xs 17 = (.bool true) := f17
  have f18 : xs 18 = (.bool true) := f18
  have f19 : xs 19 = (.bool true) := f19
  have f20 : xs 20 = (.bool true) := f20
  have f21 : xs 21 = (.bool true) := f21
  simp only [fillIn, Act.put, List.setIfInBounds_toArray, List.set_cons_zero, List.set_cons_succ, f0, f1, f2, f3, f4, f5, f6, f7, f8, f9, f10, f11, f12, f13, f14, f15, f16, f17, f18, f19, f20, f21, List.drop_succ_cons, List.drop_zero, List.length_cons, List.length_nil]
  obtain ⟨_, _, kW⟩ := hG
  go_wp2
  go_ret
  exact ⟨rfl, kW⟩
set_option maxRecDepth 100000 in
set_option maxHeartbeats 16000000 in
theorem div_false_over (s0 : Bool) (n0 n1 : Nat) (q r : Int) (w : World) (w0 : n0 < M256) (w1 : n1 < M256) (h0 : n1 ≠ 0) (hdv : DivV s0 n0 false n1 = .tuple #[.agg (widL (cS q) (cN q)), .agg (widL (cS r) (cN r)), .int .i64 0])
    (hid : wv s0 n0 = q * wv false n1 + r) (lq : cN q < M256) (lr : cN r < M256) (hb : 0 ≤ r ∧ r < (n1 : Int)) (hov : M256 ≤ (q * wv false n1).natAbs) :
    Calls Try.prog 9 #[.agg (widL s0 n0), .agg (widL false n1)] w (Gives (.bool true) w) := by
  have c1 : ∀ w, Calls Try.prog 30 #[.agg (widL s0 n0), .agg (widL false n1)] w (Gives (.tuple #[.agg (widL (cS q) (cN q)), .agg (widL (cS r) (cN r)), .int .i64 0]) w) := by
    intro w
    have h := pdiv_wide s0 false n0 n1 w w0 w1
    rw [hdv] at h
    exact h
  have cpl := fun w => plain_any false n1 w w1
  have ez := fun wx => eq_zero_ne (sg false n1) n1 w1 h0 wx
  have cpa := fun w => plain_any s0 n0 w w0
  have wq := wv_c q
  have wr := wv_c r
  obtain ⟨P, NP, EP, hp⟩ := res_ex (wv (cS q) (cN q) * wv false n1)
  have c2 := fun w => mul_res (cS q) false (cN q) n1 lq w1 hp w
  obtain ⟨S, NS, ES, hs⟩ := res_ex (wv P NP + wv (cS r) (cN r))
  have c3 := fun w => add_res P (cS r) NP (cN r) hp.lt lr hs w
  have cm1 := cmpW_int (cS r) false (cN r) 0
  have cm2 := cmpW_int (cS r) false (cN r) n1
  have cc1 := fun w => pcmp_wide (cS r) false (cN r) 0 w lr m_pos
  have cc2 := fun w => pcmp_wide (cS r) false (cN r) n1 w lr w1
  generalize cmpW (cS r) (cN r) false 0 = x1 at *
  generalize cmpW (cS r) (cN r) false n1 = x2 at *
  rw [wr] at cm1 cm2 hs
  rw [wq] at hp
  have z00 : wv false 0 = 0 := rfl
  have z01 : wv false n1 = n1 := rfl
  have hx1 : 0 ≤ x1 := by rcases cm1 with ⟨a, b⟩ | ⟨a, b⟩ | ⟨a, b⟩ <;> omega
  have hx2 : x2 < 0 := by rcases cm2 with ⟨a, b⟩ | ⟨a, b⟩ | ⟨a, b⟩ <;> omega
  obtain rfl : EP = 21 := by
    rcases hp.cases with ⟨_, h, _⟩ | ⟨h, _⟩
    · omega
    · exact h
  clear hdv hov hid wq wr hp hs cm1 cm2 z00 z01 hb w0 w1 lq lr h0
  generalize cS q = Sq at *
  generalize cN q = Nq at *
  generalize cS r = Sr at *
  generalize cN r = Nr at *
  generalize sg false n1 = sy at *
  clear q r
  go_enter Try.func9, Try.ntmps9
  go_upto_region 1 with fail
  have k2 : Hid (Blk ((w.alloc (.cells (widL s0 n0) 25)).alloc (.cells (widL false n1) 25)) (w.heap.size) 25 (widL s0 n0)) := (Blk.new _ _ _).old _
  have k3 : Hid (Blk ((w.alloc (.cells (widL s0 n0) 25)).alloc (.cells (widL false n1) 25)) (w.heap.size + 1) 25 (widL false n1)) := Blk.newAt (by simp) _ _
  have kW : Below w.heap.size w ((w.alloc (.cells (widL s0 n0) 25)).alloc (.cells (widL false n1) 25)) := (((Below.refl _ _).alloc (by simp) _).alloc (by simp <;> omega) _)
  obtain ⟨q2, hg2⟩ : ∃ g, g = w.heap.size := ⟨_, rfl⟩
  obtain ⟨q3, hg3⟩ : ∃ g, g = w.heap.size + 1 := ⟨_, rfl⟩
  rw [← hg3] at k3 ⊢
  rw [← hg2] at k2 ⊢
  have hlow : w.heap.size ≤ q2 := by omega
  have o3 : q2 < q3 := by omega
  clear hg2 hg3
  generalize World.alloc _ _ = wa1 at k2 k3 kW ⊢
  go_wp2_with (first | (refine lda 25 (.tmp 2) rfl rfl ?_; refine ldb q2 25 _ _ k2.out rfl under_wide rfl info_wide ?_) | (refine lda 25 (.tmp 3) rfl rfl ?_; refine ldb q3 25 _ _ k3.out rfl under_wide rfl info_wide ?_) | (refine ldga 25 (.tmp 2) rfl rfl ?_; refine ldgb q2 25 _ _ k2.out rfl under_wide rfl info_wide ?_) | (refine ldga 25 (.tmp 3) rfl rfl ?_; refine ldgb q3 25 _ _ k3.out rfl under_wide rfl info_wide ?_))
  refine (c1 _).mono ?_
  rintro e wc2 ⟨rfl, hb⟩
  replace k2 := Lib.hid (k2.out.below hb)
  replace k3 := Lib.hid (k3.out.below hb)
  replace kW := kW.trans (hb.mono kW.size)
  clear hb
  have l2 := k2.out.lt
  have l3 := k3.out.lt
  have z5 : Hid (Blk ((wc2.alloc (.cells wid0 25)).alloc (.cells wid0 25)) (wc2.heap.size) 25 wid0) := ((Blk.new _ _ _ : Blk (wc2.alloc (.cells wid0 25)) wc2.heap.size 25 wid0).old _)
  have z6 : Hid (Blk (((wc2.alloc (.cells wid0 25)).alloc (.cells wid0 25)).setRow (wc2.heap.size) (widL Sq Nq)) (wc2.heap.size + 1) 25 wid0) := ((Blk.newAt (by simp) _ _).rowOther (k := wc2.heap.size) (by omega) (widL Sq Nq))
  have k5 : Hid (Blk ((((wc2.alloc (.cells wid0 25)).alloc (.cells wid0 25)).setRow (wc2.heap.size) (widL Sq Nq)).setRow (wc2.heap.size + 1) (widL Sr Nr)) (wc2.heap.size) 25 (widL Sq Nq)) := ((z5.out.row (widL Sq Nq)).rowOther (k := wc2.heap.size + 1) (by omega) (widL Sr Nr))
  have k6 : Hid (Blk ((((wc2.alloc (.cells wid0 25)).alloc (.cells wid0 25)).setRow (wc2.heap.size) (widL Sq Nq)).setRow (wc2.heap.size + 1) (widL Sr Nr)) (wc2.heap.size + 1) 25 (widL Sr Nr)) := (z6.out.row (widL Sr Nr))
  replace k2 := Lib.hid ((((k2.out.old (.cells wid0 25)).old (.cells wid0 25)).rowOther (k := wc2.heap.size) (by omega) (widL Sq Nq)).rowOther (k := wc2.heap.size + 1) (by omega) (widL Sr Nr))
  replace k3 := Lib.hid ((((k3.out.old (.cells wid0 25)).old (.cells wid0 25)).rowOther (k := wc2.heap.size) (by omega) (widL Sq Nq)).rowOther (k := wc2.heap.size + 1) (by omega) (widL Sr Nr))
  replace kW := (below_row (below_row ((kW.alloc (by first | exact kW.size | (simp; have := kW.size; omega)) (.cells wid0 25)).alloc (by first | exact kW.size | (simp; have := kW.size; omega)) (.cells wid0 25)) (g := wc2.heap.size) (by have := kW.size; omega) (widL Sq Nq)) (g := wc2.heap.size + 1) (by have := kW.size; omega) (widL Sr Nr))
  go_wp2_with (first | (refine sta 25 (.tmp 5) (.tmp 19) rfl rfl ?_; refine stb (wc2.heap.size) (widL Sq Nq) 25 _ z5.out rfl rfl info_wide rfl (widF_ones _ (wd Nq)) ?_) | (refine sta 25 (.tmp 6) (.tmp 20) rfl rfl ?_; refine stb (wc2.heap.size + 1) (widL Sr Nr) 25 _ z6.out rfl rfl info_wide rfl (widF_ones _ (wd Nr)) ?_) | (refine lda 25 (.tmp 2) rfl rfl ?_; refine ldb q2 25 _ _ k2.out rfl under_wide rfl info_wide ?_) | (refine lda 25 (.tmp 3) rfl rfl ?_; refine ldb q3 25 _ _ k3.out rfl under_wide rfl info_wide ?_) | (refine lda 25 (.tmp 5) rfl rfl ?_; refine ldb (wc2.heap.size) 25 _ _ k5.out rfl under_wide rfl info_wide ?_) | (refine lda 25 (.tmp 6) rfl rfl ?_; refine ldb (wc2.heap.size + 1) 25 _ _ k6.out rfl under_wide rfl info_wide ?_) | (refine ldga 25 (.tmp 2) rfl rfl ?_; refine ldgb q2 25 _ _ k2.out rfl under_wide rfl info_wide ?_) | (refine ldga 25 (.tmp 3) rfl rfl ?_; refine ldgb q3 25 _ _ k3.out rfl under_wide rfl info_wide ?_) | (refine ldga 25 (.tmp 5) rfl rfl ?_; refine ldgb (wc2.heap.size) 25 _ _ k5.out rfl under_wide rfl info_wide ?_) | (refine ldga 25 (.tmp 6) rfl rfl ?_; refine ldgb (wc2.heap.size + 1) 25 _ _ k6.out rfl under_wide rfl info_wide ?_))
  clear z5 z6
  have o6 : wc2.heap.size < wc2.heap.size + 1 := by omega
  generalize wc2.heap.size + 1 = q6 at k2 k3 k5 k6 l2 l3 o6 kW ⊢
  generalize wc2.heap.size = q5 at k2 k3 k5 k6 l2 l3 o6 kW ⊢
  generalize World.setRow _ _ _ = wa3 at k2 k3 k5 k6 l2 l3 o6 kW ⊢
  refine (cpl _).mono ?_
  rintro e wc4 ⟨rfl, hb⟩
  replace k2 := Lib.hid (k2.out.below hb)
  replace k3 := Lib.hid (k3.out.below hb)
  replace k5 := Lib.hid (k5.out.below hb)
  replace k6 := Lib.hid (k6.out.below hb)
  replace kW := kW.trans (hb.mono kW.size)
  clear hb
  go_wp2_with (first | (refine lda 25 (.tmp 2) rfl rfl ?_; refine ldb q2 25 _ _ k2.out rfl under_wide rfl info_wide ?_) | (refine lda 25 (.tmp 3) rfl rfl ?_; refine ldb q3 25 _ _ k3.out rfl under_wide rfl info_wide ?_) | (refine lda 25 (.tmp 5) rfl rfl ?_; refine ldb q5 25 _ _ k5.out rfl under_wide rfl info_wide ?_) | (refine lda 25 (.tmp 6) rfl rfl ?_; refine ldb q6 25 _ _ k6.out rfl under_wide rfl info_wide ?_) | (refine ldga 25 (.tmp 2) rfl rfl ?_; refine ldgb q2 25 _ _ k2.out rfl under_wide rfl info_wide ?_) | (refine ldga 25 (.tmp 3) rfl rfl ?_; refine ldgb q3 25 _ _ k3.out rfl under_wide rfl info_wide ?_) | (refine ldga 25 (.tmp 5) rfl rfl ?_; refine ldgb q5 25 _ _ k5.out rfl under_wide rfl info_wide ?_) | (refine ldga 25 (.tmp 6) rfl rfl ?_; refine ldgb q6 25 _ _ k6.out rfl under_wide rfl info_wide ?_))
  refine (c2 _).mono ?_
  rintro e wc5 ⟨rfl, hb⟩
  replace k2 := Lib.hid (k2.out.below hb)
  replace k3 := Lib.hid (k3.out.below hb)
  replace k5 := Lib.hid (k5.out.below hb)
  replace k6 := Lib.hid (k6.out.below hb)
  replace kW := kW.trans (hb.mono kW.size)
  clear hb
  have l2 := k2.out.lt
  have l3 := k3.out.lt
  have l5 := k5.out.lt
  have l6 := k6.out.lt
  have z8 : Hid (Blk (wc5.alloc (.cells wid0 25)) (wc5.heap.size) 25 wid0) := (Blk.new _ _ _ : Blk (wc5.alloc (.cells wid0 25)) wc5.heap.size 25 wid0)
  have k8 : Hid (Blk ((wc5.alloc (.cells wid0 25)).setRow (wc5.heap.size) (widL P NP)) (wc5.heap.size) 25 (widL P NP)) := (z8.out.row (widL P NP))
  replace k2 := Lib.hid ((k2.out.old (.cells wid0 25)).rowOther (k := wc5.heap.size) (by omega) (widL P NP))
  replace k3 := Lib.hid ((k3.out.old (.cells wid0 25)).rowOther (k := wc5.heap.size) (by omega) (widL P NP))
  replace k5 := Lib.hid ((k5.out.old (.cells wid0 25)).rowOther (k := wc5.heap.size) (by omega) (widL P NP))
  replace k6 := Lib.hid ((k6.out.old (.cells wid0 25)).rowOther (k := wc5.heap.size) (by omega) (widL P NP))
  replace kW := (below_row (kW.alloc (by first | exact kW.size | (simp; have := kW.size; omega)) (.cells wid0 25)) (g := wc5.heap.size) (by have := kW.size; omega) (widL P NP))
  go_wp2_with (first | (refine sta 25 (.tmp 8) (.tmp 45) rfl rfl ?_; refine stb (wc5.heap.size) (widL P NP) 25 _ z8.out rfl rfl info_wide rfl (widF_ones _ (wd NP)) ?_) | (refine lda 25 (.tmp 2) rfl rfl ?_; refine ldb q2 25 _ _ k2.out rfl under_wide rfl info_wide ?_) | (refine lda 25 (.tmp 3) rfl rfl ?_; refine ldb q3 25 _ _ k3.out rfl under_wide rfl info_wide ?_) | (refine lda 25 (.tmp 5) rfl rfl ?_; refine ldb q5 25 _ _ k5.out rfl under_wide rfl info_wide ?_) | (refine lda 25 (.tmp 6) rfl rfl ?_; refine ldb q6 25 _ _ k6.out rfl under_wide rfl info_wide ?_) | (refine lda 25 (.tmp 8) rfl rfl ?_; refine ldb (wc5.heap.size) 25 _ _ k8.out rfl under_wide rfl info_wide ?_) | (refine ldga 25 (.tmp 2) rfl rfl ?_; refine ldgb q2 25 _ _ k2.out rfl under_wide rfl info_wide ?_) | (refine ldga 25 (.tmp 3) rfl rfl ?_; refine ldgb q3 25 _ _ k3.out rfl under_wide rfl info_wide ?_) | (refine ldga 25 (.tmp 5) rfl rfl ?_; refine ldgb q5 25 _ _ k5.out rfl under_wide rfl info_wide ?_) | (refine ldga 25 (.tmp 6) rfl rfl ?_; refine ldgb q6 25 _ _ k6.out rfl under_wide rfl info_wide ?_) | (refine ldga 25 (.tmp 8) rfl rfl ?_; refine ldgb (wc5.heap.size) 25 _ _ k8.out rfl under_wide rfl info_wide ?_))
  clear z8
  generalize wc5.heap.size = q8 at k2 k3 k5 k6 k8 l2 l3 l5 l6 kW ⊢
  generalize World.setRow _ _ _ = wa6 at k2 k3 k5 k6 k8 l2 l3 l5 l6 kW ⊢
  refine (c3 _).mono ?_
  rintro e wc7 ⟨rfl, hb⟩
  replace k2 := Lib.hid (k2.out.below hb)
  replace k3 := Lib.hid (k3.out.below hb)
  replace k5 := Lib.hid (k5.out.below hb)
  replace k6 := Lib.hid (k6.out.below hb)
  replace k8 := Lib.hid (k8.out.below hb)
  replace kW := kW.trans (hb.mono kW.size)
  clear hb
  have l2 := k2.out.lt
  have l3 := k3.out.lt
  have l5 := k5.out.lt
  have l6 := k6.out.lt
  have l8 := k8.out.lt
  have z10 : Hid (Blk (wc7.alloc (.cells wid0 25)) (wc7.heap.size) 25 wid0) := (Blk.new _ _ _ : Blk (wc7.alloc (.cells wid0 25)) wc7.heap.size 25 wid0)
  have k10 : Hid (Blk ((wc7.alloc (.cells wid0 25)).setRow (wc7.heap.size) (widL S NS)) (wc7.heap.size) 25 (widL S NS)) := (z10.out.row (widL S NS))
  replace k2 := Lib.hid ((k2.out.old (.cells wid0 25)).rowOther (k := wc7.heap.size) (by omega) (widL S NS))
  replace k3 := Lib.hid ((k3.out.old (.cells wid0 25)).rowOther (k := wc7.heap.size) (by omega) (widL S NS))
  replace k5 := Lib.hid ((k5.out.old (.cells wid0 25)).rowOther (k := wc7.heap.size) (by omega) (widL S NS))
  replace k6 := Lib.hid ((k6.out.old (.cells wid0 25)).rowOther (k := wc7.heap.size) (by omega) (widL S NS))
  replace k8 := Lib.hid ((k8.out.old (.cells wid0 25)).rowOther (k := wc7.heap.size) (by omega) (widL S NS))
  replace kW := (below_row (kW.alloc (by first | exact kW.size | (simp; have := kW.size; omega)) (.cells wid0 25)) (g := wc7.heap.size) (by have := kW.size; omega) (widL S NS))
  go_wp2_with (first | (refine sta 25 (.tmp 10) (.tmp 51) rfl rfl ?_; refine stb (wc7.heap.size) (widL S NS) 25 _ z10.out rfl rfl info_wide rfl (widF_ones _ (wd NS)) ?_) | (refine lda 25 (.tmp 2) rfl rfl ?_; refine ldb q2 25 _ _ k2.out rfl under_wide rfl info_wide ?_) | (refine lda 25 (.tmp 3) rfl rfl ?_; refine ldb q3 25 _ _ k3.out rfl under_wide rfl info_wide ?_) | (refine lda 25 (.tmp 5) rfl rfl ?_; refine ldb q5 25 _ _ k5.out rfl under_wide rfl info_wide ?_) | (refine lda 25 (.tmp 6) rfl rfl ?_; refine ldb q6 25 _ _ k6.out rfl under_wide rfl info_wide ?_) | (refine lda 25 (.tmp 8) rfl rfl ?_; refine ldb q8 25 _ _ k8.out rfl under_wide rfl info_wide ?_) | (refine lda 25 (.tmp 10) rfl rfl ?_; refine ldb (wc7.heap.size) 25 _ _ k10.out rfl under_wide rfl info_wide ?_) | (refine ldga 25 (.tmp 2) rfl rfl ?_; refine ldgb q2 25 _ _ k2.out rfl under_wide rfl info_wide ?_) | (refine ldga 25 (.tmp 3) rfl rfl ?_; refine ldgb q3 25 _ _ k3.out rfl under_wide rfl info_wide ?_) | (refine ldga 25 (.tmp 5) rfl rfl ?_; refine ldgb q5 25 _ _ k5.out rfl under_wide rfl info_wide ?_) | (refine ldga 25 (.tmp 6) rfl rfl ?_; refine ldgb q6 25 _ _ k6.out rfl under_wide rfl info_wide ?_) | (refine ldga 25 (.tmp 8) rfl rfl ?_; refine ldgb q8 25 _ _ k8.out rfl under_wide rfl info_wide ?_) | (refine ldga 25 (.tmp 10) rfl rfl ?_; refine ldgb (wc7.heap.size) 25 _ _ k10.out rfl under_wide rfl info_wide ?_))
  clear z10
  generalize wc7.heap.size = q10 at k2 k3 k5 k6 k8 k10 l2 l3 l5 l6 l8 kW ⊢
  generalize World.setRow _ _ _ = wa8 at k2 k3 k5 k6 k8 k10 l2 l3 l5 l6 l8 kW ⊢
  have hG : Keep [(q2, 25, (widL s0 n0)), (q3, 25, (widL false n1)), (q5, 25, (widL Sq Nq)), (q6, 25, (widL Sr Nr)), (q8, 25, (widL P NP)), (q10, 25, (widL S NS))] q2 25 (widL s0 n0) (widL s0 n0) w wa8.drew := by
    refine ⟨?_, .inl k2.out.drew, kW.drew⟩
    intro k hk
    simp only [List.mem_cons, List.mem_nil_iff, or_false] at hk
    rcases hk with rfl | rfl | rfl | rfl | rfl | rfl
    · exact k2.out.drew
    · exact k3.out.drew
    · exact k5.out.drew
    · exact k6.out.drew
    · exact k8.out.drew
    · exact k10.out.drew
  clear k2 k3 k5 k6 k8 k10 kW
  refine region_kit (ds := [some 53, some 54, some 12, some 13, none]) [((fun k => decide (q10 + 1 ≤ k)), 25, (widL false 0))] [[], [], [], [], [0, 2]] (fun i => i == 2 || i == 3) [.is _ 0 (.agg (widL false 0)), .is _ 1 (.agg (widL false n1)), .ptr2 _ 2 (q10 + 1) 25 wid0 (widL false 0) (by intro r hr k hk hx; simp only [List.mem_cons, List.mem_nil_iff, or_false] at hr; rcases hr with rfl <;> simp at hx ⊢ <;> omega), .ptr2 _ 3 (q10 + 1) 25 wid0 (widL false 0) (by intro r hr k hk hx; simp only [List.mem_cons, List.mem_nil_iff, or_false] at hr; rcases hr with rfl <;> simp at hx ⊢ <;> omega), .own _ 2 (q10 + 1) 25 (widL false 0) (by intro r hr k hk hx; simp only [List.mem_cons, List.mem_nil_iff, or_false] at hr; rcases hr with rfl <;> simp at hx ⊢ <;> omega)] (Keep [(q2, 25, (widL s0 n0)), (q3, 25, (widL false n1)), (q5, 25, (widL Sq Nq)), (q6, 25, (widL Sr Nr)), (q8, 25, (widL P NP)), (q10, 25, (widL S NS))] (q2) 25 (widL s0 n0) (widL s0 n0) w) follows_mixed (by kernel_rfl) (by kernel_rfl) (by kernel_rfl) (fun _ _ h he => h.ext he (by intro r hr k hk; simp only [List.mem_cons, List.mem_nil_iff, or_false] at hr hk; rcases hr with rfl <;> rcases hk with rfl | rfl | rfl | rfl | rfl | rfl <;> simp <;> omega) (by intro r hr hx; simp only [List.mem_cons, List.mem_nil_iff, or_false] at hr; rcases hr with rfl <;> simp at hx ⊢ <;> omega) (by intro r hr k hk; simp only [List.mem_cons, List.mem_nil_iff, or_false] at hr; rcases hr with rfl <;> simp <;> omega)) hG ?_ ?_
  · refine steps_cons ?_ (steps_cons ?_ (steps_cons ?_ (steps_cons ?_ (steps_cons ?_ (steps_nil)))))
    · exact fun xs wx hG hF => step_call1 15 (.const (.int .i64 (0))) #[3] (.int .i64 (0)) rfl rfl (by kernel_rfl) (of0 wx) (fun e w' h => ⟨_, h.1, rfl, h.2⟩)
    · exact fun xs wx hG _ => step_row 25 (.tmp 3) rfl (q3) (eval_old (by decide)) 25 (widL false n1) _ (hG.rows _ (List.mem_cons_of_mem _ (List.mem_cons_self ..))) under_wide rfl info_wide rfl
    · exact fun xs wx hG _ => step_alloc (.cells wid0 25) (by go_simp) ⟨_, (by have := Blk.lt (hG.rows _ (List.mem_cons_of_mem _ (List.mem_cons_of_mem _ (List.mem_cons_of_mem _ (List.mem_cons_of_mem _ (List.mem_cons_of_mem _ (List.mem_cons_self ..))))))); omega), rfl, .inl (Blk.new _ _ _)⟩
    · exact fun xs wx hG _ => step_alloc (.cells wid0 25) (by go_simp) ⟨_, (by have := Blk.lt (hG.rows _ (List.mem_cons_of_mem _ (List.mem_cons_of_mem _ (List.mem_cons_of_mem _ (List.mem_cons_of_mem _ (List.mem_cons_of_mem _ (List.mem_cons_self ..))))))); omega), rfl, .inl (Blk.new _ _ _)⟩
    · intro xs wx hG hF
      obtain ⟨g, hg, hx, hr | hr⟩ := hF.2.1
      · exact step_store 25 (.tmp 12) (.tmp 53) rfl g (widL false 0) ((eval_new (i := 2) (by decide) rfl (by simp)).trans hx) ((eval_new (i := 0) (by decide) rfl (by simp)).trans hF.1) _ _ hr info_wide rfl (widF_ones _ (wd 0)) ⟨_, (List.mem_cons_self ..), by simp <;> omega, rfl, rfl⟩ ⟨g, hg, hx, Blk.row hr _⟩
      · exact step_store 25 (.tmp 12) (.tmp 53) rfl g (widL false 0) ((eval_new (i := 2) (by decide) rfl (by simp)).trans hx) ((eval_new (i := 0) (by decide) rfl (by simp)).trans hF.1) _ _ hr info_wide rfl (widF_ones _ (wd 0)) ⟨_, (List.mem_cons_self ..), by simp <;> omega, rfl, rfl⟩ ⟨g, hg, hx, Blk.row hr _⟩
  intro xs wx hG hA hF
  obtain ⟨f0, f1, f2, f3, f4, _⟩ := hF
  have f0 : xs 0 = (.agg (widL false 0)) := f0
  have f1 : xs 1 = (.agg (widL false n1)) := f1
  obtain ⟨g2, l2, x2, r2⟩ := f2
  obtain ⟨g3, l3, x3, r3⟩ := f3
  obtain ⟨g4, l4, x4, r4⟩ := f4
  simp only [fillIn, Act.put, List.setIfInBounds_toArray, List.set_cons_zero, List.set_cons_succ, f0, f1, x2, x3, List.drop_succ_cons, List.drop_zero, List.length_cons, List.length_nil]
  have hne := hA 2 3 (by decide) (by decide) rfl rfl (by decide)
  rw [x2, x3] at hne
  have hq : g2 ≠ g3 := fun e => hne (by rw [e])
  have e2 : g2 = g4 := by
    have := x2.symm.trans x4
    simp at this
    exact this
  subst e2
  obtain ⟨kk, _, kW⟩ := hG
  have k2 : Hid (Blk wx q2 25 (widL s0 n0)) := kk _ (List.mem_cons_self ..)
  have k3 : Hid (Blk wx q3 25 (widL false n1)) := kk _ (List.mem_cons_of_mem _ (List.mem_cons_self ..))
  have k5 : Hid (Blk wx q5 25 (widL Sq Nq)) := kk _ (List.mem_cons_of_mem _ (List.mem_cons_of_mem _ (List.mem_cons_self ..)))
  have k6 : Hid (Blk wx q6 25 (widL Sr Nr)) := kk _ (List.mem_cons_of_mem _ (List.mem_cons_of_mem _ (List.mem_cons_of_mem _ (List.mem_cons_self ..))))
  have k8 : Hid (Blk wx q8 25 (widL P NP)) := kk _ (List.mem_cons_of_mem _ (List.mem_cons_of_mem _ (List.mem_cons_of_mem _ (List.mem_cons_of_mem _ (List.mem_cons_self ..)))))
  have k10 : Hid (Blk wx q10 25 (widL S NS)) := kk _ (List.mem_cons_of_mem _ (List.mem_cons_of_mem _ (List.mem_cons_of_mem _ (List.mem_cons_of_mem _ (List.mem_cons_of_mem _ (List.mem_cons_self ..))))))
  have k12 : Hid (Blk wx g2 25 (widL false 0)) := r4
  have z13 : Hid (Blk wx g3 25 (widL false 0)) := r3.elim (fun h => Blk.of_eq h widL0) id
  clear kk hne hA r2 r3 r4 x2 x3 x4 f0 f1
  generalize g2 = q12 at *
  generalize g3 = q13 at *
  refine wpList_store_row rfl 25 (.tmp 13) (.tmp 54) rfl q13 (widL false n1) rfl rfl 25 _ z13.out info_wide rfl (widF_ones _ (wd n1)) ?_
  replace k2 := Lib.hid (k2.out.rowOther (k := q13) (by omega) (widL false n1))
  replace k3 := Lib.hid (k3.out.rowOther (k := q13) (by omega) (widL false n1))
  replace k5 := Lib.hid (k5.out.rowOther (k := q13) (by omega) (widL false n1))
  replace k6 := Lib.hid (k6.out.rowOther (k := q13) (by omega) (widL false n1))
  replace k8 := Lib.hid (k8.out.rowOther (k := q13) (by omega) (widL false n1))
  replace k10 := Lib.hid (k10.out.rowOther (k := q13) (by omega) (widL false n1))
  replace k12 := Lib.hid (k12.out.rowOther (k := q13) (by omega) (widL false n1))
  replace k13 := Lib.hid (z13.out.row (widL false n1))
  replace kW := (below_row kW (g := q13) (by omega) (widL false n1))
  generalize World.setRow _ _ _ = wa9 at k2 k3 k5 k6 k8 k10 k12 k13 kW ⊢
  have c0 := (wide_cells k3.out).1
  go_wp2_with (first | (refine lda 25 (.tmp 2) rfl rfl ?_; refine ldb q2 25 _ _ k2.out rfl under_wide rfl info_wide ?_) | (refine lda 25 (.tmp 3) rfl rfl ?_; refine ldb q3 25 _ _ k3.out rfl under_wide rfl info_wide ?_) | (refine lda 25 (.tmp 5) rfl rfl ?_; refine ldb q5 25 _ _ k5.out rfl under_wide rfl info_wide ?_) | (refine lda 25 (.tmp 6) rfl rfl ?_; refine ldb q6 25 _ _ k6.out rfl under_wide rfl info_wide ?_) | (refine lda 25 (.tmp 8) rfl rfl ?_; refine ldb q8 25 _ _ k8.out rfl under_wide rfl info_wide ?_) | (refine lda 25 (.tmp 10) rfl rfl ?_; refine ldb q10 25 _ _ k10.out rfl under_wide rfl info_wide ?_) | (refine lda 25 (.tmp 12) rfl rfl ?_; refine ldb q12 25 _ _ k12.out rfl under_wide rfl info_wide ?_) | (refine lda 25 (.tmp 13) rfl rfl ?_; refine ldb q13 25 _ _ k13.out rfl under_wide rfl info_wide ?_) | (refine ldga 25 (.tmp 2) rfl rfl ?_; refine ldgb q2 25 _ _ k2.out rfl under_wide rfl info_wide ?_) | (refine ldga 25 (.tmp 3) rfl rfl ?_; refine ldgb q3 25 _ _ k3.out rfl under_wide rfl info_wide ?_) | (refine ldga 25 (.tmp 5) rfl rfl ?_; refine ldgb q5 25 _ _ k5.out rfl under_wide rfl info_wide ?_) | (refine ldga 25 (.tmp 6) rfl rfl ?_; refine ldgb q6 25 _ _ k6.out rfl under_wide rfl info_wide ?_) | (refine ldga 25 (.tmp 8) rfl rfl ?_; refine ldgb q8 25 _ _ k8.out rfl under_wide rfl info_wide ?_) | (refine ldga 25 (.tmp 10) rfl rfl ?_; refine ldgb q10 25 _ _ k10.out rfl under_wide rfl info_wide ?_) | (refine ldga 25 (.tmp 12) rfl rfl ?_; refine ldgb q12 25 _ _ k12.out rfl under_wide rfl info_wide ?_) | (refine ldga 25 (.tmp 13) rfl rfl ?_; refine ldgb q13 25 _ _ k13.out rfl under_wide rfl info_wide ?_))
  refine (cc1 _).mono ?_
  rintro e wc10 ⟨rfl, hb⟩
  replace k2 := Lib.hid (k2.out.below hb)
  replace k3 := Lib.hid (k3.out.below hb)
  replace k5 := Lib.hid (k5.out.below hb)
  replace k6 := Lib.hid (k6.out.below hb)
  replace k8 := Lib.hid (k8.out.below hb)
  replace k10 := Lib.hid (k10.out.below hb)
  replace k12 := Lib.hid (k12.out.below hb)
  replace k13 := Lib.hid (k13.out.below hb)
  replace kW := kW.trans (hb.mono kW.size)
  clear hb
  go_wp2_with (first | (refine lda 25 (.tmp 2) rfl rfl ?_; refine ldb q2 25 _ _ k2.out rfl under_wide rfl info_wide ?_) | (refine lda 25 (.tmp 3) rfl rfl ?_; refine ldb q3 25 _ _ k3.out rfl under_wide rfl info_wide ?_) | (refine lda 25 (.tmp 5) rfl rfl ?_; refine ldb q5 25 _ _ k5.out rfl under_wide rfl info_wide ?_) | (refine lda 25 (.tmp 6) rfl rfl ?_; refine ldb q6 25 _ _ k6.out rfl under_wide rfl info_wide ?_) | (refine lda 25 (.tmp 8) rfl rfl ?_; refine ldb q8 25 _ _ k8.out rfl under_wide rfl info_wide ?_) | (refine lda 25 (.tmp 10) rfl rfl ?_; refine ldb q10 25 _ _ k10.out rfl under_wide rfl info_wide ?_) | (refine lda 25 (.tmp 12) rfl rfl ?_; refine ldb q12 25 _ _ k12.out rfl under_wide rfl info_wide ?_) | (refine lda 25 (.tmp 13) rfl rfl ?_; refine ldb q13 25 _ _ k13.out rfl under_wide rfl info_wide ?_) | (refine ldga 25 (.tmp 2) rfl rfl ?_; refine ldgb q2 25 _ _ k2.out rfl under_wide rfl info_wide ?_) | (refine ldga 25 (.tmp 3) rfl rfl ?_; refine ldgb q3 25 _ _ k3.out rfl under_wide rfl info_wide ?_) | (refine ldga 25 (.tmp 5) rfl rfl ?_; refine ldgb q5 25 _ _ k5.out rfl under_wide rfl info_wide ?_) | (refine ldga 25 (.tmp 6) rfl rfl ?_; refine ldgb q6 25 _ _ k6.out rfl under_wide rfl info_wide ?_) | (refine ldga 25 (.tmp 8) rfl rfl ?_; refine ldgb q8 25 _ _ k8.out rfl under_wide rfl info_wide ?_) | (refine ldga 25 (.tmp 10) rfl rfl ?_; refine ldgb q10 25 _ _ k10.out rfl under_wide rfl info_wide ?_) | (refine ldga 25 (.tmp 12) rfl rfl ?_; refine ldgb q12 25 _ _ k12.out rfl under_wide rfl info_wide ?_) | (refine ldga 25 (.tmp 13) rfl rfl ?_; refine ldgb q13 25 _ _ k13.out rfl under_wide rfl info_wide ?_))
  refine (cc2 _).mono ?_
  rintro e wc11 ⟨rfl, hb⟩
  replace k2 := Lib.hid (k2.out.below hb)
  replace k3 := Lib.hid (k3.out.below hb)
  replace k5 := Lib.hid (k5.out.below hb)
  replace k6 := Lib.hid (k6.out.below hb)
  replace k8 := Lib.hid (k8.out.below hb)
  replace k10 := Lib.hid (k10.out.below hb)
  replace k12 := Lib.hid (k12.out.below hb)
  replace k13 := Lib.hid (k13.out.below hb)
  replace kW := kW.trans (hb.mono kW.size)
  clear hb
  have c0 := (wide_cells k3.out).1
  go_wp2_with (first | (refine lda 25 (.tmp 2) rfl rfl ?_; refine ldb q2 25 _ _ k2.out rfl under_wide rfl info_wide ?_) | (refine lda 25 (.tmp 3) rfl rfl ?_; refine ldb q3 25 _ _ k3.out rfl under_wide rfl info_wide ?_) | (refine lda 25 (.tmp 5) rfl rfl ?_; refine ldb q5 25 _ _ k5.out rfl under_wide rfl info_wide ?_) | (refine lda 25 (.tmp 6) rfl rfl ?_; refine ldb q6 25 _ _ k6.out rfl under_wide rfl info_wide ?_) | (refine lda 25 (.tmp 8) rfl rfl ?_; refine ldb q8 25 _ _ k8.out rfl under_wide rfl info_wide ?_) | (refine lda 25 (.tmp 10) rfl rfl ?_; refine ldb q10 25 _ _ k10.out rfl under_wide rfl info_wide ?_) | (refine lda 25 (.tmp 12) rfl rfl ?_; refine ldb q12 25 _ _ k12.out rfl under_wide rfl info_wide ?_) | (refine lda 25 (.tmp 13) rfl rfl ?_; refine ldb q13 25 _ _ k13.out rfl under_wide rfl info_wide ?_) | (refine ldga 25 (.tmp 2) rfl rfl ?_; refine ldgb q2 25 _ _ k2.out rfl under_wide rfl info_wide ?_) | (refine ldga 25 (.tmp 3) rfl rfl ?_; refine ldgb q3 25 _ _ k3.out rfl under_wide rfl info_wide ?_) | (refine ldga 25 (.tmp 5) rfl rfl ?_; refine ldgb q5 25 _ _ k5.out rfl under_wide rfl info_wide ?_) | (refine ldga 25 (.tmp 6) rfl rfl ?_; refine ldgb q6 25 _ _ k6.out rfl under_wide rfl info_wide ?_) | (refine ldga 25 (.tmp 8) rfl rfl ?_; refine ldgb q8 25 _ _ k8.out rfl under_wide rfl info_wide ?_) | (refine ldga 25 (.tmp 10) rfl rfl ?_; refine ldgb q10 25 _ _ k10.out rfl under_wide rfl info_wide ?_) | (refine ldga 25 (.tmp 12) rfl rfl ?_; refine ldgb q12 25 _ _ k12.out rfl under_wide rfl info_wide ?_) | (refine ldga 25 (.tmp 13) rfl rfl ?_; refine ldgb q13 25 _ _ k13.out rfl under_wide rfl info_wide ?_))
  refine (awake_any _).mono ?_
  rintro e wc12 ⟨rfl, hb⟩
  replace k2 := Lib.hid (k2.out.below hb)
  replace k3 := Lib.hid (k3.out.below hb)
  replace k5 := Lib.hid (k5.out.below hb)
  replace k6 := Lib.hid (k6.out.below hb)
  replace k8 := Lib.hid (k8.out.below hb)
  replace k10 := Lib.hid (k10.out.below hb)
  replace k12 := Lib.hid (k12.out.below hb)
  replace k13 := Lib.hid (k13.out.below hb)
  replace kW := kW.trans (hb.mono kW.size)
  clear hb
  go_wp2_with fail
  go_ret
  exact ⟨rfl, kW⟩
set_option maxRecDepth 100000 in
set_option maxHeartbeats 16000000 in
theorem div_true_fits (s0 : Bool) (n0 n1 : Nat) (q r : Int) (w : World) (w0 : n0 < M256) (w1 : n1 < M256) (h0 : n1 ≠ 0) (hdv : DivV s0 n0 true n1 = .tuple #[.agg (widL (cS q) (cN q)), .agg (widL (cS r) (cN r)), .int .i64 0])
    (hid : wv s0 n0 = q * wv true n1 + r) (lq : cN q < M256) (lr : cN r < M256) (hb : -(n1 : Int) < r ∧ r ≤ 0) (hov : (q * wv true n1).natAbs < M256) :
    Calls Try.prog 9 #[.agg (widL s0 n0), .agg (widL true n1)] w (Gives (.bool true) w) := by
  have c1 : ∀ w, Calls Try.prog 30 #[.agg (widL s0 n0), .agg (widL true n1)] w (Gives (.tuple #[.agg (widL (cS q) (cN q)), .agg (widL (cS r) (cN r)), .int .i64 0]) w) := by
    intro w
    have h := pdiv_wide s0 true n0 n1 w w0 w1
    rw [hdv] at h
    exact h
  have cpl := fun w => plain_any true n1 w w1
  have ez := fun wx => eq_zero_ne (sg true n1) n1 w1 h0 wx
  have cpa := fun w => plain_any s0 n0 w w0
  have wq := wv_c q
  have wr := wv_c r
  obtain ⟨P, NP, EP, hp⟩ := res_ex (wv (cS q) (cN q) * wv true n1)
  have c2 := fun w => mul_res (cS q) true (cN q) n1 lq w1 hp w
  obtain ⟨S, NS, ES, hs⟩ := res_ex (wv P NP + wv (cS r) (cN r))
  have c3 := fun w => add_res P (cS r) NP (cN r) hp.lt lr hs w
  have cm1 := cmpW_int (cS r) false (cN r) 0
  have cm2 := cmpW_int (cS r) true (cN r) n1
  have cc1 := fun w => pcmp_wide (cS r) false (cN r) 0 w lr m_pos
  have cc2 := fun w => pcmp_wide (cS r) true (cN r) n1 w lr w1
  generalize cmpW (cS r) (cN r) false 0 = x1 at *
  generalize cmpW (cS r) (cN r) true n1 = x2 at *
  rw [wr] at cm1 cm2 hs
  rw [wq] at hp
  have z00 : wv false 0 = 0 := rfl
  have z01 : wv true n1 = -(n1 : Int) := rfl
  have hx1 : x1 ≤ 0 := by rcases cm1 with ⟨a, b⟩ | ⟨a, b⟩ | ⟨a, b⟩ <;> omega
  have hx3 : 0 ≤ x2 := by rcases cm2 with ⟨a, b⟩ | ⟨a, b⟩ | ⟨a, b⟩ <;> omega
  have hx2 : 0 < x2 := by rcases cm2 with ⟨a, b⟩ | ⟨a, b⟩ | ⟨a, b⟩ <;> omega
  obtain ⟨hP1, hwP⟩ : EP = 0 ∧ wv P NP = q * wv true n1 := by
    rcases hp.cases with ⟨h, _, _, _, h2⟩ | ⟨_, h⟩
    · exact ⟨h, h2⟩
    · omega
  subst hP1
  obtain ⟨k1, k2, k3⟩ := hs.of (s := s0) (n := n0) (by rw [hwP, hid]) w0
  rw [k1, k2, k3] at c3
  clear k1 k2 k3
  have e5 := fun wx => eq_self (sg s0 n0) n0 w0 wx
  generalize sg s0 n0 = sx at *
  clear hdv hov hid wq wr hp hs cm1 cm2 z00 z01 hb w0 w1 lq lr h0 hwP
  generalize cS q = Sq at *
  generalize cN q = Nq at *
  generalize cS r = Sr at *
  generalize cN r = Nr at *
  generalize sg true n1 = sy at *
  clear q r
  go_enter Try.func9, Try.ntmps9
  go_upto_region 1 with fail
  have k2 : Hid (Blk ((w.alloc (.cells (widL s0 n0) 25)).alloc (.cells (widL true n1) 25)) (w.heap.size) 25 (widL s0 n0)) := (Blk.new _ _ _).old _
  have k3 : Hid (Blk ((w.alloc (.cells (widL s0 n0) 25)).alloc (.cells (widL true n1) 25)) (w.heap.size + 1) 25 (widL true n1)) := Blk.newAt (by simp) _ _
  have kW : Below w.heap.size w ((w.alloc (.cells (widL s0 n0) 25)).alloc (.cells (widL true n1) 25)) := (((Below.refl _ _).alloc (by simp) _).alloc (by simp <;> omega) _)
  obtain ⟨q2, hg2⟩ : ∃ g, g = w.heap.size := ⟨_, rfl⟩
  obtain ⟨q3, hg3⟩ : ∃ g, g = w.heap.size + 1 := ⟨_, rfl⟩
  rw [← hg3] at k3 ⊢
  rw [← hg2] at k2 ⊢
  have hlow : w.heap.size ≤ q2 := by omega
  have o3 : q2 < q3 := by omega
  clear hg2 hg3
  generalize World.alloc _ _ = wa1 at k2 k3 kW ⊢
  go_wp2_with (first | (refine lda 25 (.tmp 2) rfl rfl ?_; refine ldb q2 25 _ _ k2.out rfl under_wide rfl info_wide ?_) | (refine lda 25 (.tmp 3) rfl rfl ?_; refine ldb q3 25 _ _ k3.out rfl under_wide rfl info_wide ?_) | (refine ldga 25 (.tmp 2) rfl rfl ?_; refine ldgb q2 25 _ _ k2.out rfl under_wide rfl info_wide ?_) | (refine ldga 25 (.tmp 3) rfl rfl ?_; refine ldgb q3 25 _ _ k3.out rfl under_wide rfl info_wide ?_))
  refine (c1 _).mono ?_
  rintro e wc2 ⟨rfl, hb⟩
  replace k2 := Lib.hid (k2.out.below hb)
  replace k3 := Lib.hid (k3.out.below hb)
  replace kW := kW.trans (hb.mono kW.size)
  clear hb
  have l2 := k2.out.lt
  have l3 := k3.out.lt
  have z5 : Hid (Blk ((wc2.alloc (.cells wid0 25)).alloc (.cells wid0 25)) (wc2.heap.size) 25 wid0) := ((Blk.new _ _ _ : Blk (wc2.alloc (.cells wid0 25)) wc2.heap.size 25 wid0).old _)
  have z6 : Hid (Blk (((wc2.alloc (.cells wid0 25)).alloc (.cells wid0 25)).setRow (wc2.heap.size) (widL Sq Nq)) (wc2.heap.size + 1) 25 wid0) := ((Blk.newAt (by simp) _ _).rowOther (k := wc2.heap.size) (by omega) (widL Sq Nq))
  have k5 : Hid (Blk ((((wc2.alloc (.cells wid0 25)).alloc (.cells wid0 25)).setRow (wc2.heap.size) (widL Sq Nq)).setRow (wc2.heap.size + 1) (widL Sr Nr)) (wc2.heap.size) 25 (widL Sq Nq)) := ((z5.out.row (widL Sq Nq)).rowOther (k := wc2.heap.size + 1) (by omega) (widL Sr Nr))
  have k6 : Hid (Blk ((((wc2.alloc (.cells wid0 25)).alloc (.cells wid0 25)).setRow (wc2.heap.size) (widL Sq Nq)).setRow (wc2.heap.size + 1) (widL Sr Nr)) (wc2.heap.size + 1) 25 (widL Sr Nr)) := (z6.out.row (widL Sr Nr))
  replace k2 := Lib.hid ((((k2.out.old (.cells wid0 25)).old (.cells wid0 25)).rowOther (k := wc2.heap.size) (by omega) (widL Sq Nq)).rowOther (k := wc2.heap.size + 1) (by omega) (widL Sr Nr))
  replace k3 := Lib.hid ((((k3.out.old (.cells wid0 25)).old (.cells wid0 25)).rowOther (k := wc2.heap.size) (by omega) (widL Sq Nq)).rowOther (k := wc2.heap.size + 1) (by omega) (widL Sr Nr))
  replace kW := (below_row (below_row ((kW.alloc (by first | exact kW.size | (simp; have := kW.size; omega)) (.cells wid0 25)).alloc (by first | exact kW.size | (simp; have := kW.size; omega)) (.cells wid0 25)) (g := wc2.heap.size) (by have := kW.size; omega) (widL Sq Nq)) (g := wc2.heap.size + 1) (by have := kW.size; omega) (widL Sr Nr))
  go_wp2_with (first | (refine sta 25 (.tmp 5) (.tmp 19) rfl rfl ?_; refine stb (wc2.heap.size) (widL Sq Nq) 25 _ z5.out rfl rfl info_wide rfl (widF_ones _ (wd Nq)) ?_) | (refine sta 25 (.tmp 6) (.tmp 20) rfl rfl ?_; refine stb (wc2.heap.size + 1) (widL Sr Nr) 25 _ z6.out rfl rfl info_wide rfl (widF_ones _ (wd Nr)) ?_) | (refine lda 25 (.tmp 2) rfl rfl ?_; refine ldb q2 25 _ _ k2.out rfl under_wide rfl info_wide ?_) | (refine lda 25 (.tmp 3) rfl rfl ?_; refine ldb q3 25 _ _ k3.out rfl under_wide rfl info_wide ?_) | (refine lda 25 (.tmp 5) rfl rfl ?_; refine ldb (wc2.heap.size) 25 _ _ k5.out rfl under_wide rfl info_wide ?_) | (refine lda 25 (.tmp 6) rfl rfl ?_; refine ldb (wc2.heap.size + 1) 25 _ _ k6.out rfl under_wide rfl info_wide ?_) | (refine ldga 25 (.tmp 2) rfl rfl ?_; refine ldgb q2 25 _ _ k2.out rfl under_wide rfl info_wide ?_) | (refine ldga 25 (.tmp 3) rfl rfl ?_; refine ldgb q3 25 _ _ k3.out rfl under_wide rfl info_wide ?_) | (refine ldga 25 (.tmp 5) rfl rfl ?_; refine ldgb (wc2.heap.size) 25 _ _ k5.out rfl under_wide rfl info_wide ?_) | (refine ldga 25 (.tmp 6) rfl rfl ?_; refine ldgb (wc2.heap.size + 1) 25 _ _ k6.out rfl under_wide rfl info_wide ?_))
  clear z5 z6
  have o6 : wc2.heap.size < wc2.heap.size + 1 := by omega
  generalize wc2.heap.size + 1 = q6 at k2 k3 k5 k6 l2 l3 o6 kW ⊢
  generalize wc2.heap.size = q5 at k2 k3 k5 k6 l2 l3 o6 kW ⊢
  generalize World.setRow _ _ _ = wa3 at k2 k3 k5 k6 l2 l3 o6 kW ⊢
  refine (cpl _).mono ?_
  rintro e wc4 ⟨rfl, hb⟩
  replace k2 := Lib.hid (k2.out.below hb)
  replace k3 := Lib.hid (k3.out.below hb)
  replace k5 := Lib.hid (k5.out.below hb)
  replace k6 := Lib.hid (k6.out.below hb)
  replace kW := kW.trans (hb.mono kW.size)
  clear hb
  go_wp2_with (first | (refine lda 25 (.tmp 2) rfl rfl ?_; refine ldb q2 25 _ _ k2.out rfl under_wide rfl info_wide ?_) | (refine lda 25 (.tmp 3) rfl rfl ?_; refine ldb q3 25 _ _ k3.out rfl under_wide rfl info_wide ?_) | (refine lda 25 (.tmp 5) rfl rfl ?_; refine ldb q5 25 _ _ k5.out rfl under_wide rfl info_wide ?_) | (refine lda 25 (.tmp 6) rfl rfl ?_; refine ldb q6 25 _ _ k6.out rfl under_wide rfl info_wide ?_) | (refine ldga 25 (.tmp 2) rfl rfl ?_; refine ldgb q2 25 _ _ k2.out rfl under_wide rfl info_wide ?_) | (refine ldga 25 (.tmp 3) rfl rfl ?_; refine ldgb q3 25 _ _ k3.out rfl under_wide rfl info_wide ?_) | (refine ldga 25 (.tmp 5) rfl rfl ?_; refine ldgb q5 25 _ _ k5.out rfl under_wide rfl info_wide ?_) | (refine ldga 25 (.tmp 6) rfl rfl ?_; refine ldgb q6 25 _ _ k6.out rfl under_wide rfl info_wide ?_))
  refine (c2 _).mono ?_
  rintro e wc5 ⟨rfl, hb⟩
  replace k2 := Lib.hid (k2.out.below hb)
  replace k3 := Lib.hid (k3.out.below hb)
  replace k5 := Lib.hid (k5.out.below hb)
  replace k6 := Lib.hid (k6.out.below hb)
  replace kW := kW.trans (hb.mono kW.size)
  clear hb
  have l2 := k2.out.lt
  have l3 := k3.out.lt
  have l5 := k5.out.lt
  have l6 := k6.out.lt
  have z8 : Hid (Blk (wc5.alloc (.cells wid0 25)) (wc5.heap.size) 25 wid0) := (Blk.new _ _ _ : Blk (wc5.alloc (.cells wid0 25)) wc5.heap.size 25 wid0)
  have k8 : Hid (Blk ((wc5.alloc (.cells wid0 25)).setRow (wc5.heap.size) (widL P NP)) (wc5.heap.size) 25 (widL P NP)) := (z8.out.row (widL P NP))
  replace k2 := Lib.hid ((k2.out.old (.cells wid0 25)).rowOther (k := wc5.heap.size) (by omega) (widL P NP))
  replace k3 := Lib.hid ((k3.out.old (.cells wid0 25)).rowOther (k := wc5.heap.size) (by omega) (widL P NP))
  replace k5 := Lib.hid ((k5.out.old (.cells wid0 25)).rowOther (k := wc5.heap.size) (by omega) (widL P NP))
  replace k6 := Lib.hid ((k6.out.old (.cells wid0 25)).rowOther (k := wc5.heap.size) (by omega) (widL P NP))
  replace kW := (below_row (kW.alloc (by first | exact kW.size | (simp; have := kW.size; omega)) (.cells wid0 25)) (g := wc5.heap.size) (by have := kW.size; omega) (widL P NP))
  go_wp2_with (first | (refine sta 25 (.tmp 8) (.tmp 45) rfl rfl ?_; refine stb (wc5.heap.size) (widL P NP) 25 _ z8.out rfl rfl info_wide rfl (widF_ones _ (wd NP)) ?_) | (refine lda 25 (.tmp 2) rfl rfl ?_; refine ldb q2 25 _ _ k2.out rfl under_wide rfl info_wide ?_) | (refine lda 25 (.tmp 3) rfl rfl ?_; refine ldb q3 25 _ _ k3.out rfl under_wide rfl info_wide ?_) | (refine lda 25 (.tmp 5) rfl rfl ?_; refine ldb q5 25 _ _ k5.out rfl under_wide rfl info_wide ?_) | (refine lda 25 (.tmp 6) rfl rfl ?_; refine ldb q6 25 _ _ k6.out rfl under_wide rfl info_wide ?_) | (refine lda 25 (.tmp 8) rfl rfl ?_; refine ldb (wc5.heap.size) 25 _ _ k8.out rfl under_wide rfl info_wide ?_) | (refine ldga 25 (.tmp 2) rfl rfl ?_; refine ldgb q2 25 _ _ k2.out rfl under_wide rfl info_wide ?_) | (refine ldga 25 (.tmp 3) rfl rfl ?_; refine ldgb q3 25 _ _ k3.out rfl under_wide rfl info_wide ?_) | (refine ldga 25 (.tmp 5) rfl rfl ?_; refine ldgb q5 25 _ _ k5.out rfl under_wide rfl info_wide ?_) | (refine ldga 25 (.tmp 6) rfl rfl ?_; refine ldgb q6 25 _ _ k6.out rfl under_wide rfl info_wide ?_) | (refine ldga 25 (.tmp 8) rfl rfl ?_; refine ldgb (wc5.heap.size) 25 _ _ k8.out rfl under_wide rfl info_wide ?_))
  clear z8
  generalize wc5.heap.size = q8 at k2 k3 k5 k6 k8 l2 l3 l5 l6 kW ⊢
  generalize World.setRow _ _ _ = wa6 at k2 k3 k5 k6 k8 l2 l3 l5 l6 kW ⊢
  refine (c3 _).mono ?_
  rintro e wc7 ⟨rfl, hb⟩
  replace k2 := Lib.hid (k2.out.below hb)
  replace k3 := Lib.hid (k3.out.below hb)
  replace k5 := Lib.hid (k5.out.below hb)
  replace k6 := Lib.hid (k6.out.below hb)
  replace k8 := Lib.hid (k8.out.below hb)
  replace kW := kW.trans (hb.mono kW.size)
  clear hb
  have l2 := k2.out.lt
  have l3 := k3.out.lt
  have l5 := k5.out.lt
  have l6 := k6.out.lt
  have l8 := k8.out.lt
  have z10 : Hid (Blk (wc7.alloc (.cells wid0 25)) (wc7.heap.size) 25 wid0) := (Blk.new _ _ _ : Blk (wc7.alloc (.cells wid0 25)) wc7.heap.size 25 wid0)
  have k10 : Hid (Blk ((wc7.alloc (.cells wid0 25)).setRow (wc7.heap.size) (widL sx n0)) (wc7.heap.size) 25 (widL sx n0)) := (z10.out.row (widL sx n0))
  replace k2 := Lib.hid ((k2.out.old (.cells wid0 25)).rowOther (k := wc7.heap.size) (by omega) (widL sx n0))
  replace k3 := Lib.hid ((k3.out.old (.cells wid0 25)).rowOther (k := wc7.heap.size) (by omega) (widL sx n0))
  replace k5 := Lib.hid ((k5.out.old (.cells wid0 25)).rowOther (k := wc7.heap.size) (by omega) (widL sx n0))
  replace k6 := Lib.hid ((k6.out.old (.cells wid0 25)).rowOther (k := wc7.heap.size) (by omega) (widL sx n0))
  replace k8 := Lib.hid ((k8.out.old (.cells wid0 25)).rowOther (k := wc7.heap.size) (by omega) (widL sx n0))
  replace kW := (below_row (kW.alloc (by first | exact kW.size | (simp; have := kW.size; omega)) (.cells wid0 25)) (g := wc7.heap.size) (by have := kW.size; omega) (widL sx n0))
  go_wp2_with (first | (refine sta 25 (.tmp 10) (.tmp 51) rfl rfl ?_; refine stb (wc7.heap.size) (widL sx n0) 25 _ z10.out rfl rfl info_wide rfl (widF_ones _ (wd n0)) ?_) | (refine lda 25 (.tmp 2) rfl rfl ?_; refine ldb q2 25 _ _ k2.out rfl under_wide rfl info_wide ?_) | (refine lda 25 (.tmp 3) rfl rfl ?_; refine ldb q3 25 _ _ k3.out rfl under_wide rfl info_wide ?_) | (refine lda 25 (.tmp 5) rfl rfl ?_; refine ldb q5 25 _ _ k5.out rfl under_wide rfl info_wide ?_) | (refine lda 25 (.tmp 6) rfl rfl ?_; refine ldb q6 25 _ _ k6.out rfl under_wide rfl info_wide ?_) | (refine lda 25 (.tmp 8) rfl rfl ?_; refine ldb q8 25 _ _ k8.out rfl under_wide rfl info_wide ?_) | (refine lda 25 (.tmp 10) rfl rfl ?_; refine ldb (wc7.heap.size) 25 _ _ k10.out rfl under_wide rfl info_wide ?_) | (refine ldga 25 (.tmp 2) rfl rfl ?_; refine ldgb q2 25 _ _ k2.out rfl under_wide rfl info_wide ?_) | (refine ldga 25 (.tmp 3) rfl rfl ?_; refine ldgb q3 25 _ _ k3.out rfl under_wide rfl info_wide ?_) | (refine ldga 25 (.tmp 5) rfl rfl ?_; refine ldgb q5 25 _ _ k5.out rfl under_wide rfl info_wide ?_) | (refine ldga 25 (.tmp 6) rfl rfl ?_; refine ldgb q6 25 _ _ k6.out rfl under_wide rfl info_wide ?_) | (refine ldga 25 (.tmp 8) rfl rfl ?_; refine ldgb q8 25 _ _ k8.out rfl under_wide rfl info_wide ?_) | (refine ldga 25 (.tmp 10) rfl rfl ?_; refine ldgb (wc7.heap.size) 25 _ _ k10.out rfl under_wide rfl info_wide ?_))
  clear z10
  generalize wc7.heap.size = q10 at k2 k3 k5 k6 k8 k10 l2 l3 l5 l6 l8 kW ⊢
  generalize World.setRow _ _ _ = wa8 at k2 k3 k5 k6 k8 k10 l2 l3 l5 l6 l8 kW ⊢
  have hG : Keep [(q2, 25, (widL s0 n0)), (q3, 25, (widL true n1)), (q5, 25, (widL Sq Nq)), (q6, 25, (widL Sr Nr)), (q8, 25, (widL P NP)), (q10, 25, (widL sx n0))] q2 25 (widL s0 n0) (widL s0 n0) w wa8.drew := by
    refine ⟨?_, .inl k2.out.drew, kW.drew⟩
    intro k hk
    simp only [List.mem_cons, List.mem_nil_iff, or_false] at hk
    rcases hk with rfl | rfl | rfl | rfl | rfl | rfl
    · exact k2.out.drew
    · exact k3.out.drew
    · exact k5.out.drew
    · exact k6.out.drew
    · exact k8.out.drew
    · exact k10.out.drew
  clear k2 k3 k5 k6 k8 k10 kW
  refine region_kit (ds := [some 53, some 54, some 12, some 13, none]) [((fun k => decide (q10 + 1 ≤ k)), 25, (widL false 0))] [[], [], [], [], [0, 2]] (fun i => i == 2 || i == 3) [.is _ 0 (.agg (widL false 0)), .is _ 1 (.agg (widL true n1)), .ptr2 _ 2 (q10 + 1) 25 wid0 (widL false 0) (by intro r hr k hk hx; simp only [List.mem_cons, List.mem_nil_iff, or_false] at hr; rcases hr with rfl <;> simp at hx ⊢ <;> omega), .ptr2 _ 3 (q10 + 1) 25 wid0 (widL false 0) (by intro r hr k hk hx; simp only [List.mem_cons, List.mem_nil_iff, or_false] at hr; rcases hr with rfl <;> simp at hx ⊢ <;> omega), .own _ 2 (q10 + 1) 25 (widL false 0) (by intro r hr k hk hx; simp only [List.mem_cons, List.mem_nil_iff, or_false] at hr; rcases hr with rfl <;> simp at hx ⊢ <;> omega)] (Keep [(q2, 25, (widL s0 n0)), (q3, 25, (widL true n1)), (q5, 25, (widL Sq Nq)), (q6, 25, (widL Sr Nr)), (q8, 25, (widL P NP)), (q10, 25, (widL sx n0))] (q2) 25 (widL s0 n0) (widL s0 n0) w) follows_mixed (by kernel_rfl) (by kernel_rfl) (by kernel_rfl) (fun _ _ h he => h.ext he (by intro r hr k hk; simp only [List.mem_cons, List.mem_nil_iff, or_false] at hr hk; rcases hr with rfl <;> rcases hk with rfl | rfl | rfl | rfl | rfl | rfl <;> simp <;> omega) (by intro r hr hx; simp only [List.mem_cons, List.mem_nil_iff, or_false] at hr; rcases hr with rfl <;> simp at hx ⊢ <;> omega) (by intro r hr k hk; simp only [List.mem_cons, List.mem_nil_iff, or_false] at hr; rcases hr with rfl <;> simp <;> omega)) hG ?_ ?_
  · refine steps_cons ?_ (steps_cons ?_ (steps_cons ?_ (steps_cons ?_ (steps_cons ?_ (steps_nil)))))
    · exact fun xs wx hG hF => step_call1 15 (.const (.int .i64 (0))) #[3] (.int .i64 (0)) rfl rfl (by kernel_rfl) (of0 wx) (fun e w' h => ⟨_, h.1, rfl, h.2⟩)
    · exact fun xs wx hG _ => step_row 25 (.tmp 3) rfl (q3) (eval_old (by decide)) 25 (widL true n1) _ (hG.rows _ (List.mem_cons_of_mem _ (List.mem_cons_self ..))) under_wide rfl info_wide rfl
    · exact fun xs wx hG _ => step_alloc (.cells wid0 25) (by go_simp) ⟨_, (by have := Blk.lt (hG.rows _ (List.mem_cons_of_mem _ (List.mem_cons_of_mem _ (List.mem_cons_of_mem _ (List.mem_cons_of_mem _ (List.mem_cons_of_mem _ (List.mem_cons_self ..))))))); omega), rfl, .inl (Blk.new _ _ _)⟩
    · exact fun xs wx hG _ => step_alloc (.cells wid0 25) (by go_simp) ⟨_, (by have := Blk.lt (hG.rows _ (List.mem_cons_of_mem _ (List.mem_cons_of_mem _ (List.mem_cons_of_mem _ (List.mem_cons_of_mem _ (List.mem_cons_of_mem _ (List.mem_cons_self ..))))))); omega), rfl, .inl (Blk.new _ _ _)⟩
    · intro xs wx hG hF
      obtain ⟨g, hg, hx, hr | hr⟩ := hF.2.1
      · exact step_store 25 (.tmp 12) (.tmp 53) rfl g (widL false 0) ((eval_new (i := 2) (by decide) rfl (by simp)).trans hx) ((eval_new (i := 0) (by decide) rfl (by simp)).trans hF.1) _ _ hr info_wide rfl (widF_ones _ (wd 0)) ⟨_, (List.mem_cons_self ..), by simp <;> omega, rfl, rfl⟩ ⟨g, hg, hx, Blk.row hr _⟩
      · exact step_store 25 (.tmp 12) (.tmp 53) rfl g (widL false 0) ((eval_new (i := 2) (by decide) rfl (by simp)).trans hx) ((eval_new (i := 0) (by decide) rfl (by simp)).trans hF.1) _ _ hr info_wide rfl (widF_ones _ (wd 0)) ⟨_, (List.mem_cons_self ..), by simp <;> omega, rfl, rfl⟩ ⟨g, hg, hx, Blk.row hr _⟩
  intro xs wx hG hA hF
  obtain ⟨f0, f1, f2, f3, f4, _⟩ := hF
  have f0 : xs 0 = (.agg (widL false 0)) := f0
  have f1 : xs 1 = (.agg (widL true n1)) := f1
  obtain ⟨g2, l2, x2, r2⟩ := f2
  obtain ⟨g3, l3, x3, r3⟩ := f3
  obtain ⟨g4, l4, x4, r4⟩ := f4
  simp only [fillIn, Act.put, List.setIfInBounds_toArray, List.set_cons_zero, List.set_cons_succ, f0, f1, x2, x3, List.drop_succ_cons, List.drop_zero, List.length_cons, List.length_nil]
  have hne := hA 2 3 (by decide) (by decide) rfl rfl (by decide)
  rw [x2, x3] at hne
  have hq : g2 ≠ g3 := fun e => hne (by rw [e])
  have e2 : g2 = g4 := by
    have := x2.symm.trans x4
    simp at this
    exact this
  subst e2
  obtain ⟨kk, _, kW⟩ := hG
  have k2 : Hid (Blk wx q2 25 (widL s0 n0)) := kk _ (List.mem_cons_self ..)
  have k3 : Hid (Blk wx q3 25 (widL true n1)) := kk _ (List.mem_cons_of_mem _ (List.mem_cons_self ..))
  have k5 : Hid (Blk wx q5 25 (widL Sq Nq)) := kk _ (List.mem_cons_of_mem _ (List.mem_cons_of_mem _ (List.mem_cons_self ..)))
  have k6 : Hid (Blk wx q6 25 (widL Sr Nr)) := kk _ (List.mem_cons_of_mem _ (List.mem_cons_of_mem _ (List.mem_cons_of_mem _ (List.mem_cons_self ..))))
  have k8 : Hid (Blk wx q8 25 (widL P NP)) := kk _ (List.mem_cons_of_mem _ (List.mem_cons_of_mem _ (List.mem_cons_of_mem _ (List.mem_cons_of_mem _ (List.mem_cons_self ..)))))
  have k10 : Hid (Blk wx q10 25 (widL sx n0)) := kk _ (List.mem_cons_of_mem _ (List.mem_cons_of_mem _ (List.mem_cons_of_mem _ (List.mem_cons_of_mem _ (List.mem_cons_of_mem _ (List.mem_cons_self ..))))))
  have k12 : Hid (Blk wx g2 25 (widL false 0)) := r4
  have z13 : Hid (Blk wx g3 25 (widL false 0)) := r3.elim (fun h => Blk.of_eq h widL0) id
  clear kk hne hA r2 r3 r4 x2 x3 x4 f0 f1
  generalize g2 = q12 at *
  generalize g3 = q13 at *
  refine wpList_store_row rfl 25 (.tmp 13) (.tmp 54) rfl q13 (widL true n1) rfl rfl 25 _ z13.out info_wide rfl (widF_ones _ (wd n1)) ?_
  replace k2 := Lib.hid (k2.out.rowOther (k := q13) (by omega) (widL true n1))
  replace k3 := Lib.hid (k3.out.rowOther (k := q13) (by omega) (widL true n1))
  replace k5 := Lib.hid (k5.out.rowOther (k := q13) (by omega) (widL true n1))
  replace k6 := Lib.hid (k6.out.rowOther (k := q13) (by omega) (widL true n1))
  replace k8 := Lib.hid (k8.out.rowOther (k := q13) (by omega) (widL true n1))
  replace k10 := Lib.hid (k10.out.rowOther (k := q13) (by omega) (widL true n1))
  replace k12 := Lib.hid (k12.out.rowOther (k := q13) (by omega) (widL true n1))
  replace k13 := Lib.hid (z13.out.row (widL true n1))
  replace kW := (below_row kW (g := q13) (by omega) (widL true n1))
  generalize World.setRow _ _ _ = wa9 at k2 k3 k5 k6 k8 k10 k12 k13 kW ⊢
  have c0 := (wide_cells k3.out).1
  go_wp2_with (first | (refine lda 25 (.tmp 2) rfl rfl ?_; refine ldb q2 25 _ _ k2.out rfl under_wide rfl info_wide ?_) | (refine lda 25 (.tmp 3) rfl rfl ?_; refine ldb q3 25 _ _ k3.out rfl under_wide rfl info_wide ?_) | (refine lda 25 (.tmp 5) rfl rfl ?_; refine ldb q5 25 _ _ k5.out rfl under_wide rfl info_wide ?_) | (refine lda 25 (.tmp 6) rfl rfl ?_; refine ldb q6 25 _ _ k6.out rfl under_wide rfl info_wide ?_) | (refine lda 25 (.tmp 8) rfl rfl ?_; refine ldb q8 25 _ _ k8.out rfl under_wide rfl info_wide ?_) | (refine lda 25 (.tmp 10) rfl rfl ?_; refine ldb q10 25 _ _ k10.out rfl under_wide rfl info_wide ?_) | (refine lda 25 (.tmp 12) rfl rfl ?_; refine ldb q12 25 _ _ k12.out rfl under_wide rfl info_wide ?_) | (refine lda 25 (.tmp 13) rfl rfl ?_; refine ldb q13 25 _ _ k13.out rfl under_wide rfl info_wide ?_) | (refine ldga 25 (.tmp 2) rfl rfl ?_; refine ldgb q2 25 _ _ k2.out rfl under_wide rfl info_wide ?_) | (refine ldga 25 (.tmp 3) rfl rfl ?_; refine ldgb q3 25 _ _ k3.out rfl under_wide rfl info_wide ?_) | (refine ldga 25 (.tmp 5) rfl rfl ?_; refine ldgb q5 25 _ _ k5.out rfl under_wide rfl info_wide ?_) | (refine ldga 25 (.tmp 6) rfl rfl ?_; refine ldgb q6 25 _ _ k6.out rfl under_wide rfl info_wide ?_) | (refine ldga 25 (.tmp 8) rfl rfl ?_; refine ldgb q8 25 _ _ k8.out rfl under_wide rfl info_wide ?_) | (refine ldga 25 (.tmp 10) rfl rfl ?_; refine ldgb q10 25 _ _ k10.out rfl under_wide rfl info_wide ?_) | (refine ldga 25 (.tmp 12) rfl rfl ?_; refine ldgb q12 25 _ _ k12.out rfl under_wide rfl info_wide ?_) | (refine ldga 25 (.tmp 13) rfl rfl ?_; refine ldgb q13 25 _ _ k13.out rfl under_wide rfl info_wide ?_))
  have hG : Keep [(q2, 25, (widL s0 n0)), (q3, 25, (widL true n1)), (q5, 25, (widL Sq Nq)), (q6, 25, (widL Sr Nr)), (q8, 25, (widL P NP)), (q10, 25, (widL sx n0)), (q12, 25, (widL false 0)), (q13, 25, (widL true n1))] q2 25 (widL s0 n0) (widL s0 n0) w wa9.drew := by
    refine ⟨?_, .inl k2.out.drew, kW.drew⟩
    intro k hk
    simp only [List.mem_cons, List.mem_nil_iff, or_false] at hk
    rcases hk with rfl | rfl | rfl | rfl | rfl | rfl | rfl | rfl
    · exact k2.out.drew
    · exact k3.out.drew
    · exact k5.out.drew
    · exact k6.out.drew
    · exact k8.out.drew
    · exact k10.out.drew
    · exact k12.out.drew
    · exact k13.out.drew
  clear k2 k3 k5 k6 k8 k10 k12 k13 kW
  refine region_kit (ds := [some 57, some 58]) [] [[], []] (fun i => false) [.is _ 0 (.agg (widL true n1)), .is _ 1 (.agg (widL false 0))] (Keep [(q2, 25, (widL s0 n0)), (q3, 25, (widL true n1)), (q5, 25, (widL Sq Nq)), (q6, 25, (widL Sr Nr)), (q8, 25, (widL P NP)), (q10, 25, (widL sx n0)), (q12, 25, (widL false 0)), (q13, 25, (widL true n1))] (q2) 25 (widL s0 n0) (widL s0 n0) w) follows_mixed (by kernel_rfl) (by kernel_rfl) (by kernel_rfl) (fun _ _ h he => h.ext he (by intro r hr; simp at hr) (by intro r hr; simp at hr) (by intro r hr; simp at hr)) hG ?_ ?_
  · refine steps_cons ?_ (steps_cons ?_ (steps_nil))
    · exact fun xs wx hG _ => step_row 25 (.tmp 3) rfl (q3) (eval_old (by decide)) 25 (widL true n1) _ (hG.rows _ (List.mem_cons_of_mem _ (List.mem_cons_self ..))) under_wide rfl info_wide rfl
    · exact fun xs wx hG hF => step_call1 15 (.const (.int .i64 (0))) #[3] (.int .i64 (0)) rfl rfl (by kernel_rfl) (of0 wx) (fun e w' h => ⟨_, h.1, rfl, h.2⟩)
  intro xs wx hG hA hF
  obtain ⟨f0, f1, _⟩ := hF
  have f0 : xs 0 = (.agg (widL true n1)) := f0
  have f1 : xs 1 = (.agg (widL false 0)) := f1
  simp only [fillIn, Act.put, List.setIfInBounds_toArray, List.set_cons_zero, List.set_cons_succ, f0, f1, List.drop_succ_cons, List.drop_zero, List.length_cons, List.length_nil]
  obtain ⟨kk, _, kW⟩ := hG
  have k2 : Hid (Blk wx q2 25 (widL s0 n0)) := kk _ (List.mem_cons_self ..)
  have k3 : Hid (Blk wx q3 25 (widL true n1)) := kk _ (List.mem_cons_of_mem _ (List.mem_cons_self ..))
  have k5 : Hid (Blk wx q5 25 (widL Sq Nq)) := kk _ (List.mem_cons_of_mem _ (List.mem_cons_of_mem _ (List.mem_cons_self ..)))
  have k6 : Hid (Blk wx q6 25 (widL Sr Nr)) := kk _ (List.mem_cons_of_mem _ (List.mem_cons_of_mem _ (List.mem_cons_of_mem _ (List.mem_cons_self ..))))
  have k8 : Hid (Blk wx q8 25 (widL P NP)) := kk _ (List.mem_cons_of_mem _ (List.mem_cons_of_mem _ (List.mem_cons_of_mem _ (List.mem_cons_of_mem _ (List.mem_cons_self ..)))))
  have k10 : Hid (Blk wx q10 25 (widL sx n0)) := kk _ (List.mem_cons_of_mem _ (List.mem_cons_of_mem _ (List.mem_cons_of_mem _ (List.mem_cons_of_mem _ (List.mem_cons_of_mem _ (List.mem_cons_self ..))))))
  have k12 : Hid (Blk wx q12 25 (widL false 0)) := kk _ (List.mem_cons_of_mem _ (List.mem_cons_of_mem _ (List.mem_cons_of_mem _ (List.mem_cons_of_mem _ (List.mem_cons_of_mem _ (List.mem_cons_of_mem _ (List.mem_cons_self ..)))))))
  have k13 : Hid (Blk wx q13 25 (widL true n1)) := kk _ (List.mem_cons_of_mem _ (List.mem_cons_of_mem _ (List.mem_cons_of_mem _ (List.mem_cons_of_mem _ (List.mem_cons_of_mem _ (List.mem_cons_of_mem _ (List.mem_cons_of_mem _ (List.mem_cons_self ..))))))))
  clear kk
  clear hA f0 f1
  refine wpList_store_row rfl 25 (.tmp 12) (.tmp 57) rfl q12 (widL true n1) rfl rfl 25 _ k12.out info_wide rfl (widF_ones _ (wd n1)) ?_
  refine wpList_store_row rfl 25 (.tmp 13) (.tmp 58) rfl q13 (widL false 0) rfl rfl 25 _ (k13.out.rowOther (k := q12) (by omega) (widL true n1)) info_wide rfl (widF_ones _ (wd 0)) ?_
  replace k2 := Lib.hid ((k2.out.rowOther (k := q12) (by omega) (widL true n1)).rowOther (k := q13) (by omega) (widL false 0))
  replace k3 := Lib.hid ((k3.out.rowOther (k := q12) (by omega) (widL true n1)).rowOther (k := q13) (by omega) (widL false 0))
  replace k5 := Lib.hid ((k5.out.rowOther (k := q12) (by omega) (widL true n1)).rowOther (k := q13) (by omega) (widL false 0))
  replace k6 := Lib.hid ((k6.out.rowOther (k := q12) (by omega) (widL true n1)).rowOther (k := q13) (by omega) (widL false 0))
  replace k8 := Lib.hid ((k8.out.rowOther (k := q12) (by omega) (widL true n1)).rowOther (k := q13) (by omega) (widL false 0))
  replace k10 := Lib.hid ((k10.out.rowOther (k := q12) (by omega) (widL true n1)).rowOther (k := q13) (by omega) (widL false 0))
  replace k12 := Lib.hid ((k12.out.row (widL true n1)).rowOther (k := q13) (by omega) (widL false 0))
  replace k13 := Lib.hid ((k13.out.rowOther (k := q12) (by omega) (widL true n1)).row (widL false 0))
  replace kW := (below_row (below_row kW (g := q12) (by omega) (widL true n1)) (g := q13) (by omega) (widL false 0))
  generalize World.setRow _ _ _ = wa10 at k2 k3 k5 k6 k8 k10 k12 k13 kW ⊢
  have c0 := (wide_cells k3.out).1
  go_wp2_with (first | (refine lda 25 (.tmp 2) rfl rfl ?_; refine ldb q2 25 _ _ k2.out rfl under_wide rfl info_wide ?_) | (refine lda 25 (.tmp 3) rfl rfl ?_; refine ldb q3 25 _ _ k3.out rfl under_wide rfl info_wide ?_) | (refine lda 25 (.tmp 5) rfl rfl ?_; refine ldb q5 25 _ _ k5.out rfl under_wide rfl info_wide ?_) | (refine lda 25 (.tmp 6) rfl rfl ?_; refine ldb q6 25 _ _ k6.out rfl under_wide rfl info_wide ?_) | (refine lda 25 (.tmp 8) rfl rfl ?_; refine ldb q8 25 _ _ k8.out rfl under_wide rfl info_wide ?_) | (refine lda 25 (.tmp 10) rfl rfl ?_; refine ldb q10 25 _ _ k10.out rfl under_wide rfl info_wide ?_) | (refine lda 25 (.tmp 12) rfl rfl ?_; refine ldb q12 25 _ _ k12.out rfl under_wide rfl info_wide ?_) | (refine lda 25 (.tmp 13) rfl rfl ?_; refine ldb q13 25 _ _ k13.out rfl under_wide rfl info_wide ?_) | (refine ldga 25 (.tmp 2) rfl rfl ?_; refine ldgb q2 25 _ _ k2.out rfl under_wide rfl info_wide ?_) | (refine ldga 25 (.tmp 3) rfl rfl ?_; refine ldgb q3 25 _ _ k3.out rfl under_wide rfl info_wide ?_) | (refine ldga 25 (.tmp 5) rfl rfl ?_; refine ldgb q5 25 _ _ k5.out rfl under_wide rfl info_wide ?_) | (refine ldga 25 (.tmp 6) rfl rfl ?_; refine ldgb q6 25 _ _ k6.out rfl under_wide rfl info_wide ?_) | (refine ldga 25 (.tmp 8) rfl rfl ?_; refine ldgb q8 25 _ _ k8.out rfl under_wide rfl info_wide ?_) | (refine ldga 25 (.tmp 10) rfl rfl ?_; refine ldgb q10 25 _ _ k10.out rfl under_wide rfl info_wide ?_) | (refine ldga 25 (.tmp 12) rfl rfl ?_; refine ldgb q12 25 _ _ k12.out rfl under_wide rfl info_wide ?_) | (refine ldga 25 (.tmp 13) rfl rfl ?_; refine ldgb q13 25 _ _ k13.out rfl under_wide rfl info_wide ?_))
  refine (cc2 _).mono ?_
  rintro e wc11 ⟨rfl, hb⟩
  replace k2 := Lib.hid (k2.out.below hb)
  replace k3 := Lib.hid (k3.out.below hb)
  replace k5 := Lib.hid (k5.out.below hb)
  replace k6 := Lib.hid (k6.out.below hb)
  replace k8 := Lib.hid (k8.out.below hb)
  replace k10 := Lib.hid (k10.out.below hb)
  replace k12 := Lib.hid (k12.out.below hb)
  replace k13 := Lib.hid (k13.out.below hb)
  replace kW := kW.trans (hb.mono kW.size)
  clear hb
  go_wp2_with (first | (refine lda 25 (.tmp 2) rfl rfl ?_; refine ldb q2 25 _ _ k2.out rfl under_wide rfl info_wide ?_) | (refine lda 25 (.tmp 3) rfl rfl ?_; refine ldb q3 25 _ _ k3.out rfl under_wide rfl info_wide ?_) | (refine lda 25 (.tmp 5) rfl rfl ?_; refine ldb q5 25 _ _ k5.out rfl under_wide rfl info_wide ?_) | (refine lda 25 (.tmp 6) rfl rfl ?_; refine ldb q6 25 _ _ k6.out rfl under_wide rfl info_wide ?_) | (refine lda 25 (.tmp 8) rfl rfl ?_; refine ldb q8 25 _ _ k8.out rfl under_wide rfl info_wide ?_) | (refine lda 25 (.tmp 10) rfl rfl ?_; refine ldb q10 25 _ _ k10.out rfl under_wide rfl info_wide ?_) | (refine lda 25 (.tmp 12) rfl rfl ?_; refine ldb q12 25 _ _ k12.out rfl under_wide rfl info_wide ?_) | (refine lda 25 (.tmp 13) rfl rfl ?_; refine ldb q13 25 _ _ k13.out rfl under_wide rfl info_wide ?_) | (refine ldga 25 (.tmp 2) rfl rfl ?_; refine ldgb q2 25 _ _ k2.out rfl under_wide rfl info_wide ?_) | (refine ldga 25 (.tmp 3) rfl rfl ?_; refine ldgb q3 25 _ _ k3.out rfl under_wide rfl info_wide ?_) | (refine ldga 25 (.tmp 5) rfl rfl ?_; refine ldgb q5 25 _ _ k5.out rfl under_wide rfl info_wide ?_) | (refine ldga 25 (.tmp 6) rfl rfl ?_; refine ldgb q6 25 _ _ k6.out rfl under_wide rfl info_wide ?_) | (refine ldga 25 (.tmp 8) rfl rfl ?_; refine ldgb q8 25 _ _ k8.out rfl under_wide rfl info_wide ?_) | (refine ldga 25 (.tmp 10) rfl rfl ?_; refine ldgb q10 25 _ _ k10.out rfl under_wide rfl info_wide ?_) | (refine ldga 25 (.tmp 12) rfl rfl ?_; refine ldgb q12 25 _ _ k12.out rfl under_wide rfl info_wide ?_) | (refine ldga 25 (.tmp 13) rfl rfl ?_; refine ldgb q13 25 _ _ k13.out rfl under_wide rfl info_wide ?_))
  refine (cc1 _).mono ?_
  rintro e wc12 ⟨rfl, hb⟩
  replace k2 := Lib.hid (k2.out.below hb)
  replace k3 := Lib.hid (k3.out.below hb)
  replace k5 := Lib.hid (k5.out.below hb)
  replace k6 := Lib.hid (k6.out.below hb)
  replace k8 := Lib.hid (k8.out.below hb)
  replace k10 := Lib.hid (k10.out.below hb)
  replace k12 := Lib.hid (k12.out.below hb)
  replace k13 := Lib.hid (k13.out.below hb)
  replace kW := kW.trans (hb.mono kW.size)
  clear hb
  have c0 := (wide_cells k3.out).1
  go_wp2_with (first | (refine lda 25 (.tmp 2) rfl rfl ?_; refine ldb q2 25 _ _ k2.out rfl under_wide rfl info_wide ?_) | (refine lda 25 (.tmp 3) rfl rfl ?_; refine ldb q3 25 _ _ k3.out rfl under_wide rfl info_wide ?_) | (refine lda 25 (.tmp 5) rfl rfl ?_; refine ldb q5 25 _ _ k5.out rfl under_wide rfl info_wide ?_) | (refine lda 25 (.tmp 6) rfl rfl ?_; refine ldb q6 25 _ _ k6.out rfl under_wide rfl info_wide ?_) | (refine lda 25 (.tmp 8) rfl rfl ?_; refine ldb q8 25 _ _ k8.out rfl under_wide rfl info_wide ?_) | (refine lda 25 (.tmp 10) rfl rfl ?_; refine ldb q10 25 _ _ k10.out rfl under_wide rfl info_wide ?_) | (refine lda 25 (.tmp 12) rfl rfl ?_; refine ldb q12 25 _ _ k12.out rfl under_wide rfl info_wide ?_) | (refine lda 25 (.tmp 13) rfl rfl ?_; refine ldb q13 25 _ _ k13.out rfl under_wide rfl info_wide ?_) | (refine ldga 25 (.tmp 2) rfl rfl ?_; refine ldgb q2 25 _ _ k2.out rfl under_wide rfl info_wide ?_) | (refine ldga 25 (.tmp 3) rfl rfl ?_; refine ldgb q3 25 _ _ k3.out rfl under_wide rfl info_wide ?_) | (refine ldga 25 (.tmp 5) rfl rfl ?_; refine ldgb q5 25 _ _ k5.out rfl under_wide rfl info_wide ?_) | (refine ldga 25 (.tmp 6) rfl rfl ?_; refine ldgb q6 25 _ _ k6.out rfl under_wide rfl info_wide ?_) | (refine ldga 25 (.tmp 8) rfl rfl ?_; refine ldgb q8 25 _ _ k8.out rfl under_wide rfl info_wide ?_) | (refine ldga 25 (.tmp 10) rfl rfl ?_; refine ldgb q10 25 _ _ k10.out rfl under_wide rfl info_wide ?_) | (refine ldga 25 (.tmp 12) rfl rfl ?_; refine ldgb q12 25 _ _ k12.out rfl under_wide rfl info_wide ?_) | (refine ldga 25 (.tmp 13) rfl rfl ?_; refine ldgb q13 25 _ _ k13.out rfl under_wide rfl info_wide ?_))
  refine (cc2 _).mono ?_
  rintro e wc13 ⟨rfl, hb⟩
  replace k2 := Lib.hid (k2.out.below hb)
  replace k3 := Lib.hid (k3.out.below hb)
  replace k5 := Lib.hid (k5.out.below hb)
  replace k6 := Lib.hid (k6.out.below hb)
  replace k8 := Lib.hid (k8.out.below hb)
  replace k10 := Lib.hid (k10.out.below hb)
  replace k12 := Lib.hid (k12.out.below hb)
  replace k13 := Lib.hid (k13.out.below hb)
  replace kW := kW.trans (hb.mono kW.size)
  clear hb
  go_wp2_with (first | (refine lda 25 (.tmp 2) rfl rfl ?_; refine ldb q2 25 _ _ k2.out rfl under_wide rfl info_wide ?_) | (refine lda 25 (.tmp 3) rfl rfl ?_; refine ldb q3 25 _ _ k3.out rfl under_wide rfl info_wide ?_) | (refine lda 25 (.tmp 5) rfl rfl ?_; refine ldb q5 25 _ _ k5.out rfl under_wide rfl info_wide ?_) | (refine lda 25 (.tmp 6) rfl rfl ?_; refine ldb q6 25 _ _ k6.out rfl under_wide rfl info_wide ?_) | (refine lda 25 (.tmp 8) rfl rfl ?_; refine ldb q8 25 _ _ k8.out rfl under_wide rfl info_wide ?_) | (refine lda 25 (.tmp 10) rfl rfl ?_; refine ldb q10 25 _ _ k10.out rfl under_wide rfl info_wide ?_) | (refine lda 25 (.tmp 12) rfl rfl ?_; refine ldb q12 25 _ _ k12.out rfl under_wide rfl info_wide ?_) | (refine lda 25 (.tmp 13) rfl rfl ?_; refine ldb q13 25 _ _ k13.out rfl under_wide rfl info_wide ?_) | (refine ldga 25 (.tmp 2) rfl rfl ?_; refine ldgb q2 25 _ _ k2.out rfl under_wide rfl info_wide ?_) | (refine ldga 25 (.tmp 3) rfl rfl ?_; refine ldgb q3 25 _ _ k3.out rfl under_wide rfl info_wide ?_) | (refine ldga 25 (.tmp 5) rfl rfl ?_; refine ldgb q5 25 _ _ k5.out rfl under_wide rfl info_wide ?_) | (refine ldga 25 (.tmp 6) rfl rfl ?_; refine ldgb q6 25 _ _ k6.out rfl under_wide rfl info_wide ?_) | (refine ldga 25 (.tmp 8) rfl rfl ?_; refine ldgb q8 25 _ _ k8.out rfl under_wide rfl info_wide ?_) | (refine ldga 25 (.tmp 10) rfl rfl ?_; refine ldgb q10 25 _ _ k10.out rfl under_wide rfl info_wide ?_) | (refine ldga 25 (.tmp 12) rfl rfl ?_; refine ldgb q12 25 _ _ k12.out rfl under_wide rfl info_wide ?_) | (refine ldga 25 (.tmp 13) rfl rfl ?_; refine ldgb q13 25 _ _ k13.out rfl under_wide rfl info_wide ?_))
  refine (cc1 _).mono ?_
  rintro e wc14 ⟨rfl, hb⟩
  replace k2 := Lib.hid (k2.out.below hb)
  replace k3 := Lib.hid (k3.out.below hb)
  replace k5 := Lib.hid (k5.out.below hb)
  replace k6 := Lib.hid (k6.out.below hb)
  replace k8 := Lib.hid (k8.out.below hb)
  replace k10 := Lib.hid (k10.out.below hb)
  replace k12 := Lib.hid (k12.out.below hb)
  replace k13 := Lib.hid (k13.out.below hb)
  replace kW := kW.trans (hb.mono kW.size)
  clear hb
  go_wp2_with (first | (refine lda 25 (.tmp 2) rfl rfl ?_; refine ldb q2 25 _ _ k2.out rfl under_wide rfl info_wide ?_) | (refine lda 25 (.tmp 3) rfl rfl ?_; refine ldb q3 25 _ _ k3.out rfl under_wide rfl info_wide ?_) | (refine lda 25 (.tmp 5) rfl rfl ?_; refine ldb q5 25 _ _ k5.out rfl under_wide rfl info_wide ?_) | (refine lda 25 (.tmp 6) rfl rfl ?_; refine ldb q6 25 _ _ k6.out rfl under_wide rfl info_wide ?_) | (refine lda 25 (.tmp 8) rfl rfl ?_; refine ldb q8 25 _ _ k8.out rfl under_wide rfl info_wide ?_) | (refine lda 25 (.tmp 10) rfl rfl ?_; refine ldb q10 25 _ _ k10.out rfl under_wide rfl info_wide ?_) | (refine lda 25 (.tmp 12) rfl rfl ?_; refine ldb q12 25 _ _ k12.out rfl under_wide rfl info_wide ?_) | (refine lda 25 (.tmp 13) rfl rfl ?_; refine ldb q13 25 _ _ k13.out rfl under_wide rfl info_wide ?_) | (refine ldga 25 (.tmp 2) rfl rfl ?_; refine ldgb q2 25 _ _ k2.out rfl under_wide rfl info_wide ?_) | (refine ldga 25 (.tmp 3) rfl rfl ?_; refine ldgb q3 25 _ _ k3.out rfl under_wide rfl info_wide ?_) | (refine ldga 25 (.tmp 5) rfl rfl ?_; refine ldgb q5 25 _ _ k5.out rfl under_wide rfl info_wide ?_) | (refine ldga 25 (.tmp 6) rfl rfl ?_; refine ldgb q6 25 _ _ k6.out rfl under_wide rfl info_wide ?_) | (refine ldga 25 (.tmp 8) rfl rfl ?_; refine ldgb q8 25 _ _ k8.out rfl under_wide rfl info_wide ?_) | (refine ldga 25 (.tmp 10) rfl rfl ?_; refine ldgb q10 25 _ _ k10.out rfl under_wide rfl info_wide ?_) | (refine ldga 25 (.tmp 12) rfl rfl ?_; refine ldgb q12 25 _ _ k12.out rfl under_wide rfl info_wide ?_) | (refine ldga 25 (.tmp 13) rfl rfl ?_; refine ldgb q13 25 _ _ k13.out rfl under_wide rfl info_wide ?_))
  have hG : Keep [(q2, 25, (widL s0 n0)), (q3, 25, (widL true n1)), (q5, 25, (widL Sq Nq)), (q6, 25, (widL Sr Nr)), (q8, 25, (widL P NP)), (q10, 25, (widL sx n0)), (q12, 25, (widL true n1)), (q13, 25, (widL false 0))] q2 25 (widL s0 n0) (widL s0 n0) w wc14.drew := by
    refine ⟨?_, .inl k2.out.drew, kW.drew⟩
    intro k hk
    simp only [List.mem_cons, List.mem_nil_iff, or_false] at hk
    rcases hk with rfl | rfl | rfl | rfl | rfl | rfl | rfl | rfl
    · exact k2.out.drew
    · exact k3.out.drew
    · exact k5.out.drew
    · exact k6.out.drew
    · exact k8.out.drew
    · exact k10.out.drew
    · exact k12.out.drew
    · exact k13.out.drew
  clear k2 k3 k5 k6 k8 k10 k12 k13 kW
  refine region_kitG (ds := [some 91, some 92, some 93, some 94, some 95, some 96, some 97, some 98, some 99, some 100, some 101, some 102, some 103, some 104, some 105, some 106, some 107, some 108, some 109, some 110, some 111, some 112]) [] [[], [0], [1], [], [3], [2, 4], [5], [], [7], [6, 8], [9], [], [], [12], [11, 13], [10, 14], [15], [], [16, 17], [18], [], [19, 20]] (fun i => false) [.is _ 0 (.int .i64 0), .is _ 1 (.bool true), .is _ 2 (.bool true), .is _ 3 (.int .i64 0), .is _ 4 (.bool true), .is _ 5 (.bool true), .is _ 6 (.bool true), .is _ 7 (.int .i64 0), .is _ 8 (.bool true), .is _ 9 (.bool true), .is _ 10 (.bool true), .is _ 11 (.agg (widL sx n0)), .is _ 12 (.agg (widL s0 n0)), .is _ 13 (.agg (widL sx n0)), .is _ 14 (.bool true), .is _ 15 (.bool true), .is _ 16 (.bool true), .is _ 17 (.bool true), .is _ 18 (.bool true), .is _ 19 (.bool true), .is _ 20 (.bool true), .is _ 21 (.bool true)] (Keep [(q2, 25, (widL s0 n0)), (q3, 25, (widL true n1)), (q5, 25, (widL Sq Nq)), (q6, 25, (widL Sr Nr)), (q8, 25, (widL P NP)), (q10, 25, (widL sx n0)), (q12, 25, (widL true n1)), (q13, 25, (widL false 0))] (q2) 25 (widL s0 n0) (widL s0 n0) w) follows_mixed (by kernel_rfl) (by kernel_rfl) (by kernel_rfl) (fun _ _ h he => h.ext he (by intro r hr; simp at hr) (by intro r hr; simp at hr) (by intro r hr; simp at hr)) hG ?_ [none, none, some true, none, none, none, some true, none, none, none, some true, none, none, none, none, none, some true, none, none, some true, none, none] ⟨fun _ _ h => h, ⟨fun _ _ h => h, ⟨fun _ _ h => h, ⟨fun _ _ h => h, ⟨fun _ _ h => h, trivial⟩⟩⟩⟩⟩ (Nat.le_of_ble_eq_true rfl) (by kernel_rfl) rfl ?_
  · refine steps_cons ?_ (steps_cons ?_ (steps_cons ?_ (steps_cons ?_ (steps_cons ?_ (steps_cons ?_ (steps_cons ?_ (steps_cons ?_ (steps_cons ?_ (steps_cons ?_ (steps_cons ?_ (steps_cons ?_ (steps_cons ?_ (steps_cons ?_ (steps_cons ?_ (steps_cons ?_ (steps_cons ?_ (steps_cons ?_ (steps_cons ?_ (steps_cons ?_ (steps_cons ?_ (steps_cons ?_ (steps_nil))))))))))))))))))))))
    · exact fun xs wx hG _ => step_value (.int .i64 0) (w' := wx) (by simp only [fillIn, Act.put, List.setIfInBounds_toArray, List.set_cons_zero, List.set_cons_succ]; go_simp) rfl (Below.refl _ _)
    · intro xs wx hG hF
      have f0 : xs 0 = (.int .i64 0) := hF.1
      exact step_value (.bool true) (w' := wx) (by simp only [fillIn, Act.put, List.setIfInBounds_toArray, List.set_cons_zero, List.set_cons_succ, f0]; go_simp) rfl (Below.refl _ _)
    · intro xs wx hG hF
      have f1 : xs 1 = (.bool true) := hF.1
      exact step_value (.bool true) (w' := wx) (by simp only [fillIn, Act.put, List.setIfInBounds_toArray, List.set_cons_zero, List.set_cons_succ, f1]; go_simp) rfl (Below.refl _ _)
    · exact fun xs wx hG _ => step_value (.int .i64 0) (w' := wx) (by simp only [fillIn, Act.put, List.setIfInBounds_toArray, List.set_cons_zero, List.set_cons_succ]; go_simp) rfl (Below.refl _ _)
    · intro xs wx hG hF
      have f3 : xs 3 = (.int .i64 0) := hF.1
      exact step_value (.bool true) (w' := wx) (by simp only [fillIn, Act.put, List.setIfInBounds_toArray, List.set_cons_zero, List.set_cons_succ, f3]; go_simp) rfl (Below.refl _ _)
    · intro xs wx hG hF
      have f2 : xs 2 = (.bool true) := hF.1
      have f4 : xs 4 = (.bool true) := hF.2.1
      exact step_value (.bool true) (w' := wx) (by simp only [fillIn, Act.put, List.setIfInBounds_toArray, List.set_cons_zero, List.set_cons_succ, f2, f4]; go_simp) rfl (Below.refl _ _)
    · intro xs wx hG hF
      have f5 : xs 5 = (.bool true) := hF.1
      exact step_value (.bool true) (w' := wx) (by simp only [fillIn, Act.put, List.setIfInBounds_toArray, List.set_cons_zero, List.set_cons_succ, f5]; go_simp) rfl (Below.refl _ _)
    · exact fun xs wx hG _ => step_value (.int .i64 0) (w' := wx) (by simp only [fillIn, Act.put, List.setIfInBounds_toArray, List.set_cons_zero, List.set_cons_succ]; go_simp) rfl (Below.refl _ _)
    · intro xs wx hG hF
      have f7 : xs 7 = (.int .i64 0) := hF.1
      exact step_value (.bool true) (w' := wx) (by simp only [fillIn, Act.put, List.setIfInBounds_toArray, List.set_cons_zero, List.set_cons_succ, f7]; go_simp) rfl (Below.refl _ _)
    · intro xs wx hG hF
      have f6 : xs 6 = (.bool true) := hF.1
      have f8 : xs 8 = (.bool true) := hF.2.1
      exact step_value (.bool true) (w' := wx) (by simp only [fillIn, Act.put, List.setIfInBounds_toArray, List.set_cons_zero, List.set_cons_succ, f6, f8]; go_simp) rfl (Below.refl _ _)
    · intro xs wx hG hF
      have f9 : xs 9 = (.bool true) := hF.1
      exact step_value (.bool true) (w' := wx) (by simp only [fillIn, Act.put, List.setIfInBounds_toArray, List.set_cons_zero, List.set_cons_succ, f9]; go_simp) rfl (Below.refl _ _)
    · exact fun xs wx hG _ => step_row 25 (.tmp 10) rfl (q10) (eval_old (by decide)) 25 (widL sx n0) _ (hG.rows _ (List.mem_cons_of_mem _ (List.mem_cons_of_mem _ (List.mem_cons_of_mem _ (List.mem_cons_of_mem _ (List.mem_cons_of_mem _ (List.mem_cons_self ..))))))) under_wide rfl info_wide rfl
    · exact fun xs wx hG _ => step_row 25 (.tmp 2) rfl (q2) (eval_old (by decide)) 25 (widL s0 n0) _ (hG.rows _ (List.mem_cons_self ..)) under_wide rfl info_wide rfl
    · exact fun xs wx hG hF => step_call1 38 (.tmp 103) #[25] (.agg (widL s0 n0)) rfl ((eval_new (i := 12) (by decide) rfl (by simp)).trans hF.1) (by kernel_rfl) (cpa wx) (fun e w' h => ⟨_, h.1, rfl, h.2⟩)
    · intro xs wx hG hF
      have f11 : xs 11 = (.agg (widL sx n0)) := hF.1
      have f13 : xs 13 = (.agg (widL sx n0)) := hF.2.1
      exact step_value (.bool true) (w' := wx) (by simp only [fillIn, Act.put, List.setIfInBounds_toArray, List.set_cons_zero, List.set_cons_succ, f11, f13]; go_simp) rfl (Below.refl _ _)
    · intro xs wx hG hF
      have f10 : xs 10 = (.bool true) := hF.1
      have f14 : xs 14 = (.bool true) := hF.2.1
      exact step_value (.bool true) (w' := wx) (by simp only [fillIn, Act.put, List.setIfInBounds_toArray, List.set_cons_zero, List.set_cons_succ, f10, f14]; go_simp) rfl (Below.refl _ _)
    · intro xs wx hG hF
      have f15 : xs 15 = (.bool true) := hF.1
      exact step_value (.bool true) (w' := wx) (by simp only [fillIn, Act.put, List.setIfInBounds_toArray, List.set_cons_zero, List.set_cons_succ, f15]; go_simp) rfl (Below.refl _ _)
    · exact fun xs wx hG _ => step_value (.bool true) (w' := wx) (by simp only [fillIn, Act.put, List.setIfInBounds_toArray, List.set_cons_zero, List.set_cons_succ]; go_simp) rfl (Below.refl _ _)
    · intro xs wx hG hF
      have f16 : xs 16 = (.bool true) := hF.1
      have f17 : xs 17 = (.bool true) := hF.2.1
      exact step_value (.bool true) (w' := wx) (by simp only [fillIn, Act.put, List.setIfInBounds_toArray, List.set_cons_zero, List.set_cons_succ, f16, f17]; go_simp) rfl (Below.refl _ _)
    · intro xs wx hG hF
      have f18 : xs 18 = (.bool true) := hF.1
      exact step_value (.bool true) (w' := wx) (by simp only [fillIn, Act.put, List.setIfInBounds_toArray, List.set_cons_zero, List.set_cons_succ, f18]; go_simp) rfl (Below.refl _ _)
    · exact fun xs wx hG hF => step_call0 21  #[]  rfl  (by kernel_rfl) (awake_any wx) (fun e w' h => ⟨_, h.1, rfl, h.2⟩)
    · intro xs wx hG hF
      have f19 : xs 19 = (.bool true) := hF.1
      have f20 : xs 20 = (.bool true) := hF.2.1
      exact step_value (.bool true) (w' := wx) (by simp only [fillIn, Act.put, List.setIfInBounds_toArray, List.set_cons_zero, List.set_cons_succ, f19, f20]; go_simp) rfl (Below.refl _ _)
  intro xs wx hG hA hF
  obtain ⟨f0, f1, f2, f3, f4, f5, f6, f7, f8, f9, f10, f11, f12, f13, f14, f15, f16, f17, f18, f19, f20, f21, _⟩ := hF
  have f0 : xs 0 = (.int .i64 0) := f0
  have f1 : xs 1 = (.bool true) := f1
  have f2 : xs 2 = (.bool true) := f2
  have f3 : xs 3 = (.int .i64 0) := f3
  have f4 : xs 4 = (.bool true) := f4
  have f5 : xs 5 = (.bool true) := f5
  have f6 : xs 6 = (.bool true) := f6
  have f7 : xs 7 = (.int .i64 0) := f7
  have f8 : xs 8 = (.bool true) := f8
  have f9 : xs 9 = (.bool true) := f9
  have f10 : xs 10 = (.bool true) := f10
  have f11 : xs 11 = (.agg (widL sx n0)) := f11
  have f12 : xs 12 = (.agg (widL s0 n0)) := f12
  have f13 : xs 13 = (.agg (widL sx n0)) := f13
  have f14 : xs 14 = (.bool true) := f14
  have f15 : xs 15 = (.bool true) := f15
  have f16 : xs 16 = (.bool true) := f16
  have f17 : xs 17 = (.bool true) := f17
  have f18 : xs 18 = (.bool true) := f18
  have f19 : xs 19 = (.bool true) := f19
  have f20 : xs 20 = (.bool true) := f20
  have f21 : xs 21 = (.bool true) := f21
  simp only [fillIn, Act.put, List.setIfInBounds_toArray, List.set_cons_zero, List.set_cons_succ, f0, f1, f2, f3, f4, f5, f6, f7, f8, f9, f10, f11, f12, f13, f14, f15, f16, f17, f18, f19, f20, f21, List.drop_succ_cons, List.drop_zero, List.length_cons, List.length_nil]
  obtain ⟨_, _, kW⟩ := hG
  go_wp2
  go_ret
  exact ⟨rfl, kW⟩
set_option maxRecDepth 100000 in
set_option maxHeartbeats 16000000 in
theorem div_true_over (s0 : Bool) (n0 n1 : Nat) (q r : Int) (w : World) (w0 : n0 < M256) (w1 : n1 < M256) (h0 : n1 ≠ 0) (hdv : DivV s0 n0 true n1 = .tuple #[.agg (widL (cS q) (cN q)), .agg (widL (cS r) (cN r)), .int .i64 0])
    (hid : wv s0 n0 = q * wv true n1 + r) (lq : cN q < M256) (lr : cN r < M256) (hb : -(n1 : Int) < r ∧ r ≤ 0) (hov : M256 ≤ (q * wv true n1).natAbs) :
    Calls Try.prog 9 #[.agg (widL s0 n0), .agg (widL true n1)] w (Gives (.bool true) w) := by
  have c1 : ∀ w, Calls Try.prog 30 #[.agg (widL s0 n0), .agg (widL true n1)] w (Gives (.tuple #[.agg (widL (cS q) (cN q)), .agg (widL (cS r) (cN r)), .int .i64 0]) w) := by
    intro w
    have h := pdiv_wide s0 true n0 n1 w w0 w1
    rw [hdv] at h
    exact h
  have cpl := fun w => plain_any true n1 w w1
  have ez := fun wx => eq_zero_ne (sg true n1) n1 w1 h0 wx
  have cpa := fun w => plain_any s0 n0 w w0
  have wq := wv_c q
  have wr := wv_c r
  obtain ⟨P, NP, EP, hp⟩ := res_ex (wv (cS q) (cN q) * wv true n1)
  have c2 := fun w => mul_res (cS q) true (cN q) n1 lq w1 hp w
  obtain ⟨S, NS, ES, hs⟩ := res_ex (wv P NP + wv (cS r) (cN r))
  have c3 := fun w => add_res P (cS r) NP (cN r) hp.lt lr hs w
  have cm1 := cmpW_int (cS r) false (cN r) 0
  have cm2 := cmpW_int (cS r) true (cN r) n1
  have cc1 := fun w => pcmp_wide (cS r) false (cN r) 0 w lr m_pos
  have cc2 := fun w => pcmp_wide (cS r) true (cN r) n1 w lr w1
  generalize cmpW (cS r) (cN r) false 0 = x1 at *
  generalize cmpW (cS r) (cN r) true n1 = x2 at *
  rw [wr] at cm1 cm2 hs
  rw [wq] at hp
  have z00 : wv false 0 = 0 := rfl
  have z01 : wv true n1 = -(n1 : Int) := rfl
  have hx1 : x1 ≤ 0 := by rcases cm1 with ⟨a, b⟩ | ⟨a, b⟩ | ⟨a, b⟩ <;> omega
  have hx3 : 0 ≤ x2 := by rcases cm2 with ⟨a, b⟩ | ⟨a, b⟩ | ⟨a, b⟩ <;> omega
  have hx2 : 0 < x2 := by rcases cm2 with ⟨a, b⟩ | ⟨a, b⟩ | ⟨a, b⟩ <;> omega
  obtain rfl : EP = 21 := by
    rcases hp.cases with ⟨_, h, _⟩ | ⟨h, _⟩
    · omega
    · exact h
  clear hdv hov hid wq wr hp hs cm1 cm2 z00 z01 hb w0 w1 lq lr h0
  generalize cS q = Sq at *
  generalize cN q = Nq at *
  generalize cS r = Sr at *
  generalize cN r = Nr at *
  generalize sg true n1 = sy at *
  clear q r
  go_enter Try.func9, Try.ntmps9
  go_upto_region 1 with fail
  have k2 : Hid (Blk ((w.alloc (.cells (widL s0 n0) 25)).alloc (.cells (widL true n1) 25)) (w.heap.size) 25 (widL s0 n0)) := (Blk.new _ _ _).old _
  have k3 : Hid (Blk ((w.alloc (.cells (widL s0 n0) 25)).alloc (.cells (widL true n1) 25)) (w.heap.size + 1) 25 (widL true n1)) := Blk.newAt (by simp) _ _
  have kW : Below w.heap.size w ((w.alloc (.cells (widL s0 n0) 25)).alloc (.cells (widL true n1) 25)) := (((Below.refl _ _).alloc (by simp) _).alloc (by simp <;> omega) _)
  obtain ⟨q2, hg2⟩ : ∃ g, g = w.heap.size := ⟨_, rfl⟩
  obtain ⟨q3, hg3⟩ : ∃ g, g = w.heap.size + 1 := ⟨_, rfl⟩
  rw [← hg3] at k3 ⊢
  rw [← hg2] at k2 ⊢
  have hlow : w.heap.size ≤ q2 := by omega
  have o3 : q2 < q3 := by omega
  clear hg2 hg3
  generalize World.alloc _ _ = wa1 at k2 k3 kW ⊢
  go_wp2_with (first | (refine lda 25 (.tmp 2) rfl rfl ?_; refine ldb q2 25 _ _ k2.out rfl under_wide rfl info_wide ?_) | (refine lda 25 (.tmp 3) rfl rfl ?_; refine ldb q3 25 _ _ k3.out rfl under_wide rfl info_wide ?_) | (refine ldga 25 (.tmp 2) rfl rfl ?_; refine ldgb q2 25 _ _ k2.out rfl under_wide rfl info_wide ?_) | (refine ldga 25 (.tmp 3) rfl rfl ?_; refine ldgb q3 25 _ _ k3.out rfl under_wide rfl info_wide ?_))
  refine (c1 _).mono ?_
  rintro e wc2 ⟨rfl, hb⟩
  replace k2 := Lib.hid (k2.out.below hb)
  replace k3 := Lib.hid (k3.out.below hb)
  replace kW := kW.trans (hb.mono kW.size)
  clear hb
  have l2 := k2.out.lt
  have l3 := k3.out.lt
  have z5 : Hid (Blk ((wc2.alloc (.cells wid0 25)).alloc (.cells wid0 25)) (wc2.heap.size) 25 wid0) := ((Blk.new _ _ _ : Blk (wc2.alloc (.cells wid0 25)) wc2.heap.size 25 wid0).old _)
  have z6 : Hid (Blk (((wc2.alloc (.cells wid0 25)).alloc (.cells wid0 25)).setRow (wc2.heap.size) (widL Sq Nq)) (wc2.heap.size + 1) 25 wid0) := ((Blk.newAt (by simp) _ _).rowOther (k := wc2.heap.size) (by omega) (widL Sq Nq))
  have k5 : Hid (Blk ((((wc2.alloc (.cells wid0 25)).alloc (.cells wid0 25)).setRow (wc2.heap.size) (widL Sq Nq)).setRow (wc2.heap.size + 1) (widL Sr Nr)) (wc2.heap.size) 25 (widL Sq Nq)) := ((z5.out.row (widL Sq Nq)).rowOther (k := wc2.heap.size + 1) (by omega) (widL Sr Nr))
  have k6 : Hid (Blk ((((wc2.alloc (.cells wid0 25)).alloc (.cells wid0 25)).setRow (wc2.heap.size) (widL Sq Nq)).setRow (wc2.heap.size + 1) (widL Sr Nr)) (wc2.heap.size + 1) 25 (widL Sr Nr)) := (z6.out.row (widL Sr Nr))
  replace k2 := Lib.hid ((((k2.out.old (.cells wid0 25)).old (.cells wid0 25)).rowOther (k := wc2.heap.size) (by omega) (widL Sq Nq)).rowOther (k := wc2.heap.size + 1) (by omega) (widL Sr Nr))
  replace k3 := Lib.hid ((((k3.out.old (.cells wid0 25)).old (.cells wid0 25)).rowOther (k := wc2.heap.size) (by omega) (widL Sq Nq)).rowOther (k := wc2.heap.size + 1) (by omega) (widL Sr Nr))
  replace kW := (below_row (below_row ((kW.alloc (by first | exact kW.size | (simp; have := kW.size; omega)) (.cells wid0 25)).alloc (by first | exact kW.size | (simp; have := kW.size; omega)) (.cells wid0 25)) (g := wc2.heap.size) (by have := kW.size; omega) (widL Sq Nq)) (g := wc2.heap.size + 1) (by have := kW.size; omega) (widL Sr Nr))
  go_wp2_with (first | (refine sta 25 (.tmp 5) (.tmp 19) rfl rfl ?_; refine stb (wc2.heap.size) (widL Sq Nq) 25 _ z5.out rfl rfl info_wide rfl (widF_ones _ (wd Nq)) ?_) | (refine sta 25 (.tmp 6) (.tmp 20) rfl rfl ?_; refine stb (wc2.heap.size + 1) (widL Sr Nr) 25 _ z6.out rfl rfl info_wide rfl (widF_ones _ (wd Nr)) ?_) | (refine lda 25 (.tmp 2) rfl rfl ?_; refine ldb q2 25 _ _ k2.out rfl under_wide rfl info_wide ?_) | (refine lda 25 (.tmp 3) rfl rfl ?_; refine ldb q3 25 _ _ k3.out rfl under_wide rfl info_wide ?_) | (refine lda 25 (.tmp 5) rfl rfl ?_; refine ldb (wc2.heap.size) 25 _ _ k5.out rfl under_wide rfl info_wide ?_) | (refine lda 25 (.tmp 6) rfl rfl ?_; refine ldb (wc2.heap.size + 1) 25 _ _ k6.out rfl under_wide rfl info_wide ?_) | (refine ldga 25 (.tmp 2) rfl rfl ?_; refine ldgb q2 25 _ _ k2.out rfl under_wide rfl info_wide ?_) | (refine ldga 25 (.tmp 3) rfl rfl ?_; refine ldgb q3 25 _ _ k3.out rfl under_wide rfl info_wide ?_) | (refine ldga 25 (.tmp 5) rfl rfl ?_; refine ldgb (wc2.heap.size) 25 _ _ k5.out rfl under_wide rfl info_wide ?_) | (refine ldga 25 (.tmp 6) rfl rfl ?_; refine ldgb (wc2.heap.size + 1) 25 _ _ k6.out rfl under_wide rfl info_wide ?_))
  clear z5 z6
  have o6 : wc2.heap.size < wc2.heap.size + 1 := by omega
  generalize wc2.heap.size + 1 = q6 at k2 k3 k5 k6 l2 l3 o6 kW ⊢
  generalize wc2.heap.size = q5 at k2 k3 k5 k6 l2 l3 o6 kW ⊢
  generalize World.setRow _ _ _ = wa3 at k2 k3 k5 k6 l2 l3 o6 kW ⊢
  refine (cpl _).mono ?_
  rintro e wc4 ⟨rfl, hb⟩
  replace k2 := Lib.hid (k2.out.below hb)
  replace k3 := Lib.hid (k3.out.below hb)
  replace k5 := Lib.hid (k5.out.below hb)
  replace k6 := Lib.hid (k6.out.below hb)
  replace kW := kW.trans (hb.mono kW.size)
  clear hb
  go_wp2_with (first | (refine lda 25 (.tmp 2) rfl rfl ?_; refine ldb q2 25 _ _ k2.out rfl under_wide rfl info_wide ?_) | (refine lda 25 (.tmp 3) rfl rfl ?_; refine ldb q3 25 _ _ k3.out rfl under_wide rfl info_wide ?_) | (refine lda 25 (.tmp 5) rfl rfl ?_; refine ldb q5 25 _ _ k5.out rfl under_wide rfl info_wide ?_) | (refine lda 25 (.tmp 6) rfl rfl ?_; refine ldb q6 25 _ _ k6.out rfl under_wide rfl info_wide ?_) | (refine ldga 25 (.tmp 2) rfl rfl ?_; refine ldgb q2 25 _ _ k2.out rfl under_wide rfl info_wide ?_) | (refine ldga 25 (.tmp 3) rfl rfl ?_; refine ldgb q3 25 _ _ k3.out rfl under_wide rfl info_wide ?_) | (refine ldga 25 (.tmp 5) rfl rfl ?_; refine ldgb q5 25 _ _ k5.out rfl under_wide rfl info_wide ?_) | (refine ldga 25 (.tmp 6) rfl rfl ?_; refine ldgb q6 25 _ _ k6.out rfl under_wide rfl info_wide ?_))
  refine (c2 _).mono ?_
  rintro e wc5 ⟨rfl, hb⟩
  replace k2 := Lib.hid (k2.out.below hb)
  replace k3 := Lib.hid (k3.out.below hb)
  replace k5 := Lib.hid (k5.out.below hb)
  replace k6 := Lib.hid (k6.out.below hb)
  replace kW := kW.trans (hb.mono kW.size)
  clear hb
  have l2 := k2.out.lt
  have l3 := k3.out.lt
  have l5 := k5.out.lt
  have l6 := k6.out.lt
  have z8 : Hid (Blk (wc5.alloc (.cells wid0 25)) (wc5.heap.size) 25 wid0) := (Blk.new _ _ _ : Blk (wc5.alloc (.cells wid0 25)) wc5.heap.size 25 wid0)
  have k8 : Hid (Blk ((wc5.alloc (.cells wid0 25)).setRow (wc5.heap.size) (widL P NP)) (wc5.heap.size) 25 (widL P NP)) := (z8.out.row (widL P NP))
  replace k2 := Lib.hid ((k2.out.old (.cells wid0 25)).rowOther (k := wc5.heap.size) (by omega) (widL P NP))
  replace k3 := Lib.hid ((k3.out.old (.cells wid0 25)).rowOther (k := wc5.heap.size) (by omega) (widL P NP))
  replace k5 := Lib.hid ((k5.out.old (.cells wid0 25)).rowOther (k := wc5.heap.size) (by omega) (widL P NP))
  replace k6 := Lib.hid ((k6.out.old (.cells wid0 25)).rowOther (k := wc5.heap.size) (by omega) (widL P NP))
  replace kW := (below_row (kW.alloc (by first | exact kW.size | (simp; have := kW.size; omega)) (.cells wid0 25)) (g := wc5.heap.size) (by have := kW.size; omega) (widL P NP))
  go_wp2_with (first | (refine sta 25 (.tmp 8) (.tmp 45) rfl rfl ?_; refine stb (wc5.heap.size) (widL P NP) 25 _ z8.out rfl rfl info_wide rfl (widF_ones _ (wd NP)) ?_) | (refine lda 25 (.tmp 2) rfl rfl ?_; refine ldb q2 25 _ _ k2.out rfl under_wide rfl info_wide ?_) | (refine lda 25 (.tmp 3) rfl rfl ?_; refine ldb q3 25 _ _ k3.out rfl under_wide rfl info_wide ?_) | (refine lda 25 (.tmp 5) rfl rfl ?_; refine ldb q5 25 _ _ k5.out rfl under_wide rfl info_wide ?_) | (refine lda 25 (.tmp 6) rfl rfl ?_; refine ldb q6 25 _ _ k6.out rfl under_wide rfl info_wide ?_) | (refine lda 25 (.tmp 8) rfl rfl ?_; refine ldb (wc5.heap.size) 25 _ _ k8.out rfl under_wide rfl info_wide ?_) | (refine ldga 25 (.tmp 2) rfl rfl ?_; refine ldgb q2 25 _ _ k2.out rfl under_wide rfl info_wide ?_) | (refine ldga 25 (.tmp 3) rfl rfl ?_; refine ldgb q3 25 _ _ k3.out rfl under_wide rfl info_wide ?_) | (refine ldga 25 (.tmp 5) rfl rfl ?_; refine ldgb q5 25 _ _ k5.out rfl under_wide rfl info_wide ?_) | (refine ldga 25 (.tmp 6) rfl rfl ?_; refine ldgb q6 25 _ _ k6.out rfl under_wide rfl info_wide ?_) | (refine ldga 25 (.tmp 8) rfl rfl ?_; refine ldgb (wc5.heap.size) 25 _ _ k8.out rfl under_wide rfl info_wide ?_))
  clear z8
  generalize wc5.heap.size = q8 at k2 k3 k5 k6 k8 l2 l3 l5 l6 kW ⊢
  generalize World.setRow _ _ _ = wa6 at k2 k3 k5 k6 k8 l2 l3 l5 l6 kW ⊢
  refine (c3 _).mono ?_
  rintro e wc7 ⟨rfl, hb⟩
  replace k2 := Lib.hid (k2.out.below hb)
  replace k3 := Lib.hid (k3.out.below hb)
  replace k5 := Lib.hid (k5.out.below hb)
  replace k6 := Lib.hid (k6.out.below hb)
  replace k8 := Lib.hid (k8.out.below hb)
  replace kW := kW.trans (hb.mono kW.size)
  clear hb
  have l2 := k2.out.lt
  have l3 := k3.out.lt
  have l5 := k5.out.lt
  have l6 := k6.out.lt
  have l8 := k8.out.lt
  have z10 : Hid (Blk (wc7.alloc (.cells wid0 25)) (wc7.heap.size) 25 wid0) := (Blk.new _ _ _ : Blk (wc7.alloc (.cells wid0 25)) wc7.heap.size 25 wid0)
  have k10 : Hid (Blk ((wc7.alloc (.cells wid0 25)).setRow (wc7.heap.size) (widL S NS)) (wc7.heap.size) 25 (widL S NS)) := (z10.out.row (widL S NS))
  replace k2 := Lib.hid ((k2.out.old (.cells wid0 25)).rowOther (k := wc7.heap.size) (by omega) (widL S NS))
  replace k3 := Lib.hid ((k3.out.old (.cells wid0 25)).rowOther (k := wc7.heap.size) (by omega) (widL S NS))
  replace k5 := Lib.hid ((k5.out.old (.cells wid0 25)).rowOther (k := wc7.heap.size) (by omega) (widL S NS))
  replace k6 := Lib.hid ((k6.out.old (.cells wid0 25)).rowOther (k := wc7.heap.size) (by omega) (widL S NS))
  replace k8 := Lib.hid ((k8.out.old (.cells wid0 25)).rowOther (k := wc7.heap.size) (by omega) (widL S NS))
  replace kW := (below_row (kW.alloc (by first | exact kW.size | (simp; have := kW.size; omega)) (.cells wid0 25)) (g := wc7.heap.size) (by have := kW.size; omega) (widL S NS))
  go_wp2_with (first | (refine sta 25 (.tmp 10) (.tmp 51) rfl rfl ?_; refine stb (wc7.heap.size) (widL S NS) 25 _ z10.out rfl rfl info_wide rfl (widF_ones _ (wd NS)) ?_) | (refine lda 25 (.tmp 2) rfl rfl ?_; refine ldb q2 25 _ _ k2.out rfl under_wide rfl info_wide ?_) | (refine lda 25 (.tmp 3) rfl rfl ?_; refine ldb q3 25 _ _ k3.out rfl under_wide rfl info_wide ?_) | (refine lda 25 (.tmp 5) rfl rfl ?_; refine ldb q5 25 _ _ k5.out rfl under_wide rfl info_wide ?_) | (refine lda 25 (.tmp 6) rfl rfl ?_; refine ldb q6 25 _ _ k6.out rfl under_wide rfl info_wide ?_) | (refine lda 25 (.tmp 8) rfl rfl ?_; refine ldb q8 25 _ _ k8.out rfl under_wide rfl info_wide ?_) | (refine lda 25 (.tmp 10) rfl rfl ?_; refine ldb (wc7.heap.size) 25 _ _ k10.out rfl under_wide rfl info_wide ?_) | (refine ldga 25 (.tmp 2) rfl rfl ?_; refine ldgb q2 25 _ _ k2.out rfl under_wide rfl info_wide ?_) | (refine ldga 25 (.tmp 3) rfl rfl ?_; refine ldgb q3 25 _ _ k3.out rfl under_wide rfl info_wide ?_) | (refine ldga 25 (.tmp 5) rfl rfl ?_; refine ldgb q5 25 _ _ k5.out rfl under_wide rfl info_wide ?_) | (refine ldga 25 (.tmp 6) rfl rfl ?_; refine ldgb q6 25 _ _ k6.out rfl under_wide rfl info_wide ?_) | (refine ldga 25 (.tmp 8) rfl rfl ?_; refine ldgb q8 25 _ _ k8.out rfl under_wide rfl info_wide ?_) | (refine ldga 25 (.tmp 10) rfl rfl ?_; refine ldgb (wc7.heap.size) 25 _ _ k10.out rfl under_wide rfl info_wide ?_))
  clear z10
  generalize wc7.heap.size = q10 at k2 k3 k5 k6 k8 k10 l2 l3 l5 l6 l8 kW ⊢
  generalize World.setRow _ _ _ = wa8 at k2 k3 k5 k6 k8 k10 l2 l3 l5 l6 l8 kW ⊢
  have hG : Keep [(q2, 25, (widL s0 n0)), (q3, 25, (widL true n1)), (q5, 25, (widL Sq Nq)), (q6, 25, (widL Sr Nr)), (q8, 25, (widL P NP)), (q10, 25, (widL S NS))] q2 25 (widL s0 n0) (widL s0 n0) w wa8.drew := by
    refine ⟨?_, .inl k2.out.drew, kW.drew⟩
    intro k hk
    simp only [List.mem_cons, List.mem_nil_iff, or_false] at hk
    rcases hk with rfl | rfl | rfl | rfl | rfl | rfl
    · exact k2.out.drew
    · exact k3.out.drew
    · exact k5.out.drew
    · exact k6.out.drew
    · exact k8.out.drew
    · exact k10.out.drew
  clear k2 k3 k5 k6 k8 k10 kW
  refine region_kit (ds := [some 53, some 54, some 12, some 13, none]) [((fun k => decide (q10 + 1 ≤ k)), 25, (widL false 0))] [[], [], [], [], [0, 2]] (fun i => i == 2 || i == 3) [.is _ 0 (.agg (widL false 0)), .is _ 1 (.agg (widL true n1)), .ptr2 _ 2 (q10 + 1) 25 wid0 (widL false 0) (by intro r hr k hk hx; simp only [List.mem_cons, List.mem_nil_iff, or_false] at hr; rcases hr with rfl <;> simp at hx ⊢ <;> omega), .ptr2 _ 3 (q10 + 1) 25 wid0 (widL false 0) (by intro r hr k hk hx; simp only [List.mem_cons, List.mem_nil_iff, or_false] at hr; rcases hr with rfl <;> simp at hx ⊢ <;> omega), .own _ 2 (q10 + 1) 25 (widL false 0) (by intro r hr k hk hx; simp only [List.mem_cons, List.mem_nil_iff, or_false] at hr; rcases hr with rfl <;> simp at hx ⊢ <;> omega)] (Keep [(q2, 25, (widL s0 n0)), (q3, 25, (widL true n1)), (q5, 25, (widL Sq Nq)), (q6, 25, (widL Sr Nr)), (q8, 25, (widL P NP)), (q10, 25, (widL S NS))] (q2) 25 (widL s0 n0) (widL s0 n0) w) follows_mixed (by kernel_rfl) (by kernel_rfl) (by kernel_rfl) (fun _ _ h he => h.ext he (by intro r hr k hk; simp only [List.mem_cons, List.mem_nil_iff, or_false] at hr hk; rcases hr with rfl <;> rcases hk with rfl | rfl | rfl | rfl | rfl | rfl <;> simp <;> omega) (by intro r hr hx; simp only [List.mem_cons, List.mem_nil_iff, or_false] at hr; rcases hr with rfl <;> simp at hx ⊢ <;> omega) (by intro r hr k hk; simp only [List.mem_cons, List.mem_nil_iff, or_false] at hr; rcases hr with rfl <;> simp <;> omega)) hG ?_ ?_
  · refine steps_cons ?_ (steps_cons ?_ (steps_cons ?_ (steps_cons ?_ (steps_cons ?_ (steps_nil)))))
    · exact fun xs wx hG hF => step_call1 15 (.const (.int .i64 (0))) #[3] (.int .i64 (0)) rfl rfl (by kernel_rfl) (of0 wx) (fun e w' h => ⟨_, h.1, rfl, h.2⟩)
    · exact fun xs wx hG _ => step_row 25 (.tmp 3) rfl (q3) (eval_old (by decide)) 25 (widL true n1) _ (hG.rows _ (List.mem_cons_of_mem _ (List.mem_cons_self ..))) under_wide rfl info_wide rfl
    · exact fun xs wx hG _ => step_alloc (.cells wid0 25) (by go_simp) ⟨_, (by have := Blk.lt (hG.rows _ (List.mem_cons_of_mem _ (List.mem_cons_of_mem _ (List.mem_cons_of_mem _ (List.mem_cons_of_mem _ (List.mem_cons_of_mem _ (List.mem_cons_self ..))))))); omega), rfl, .inl (Blk.new _ _ _)⟩
    · exact fun xs wx hG _ => step_alloc (.cells wid0 25) (by go_simp) ⟨_, (by have := Blk.lt (hG.rows _ (List.mem_cons_of_mem _ (List.mem_cons_of_mem _ (List.mem_cons_of_mem _ (List.mem_cons_of_mem _ (List.mem_cons_of_mem _ (List.mem_cons_self ..))))))); omega), rfl, .inl (Blk.new _ _ _)⟩
    · intro xs wx hG hF
      obtain ⟨g, hg, hx, hr | hr⟩ := hF.2.1
      · exact step_store 25 (.tmp 12) (.tmp 53) rfl g (widL false 0) ((eval_new (i := 2) (by decide) rfl (by simp)).trans hx) ((eval_new (i := 0) (by decide) rfl (by simp)).trans hF.1) _ _ hr info_wide rfl (widF_ones _ (wd 0)) ⟨_, (List.mem_cons_self ..), by simp <;> omega, rfl, rfl⟩ ⟨g, hg, hx, Blk.row hr _⟩
      · exact step_store 25 (.tmp 12) (.tmp 53) rfl g (widL false 0) ((eval_new (i := 2) (by decide) rfl (by simp)).trans hx) ((eval_new (i := 0) (by decide) rfl (by simp)).trans hF.1) _ _ hr info_wide rfl (widF_ones _ (wd 0)) ⟨_, (List.mem_cons_self ..), by simp <;> omega, rfl, rfl⟩ ⟨g, hg, hx, Blk.row hr _⟩
  intro xs wx hG hA hF
  obtain ⟨f0, f1, f2, f3, f4, _⟩ := hF
  have f0 : xs 0 = (.agg (widL false 0)) := f0
  have f1 : xs 1 = (.agg (widL true n1)) := f1
  obtain ⟨g2, l2, x2, r2⟩ := f2
  obtain ⟨g3, l3, x3, r3⟩ := f3
  obtain ⟨g4, l4, x4, r4⟩ := f4
  simp only [fillIn, Act.put, List.setIfInBounds_toArray, List.set_cons_zero, List.set_cons_succ, f0, f1, x2, x3, List.drop_succ_cons, List.drop_zero, List.length_cons, List.length_nil]
  have hne := hA 2 3 (by decide) (by decide) rfl rfl (by decide)
  rw [x2, x3] at hne
  have hq : g2 ≠ g3 := fun e => hne (by rw [e])
  have e2 : g2 = g4 := by
    have := x2.symm.trans x4
    simp at this
    exact this
  subst e2
  obtain ⟨kk, _, kW⟩ := hG
  have k2 : Hid (Blk wx q2 25 (widL s0 n0)) := kk _ (List.mem_cons_self ..)
  have k3 : Hid (Blk wx q3 25 (widL true n1)) := kk _ (List.mem_cons_of_mem _ (List.mem_cons_self ..))
  have k5 : Hid (Blk wx q5 25 (widL Sq Nq)) := kk _ (List.mem_cons_of_mem _ (List.mem_cons_of_mem _ (List.mem_cons_self ..)))
  have k6 : Hid (Blk wx q6 25 (widL Sr Nr)) := kk _ (List.mem_cons_of_mem _ (List.mem_cons_of_mem _ (List.mem_cons_of_mem _ (List.mem_cons_self ..))))
  have k8 : Hid (Blk wx q8 25 (widL P NP)) := kk _ (List.mem_cons_of_mem _ (List.mem_cons_of_mem _ (List.mem_cons_of_mem _ (List.mem_cons_of_mem _ (List.mem_cons_self ..)))))
  have k10 : Hid (Blk wx q10 25 (widL S NS)) := kk _ (List.mem_cons_of_mem _ (List.mem_cons_of_mem _ (List.mem_cons_of_mem _ (List.mem_cons_of_mem _ (List.mem_cons_of_mem _ (List.mem_cons_self ..))))))
  have k12 : Hid (Blk wx g2 25 (widL false 0)) := r4
  have z13 : Hid (Blk wx g3 25 (widL false 0)) := r3.elim (fun h => Blk.of_eq h widL0) id
  clear kk hne hA r2 r3 r4 x2 x3 x4 f0 f1
  generalize g2 = q12 at *
  generalize g3 = q13 at *
  refine wpList_store_row rfl 25 (.tmp 13) (.tmp 54) rfl q13 (widL true n1) rfl rfl 25 _ z13.out info_wide rfl (widF_ones _ (wd n1)) ?_
  replace k2 := Lib.hid (k2.out.rowOther (k := q13) (by omega) (widL true n1))
  replace k3 := Lib.hid (k3.out.rowOther (k := q13) (by omega) (widL true n1))
  replace k5 := Lib.hid (k5.out.rowOther (k := q13) (by omega) (widL true n1))
  replace k6 := Lib.hid (k6.out.rowOther (k := q13) (by omega) (widL true n1))
  replace k8 := Lib.hid (k8.out.rowOther (k := q13) (by omega) (widL true n1))
  replace k10 := Lib.hid (k10.out.rowOther (k := q13) (by omega) (widL true n1))
  replace k12 := Lib.hid (k12.out.rowOther (k := q13) (by omega) (widL true n1))
  replace k13 := Lib.hid (z13.out.row (widL true n1))
  replace kW := (below_row kW (g := q13) (by omega) (widL true n1))
  generalize World.setRow _ _ _ = wa9 at k2 k3 k5 k6 k8 k10 k12 k13 kW ⊢
  have c0 := (wide_cells k3.out).1
  go_wp2_with (first | (refine lda 25 (.tmp 2) rfl rfl ?_; refine ldb q2 25 _ _ k2.out rfl under_wide rfl info_wide ?_) | (refine lda 25 (.tmp 3) rfl rfl ?_; refine ldb q3 25 _ _ k3.out rfl under_wide rfl info_wide ?_) | (refine lda 25 (.tmp 5) rfl rfl ?_; refine ldb q5 25 _ _ k5.out rfl under_wide rfl info_wide ?_) | (refine lda 25 (.tmp 6) rfl rfl ?_; refine ldb q6 25 _ _ k6.out rfl under_wide rfl info_wide ?_) | (refine lda 25 (.tmp 8) rfl rfl ?_; refine ldb q8 25 _ _ k8.out rfl under_wide rfl info_wide ?_) | (refine lda 25 (.tmp 10) rfl rfl ?_; refine ldb q10 25 _ _ k10.out rfl under_wide rfl info_wide ?_) | (refine lda 25 (.tmp 12) rfl rfl ?_; refine ldb q12 25 _ _ k12.out rfl under_wide rfl info_wide ?_) | (refine lda 25 (.tmp 13) rfl rfl ?_; refine ldb q13 25 _ _ k13.out rfl under_wide rfl info_wide ?_) | (refine ldga 25 (.tmp 2) rfl rfl ?_; refine ldgb q2 25 _ _ k2.out rfl under_wide rfl info_wide ?_) | (refine ldga 25 (.tmp 3) rfl rfl ?_; refine ldgb q3 25 _ _ k3.out rfl under_wide rfl info_wide ?_) | (refine ldga 25 (.tmp 5) rfl rfl ?_; refine ldgb q5 25 _ _ k5.out rfl under_wide rfl info_wide ?_) | (refine ldga 25 (.tmp 6) rfl rfl ?_; refine ldgb q6 25 _ _ k6.out rfl under_wide rfl info_wide ?_) | (refine ldga 25 (.tmp 8) rfl rfl ?_; refine ldgb q8 25 _ _ k8.out rfl under_wide rfl info_wide ?_) | (refine ldga 25 (.tmp 10) rfl rfl ?_; refine ldgb q10 25 _ _ k10.out rfl under_wide rfl info_wide ?_) | (refine ldga 25 (.tmp 12) rfl rfl ?_; refine ldgb q12 25 _ _ k12.out rfl under_wide rfl info_wide ?_) | (refine ldga 25 (.tmp 13) rfl rfl ?_; refine ldgb q13 25 _ _ k13.out rfl under_wide rfl info_wide ?_))
  have hG : Keep [(q2, 25, (widL s0 n0)), (q3, 25, (widL true n1)), (q5, 25, (widL Sq Nq)), (q6, 25, (widL Sr Nr)), (q8, 25, (widL P NP)), (q10, 25, (widL S NS)), (q12, 25, (widL false 0)), (q13, 25, (widL true n1))] q2 25 (widL s0 n0) (widL s0 n0) w wa9.drew := by
    refine ⟨?_, .inl k2.out.drew, kW.drew⟩
    intro k hk
    simp only [List.mem_cons, List.mem_nil_iff, or_false] at hk
    rcases hk with rfl | rfl | rfl | rfl | rfl | rfl | rfl | rfl
    · exact k2.out.drew
    · exact k3.out.drew
    · exact k5.out.drew
    · exact k6.out.drew
    · exact k8.out.drew
    · exact k10.out.drew
    · exact k12.out.drew
    · exact k13.out.drew
  clear k2 k3 k5 k6 k8 k10 k12 k13 kW
  refine region_kit (ds := [some 57, some 58]) [] [[], []] (fun i => false) [.is _ 0 (.agg (widL true n1)), .is _ 1 (.agg (widL false 0))] (Keep [(q2, 25, (widL s0 n0)), (q3, 25, (widL true n1)), (q5, 25, (widL Sq Nq)), (q6, 25, (widL Sr Nr)), (q8, 25, (widL P NP)), (q10, 25, (widL S NS)), (q12, 25, (widL false 0)), (q13, 25, (widL true n1))] (q2) 25 (widL s0 n0) (widL s0 n0) w) follows_mixed (by kernel_rfl) (by kernel_rfl) (by kernel_rfl) (fun _ _ h he => h.ext he (by intro r hr; simp at hr) (by intro r hr; simp at hr) (by intro r hr; simp at hr)) hG ?_ ?_
  · refine steps_cons ?_ (steps_cons ?_ (steps_nil))
    · exact fun xs wx hG _ => step_row 25 (.tmp 3) rfl (q3) (eval_old (by decide)) 25 (widL true n1) _ (hG.rows _ (List.mem_cons_of_mem _ (List.mem_cons_self ..))) under_wide rfl info_wide rfl
    · exact fun xs wx hG hF => step_call1 15 (.const (.int .i64 (0))) #[3] (.int .i64 (0)) rfl rfl (by kernel_rfl) (of0 wx) (fun e w' h => ⟨_, h.1, rfl, h.2⟩)
  intro xs wx hG hA hF
  obtain ⟨f0, f1, _⟩ := hF
  have f0 : xs 0 = (.agg (widL true n1)) := f0
  have f1 : xs 1 = (.agg (widL false 0)) := f1
  simp only [fillIn, Act.put, List.setIfInBounds_toArray, List.set_cons_zero, List.set_cons_succ, f0, f1, List.drop_succ_cons, List.drop_zero, List.length_cons, List.length_nil]
  obtain ⟨kk, _, kW⟩ := hG
  have k2 : Hid (Blk wx q2 25 (widL s0 n0)) := kk _ (List.mem_cons_self ..)
  have k3 : Hid (Blk wx q3 25 (widL true n1)) := kk _ (List.mem_cons_of_mem _ (List.mem_cons_self ..))
  have k5 : Hid (Blk wx q5 25 (widL Sq Nq)) := kk _ (List.mem_cons_of_mem _ (List.mem_cons_of_mem _ (List.mem_cons_self ..)))
  have k6 : Hid (Blk wx q6 25 (widL Sr Nr)) := kk _ (List.mem_cons_of_mem _ (List.mem_cons_of_mem _ (List.mem_cons_of_mem _ (List.mem_cons_self ..))))
  have k8 : Hid (Blk wx q8 25 (widL P NP)) := kk _ (List.mem_cons_of_mem _ (List.mem_cons_of_mem _ (List.mem_cons_of_mem _ (List.mem_cons_of_mem _ (List.mem_cons_self ..)))))
  have k10 : Hid (Blk wx q10 25 (widL S NS)) := kk _ (List.mem_cons_of_mem _ (List.mem_cons_of_mem _ (List.mem_cons_of_mem _ (List.mem_cons_of_mem _ (List.mem_cons_of_mem _ (List.mem_cons_self ..))))))
  have k12 : Hid (Blk wx q12 25 (widL false 0)) := kk _ (List.mem_cons_of_mem _ (List.mem_cons_of_mem _ (List.mem_cons_of_mem _ (List.mem_cons_of_mem _ (List.mem_cons_of_mem _ (List.mem_cons_of_mem _ (List.mem_cons_self ..)))))))
  have k13 : Hid (Blk wx q13 25 (widL true n1)) := kk _ (List.mem_cons_of_mem _ (List.mem_cons_of_mem _ (List.mem_cons_of_mem _ (List.mem_cons_of_mem _ (List.mem_cons_of_mem _ (List.mem_cons_of_mem _ (List.mem_cons_of_mem _ (List.mem_cons_self ..))))))))
  clear kk
  clear hA f0 f1
  refine wpList_store_row rfl 25 (.tmp 12) (.tmp 57) rfl q12 (widL true n1) rfl rfl 25 _ k12.out info_wide rfl (widF_ones _ (wd n1)) ?_
  refine wpList_store_row rfl 25 (.tmp 13) (.tmp 58) rfl q13 (widL false 0) rfl rfl 25 _ (k13.out.rowOther (k := q12) (by omega) (widL true n1)) info_wide rfl (widF_ones _ (wd 0)) ?_
  replace k2 := Lib.hid ((k2.out.rowOther (k := q12) (by omega) (widL true n1)).rowOther (k := q13) (by omega) (widL false 0))
  replace k3 := Lib.hid ((k3.out.rowOther (k := q12) (by omega) (widL true n1)).rowOther (k := q13) (by omega) (widL false 0))
  replace k5 := Lib.hid ((k5.out.rowOther (k := q12) (by omega) (widL true n1)).rowOther (k := q13) (by omega) (widL false 0))
  replace k6 := Lib.hid ((k6.out.rowOther (k := q12) (by omega) (widL true n1)).rowOther (k := q13) (by omega) (widL false 0))
  replace k8 := Lib.hid ((k8.out.rowOther (k := q12) (by omega) (widL true n1)).rowOther (k := q13) (by omega) (widL false 0))
  replace k10 := Lib.hid ((k10.out.rowOther (k := q12) (by omega) (widL true n1)).rowOther (k := q13) (by omega) (widL false 0))
  replace k12 := Lib.hid ((k12.out.row (widL true n1)).rowOther (k := q13) (by omega) (widL false 0))
  replace k13 := Lib.hid ((k13.out.rowOther (k := q12) (by omega) (widL true n1)).row (widL false 0))
  replace kW := (below_row (below_row kW (g := q12) (by omega) (widL true n1)) (g := q13) (by omega) (widL false 0))
  generalize World.setRow _ _ _ = wa10 at k2 k3 k5 k6 k8 k10 k12 k13 kW ⊢
  have c0 := (wide_cells k3.out).1
  go_wp2_with (first | (refine lda 25 (.tmp 2) rfl rfl ?_; refine ldb q2 25 _ _ k2.out rfl under_wide rfl info_wide ?_) | (refine lda 25 (.tmp 3) rfl rfl ?_; refine ldb q3 25 _ _ k3.out rfl under_wide rfl info_wide ?_) | (refine lda 25 (.tmp 5) rfl rfl ?_; refine ldb q5 25 _ _ k5.out rfl under_wide rfl info_wide ?_) | (refine lda 25 (.tmp 6) rfl rfl ?_; refine ldb q6 25 _ _ k6.out rfl under_wide rfl info_wide ?_) | (refine lda 25 (.tmp 8) rfl rfl ?_; refine ldb q8 25 _ _ k8.out rfl under_wide rfl info_wide ?_) | (refine lda 25 (.tmp 10) rfl rfl ?_; refine ldb q10 25 _ _ k10.out rfl under_wide rfl info_wide ?_) | (refine lda 25 (.tmp 12) rfl rfl ?_; refine ldb q12 25 _ _ k12.out rfl under_wide rfl info_wide ?_) | (refine lda 25 (.tmp 13) rfl rfl ?_; refine ldb q13 25 _ _ k13.out rfl under_wide rfl info_wide ?_) | (refine ldga 25 (.tmp 2) rfl rfl ?_; refine ldgb q2 25 _ _ k2.out rfl under_wide rfl info_wide ?_) | (refine ldga 25 (.tmp 3) rfl rfl ?_; refine ldgb q3 25 _ _ k3.out rfl under_wide rfl info_wide ?_) | (refine ldga 25 (.tmp 5) rfl rfl ?_; refine ldgb q5 25 _ _ k5.out rfl under_wide rfl info_wide ?_) | (refine ldga 25 (.tmp 6) rfl rfl ?_; refine ldgb q6 25 _ _ k6.out rfl under_wide rfl info_wide ?_) | (refine ldga 25 (.tmp 8) rfl rfl ?_; refine ldgb q8 25 _ _ k8.out rfl under_wide rfl info_wide ?_) | (refine ldga 25 (.tmp 10) rfl rfl ?_; refine ldgb q10 25 _ _ k10.out rfl under_wide rfl info_wide ?_) | (refine ldga 25 (.tmp 12) rfl rfl ?_; refine ldgb q12 25 _ _ k12.out rfl under_wide rfl info_wide ?_) | (refine ldga 25 (.tmp 13) rfl rfl ?_; refine ldgb q13 25 _ _ k13.out rfl under_wide rfl info_wide ?_))
  refine (cc2 _).mono ?_
  rintro e wc11 ⟨rfl, hb⟩
  replace k2 := Lib.hid (k2.out.below hb)
  replace k3 := Lib.hid (k3.out.below hb)
  replace k5 := Lib.hid (k5.out.below hb)
  replace k6 := Lib.hid (k6.out.below hb)
  replace k8 := Lib.hid (k8.out.below hb)
  replace k10 := Lib.hid (k10.out.below hb)
  replace k12 := Lib.hid (k12.out.below hb)
  replace k13 := Lib.hid (k13.out.below hb)
  replace kW := kW.trans (hb.mono kW.size)
  clear hb
  go_wp2_with (first | (refine lda 25 (.tmp 2) rfl rfl ?_; refine ldb q2 25 _ _ k2.out rfl under_wide rfl info_wide ?_) | (refine lda 25 (.tmp 3) rfl rfl ?_; refine ldb q3 25 _ _ k3.out rfl under_wide rfl info_wide ?_) | (refine lda 25 (.tmp 5) rfl rfl ?_; refine ldb q5 25 _ _ k5.out rfl under_wide rfl info_wide ?_) | (refine lda 25 (.tmp 6) rfl rfl ?_; refine ldb q6 25 _ _ k6.out rfl under_wide rfl info_wide ?_) | (refine lda 25 (.tmp 8) rfl rfl ?_; refine ldb q8 25 _ _ k8.out rfl under_wide rfl info_wide ?_) | (refine lda 25 (.tmp 10) rfl rfl ?_; refine ldb q10 25 _ _ k10.out rfl under_wide rfl info_wide ?_) | (refine lda 25 (.tmp 12) rfl rfl ?_; refine ldb q12 25 _ _ k12.out rfl under_wide rfl info_wide ?_) | (refine lda 25 (.tmp 13) rfl rfl ?_; refine ldb q13 25 _ _ k13.out rfl under_wide rfl info_wide ?_) | (refine ldga 25 (.tmp 2) rfl rfl ?_; refine ldgb q2 25 _ _ k2.out rfl under_wide rfl info_wide ?_) | (refine ldga 25 (.tmp 3) rfl rfl ?_; refine ldgb q3 25 _ _ k3.out rfl under_wide rfl info_wide ?_) | (refine ldga 25 (.tmp 5) rfl rfl ?_; refine ldgb q5 25 _ _ k5.out rfl under_wide rfl info_wide ?_) | (refine ldga 25 (.tmp 6) rfl rfl ?_; refine ldgb q6 25 _ _ k6.out rfl under_wide rfl info_wide ?_) | (refine ldga 25 (.tmp 8) rfl rfl ?_; refine ldgb q8 25 _ _ k8.out rfl under_wide rfl info_wide ?_) | (refine ldga 25 (.tmp 10) rfl rfl ?_; refine ldgb q10 25 _ _ k10.out rfl under_wide rfl info_wide ?_) | (refine ldga 25 (.tmp 12) rfl rfl ?_; refine ldgb q12 25 _ _ k12.out rfl under_wide rfl info_wide ?_) | (refine ldga 25 (.tmp 13) rfl rfl ?_; refine ldgb q13 25 _ _ k13.out rfl under_wide rfl info_wide ?_))
  refine (cc1 _).mono ?_
  rintro e wc12 ⟨rfl, hb⟩
  replace k2 := Lib.hid (k2.out.below hb)
  replace k3 := Lib.hid (k3.out.below hb)
  replace k5 := Lib.hid (k5.out.below hb)
  replace k6 := Lib.hid (k6.out.below hb)
  replace k8 := Lib.hid (k8.out.below hb)
  replace k10 := Lib.hid (k10.out.below hb)
  replace k12 := Lib.hid (k12.out.below hb)
  replace k13 := Lib.hid (k13.out.below hb)
  replace kW := kW.trans (hb.mono kW.size)
  clear hb
  have c0 := (wide_cells k3.out).1
  go_wp2_with (first | (refine lda 25 (.tmp 2) rfl rfl ?_; refine ldb q2 25 _ _ k2.out rfl under_wide rfl info_wide ?_) | (refine lda 25 (.tmp 3) rfl rfl ?_; refine ldb q3 25 _ _ k3.out rfl under_wide rfl info_wide ?_) | (refine lda 25 (.tmp 5) rfl rfl ?_; refine ldb q5 25 _ _ k5.out rfl under_wide rfl info_wide ?_) | (refine lda 25 (.tmp 6) rfl rfl ?_; refine ldb q6 25 _ _ k6.out rfl under_wide rfl info_wide ?_) | (refine lda 25 (.tmp 8) rfl rfl ?_; refine ldb q8 25 _ _ k8.out rfl under_wide rfl info_wide ?_) | (refine lda 25 (.tmp 10) rfl rfl ?_; refine ldb q10 25 _ _ k10.out rfl under_wide rfl info_wide ?_) | (refine lda 25 (.tmp 12) rfl rfl ?_; refine ldb q12 25 _ _ k12.out rfl under_wide rfl info_wide ?_) | (refine lda 25 (.tmp 13) rfl rfl ?_; refine ldb q13 25 _ _ k13.out rfl under_wide rfl info_wide ?_) | (refine ldga 25 (.tmp 2) rfl rfl ?_; refine ldgb q2 25 _ _ k2.out rfl under_wide rfl info_wide ?_) | (refine ldga 25 (.tmp 3) rfl rfl ?_; refine ldgb q3 25 _ _ k3.out rfl under_wide rfl info_wide ?_) | (refine ldga 25 (.tmp 5) rfl rfl ?_; refine ldgb q5 25 _ _ k5.out rfl under_wide rfl info_wide ?_) | (refine ldga 25 (.tmp 6) rfl rfl ?_; refine ldgb q6 25 _ _ k6.out rfl under_wide rfl info_wide ?_) | (refine ldga 25 (.tmp 8) rfl rfl ?_; refine ldgb q8 25 _ _ k8.out rfl under_wide rfl info_wide ?_) | (refine ldga 25 (.tmp 10) rfl rfl ?_; refine ldgb q10 25 _ _ k10.out rfl under_wide rfl info_wide ?_) | (refine ldga 25 (.tmp 12) rfl rfl ?_; refine ldgb q12 25 _ _ k12.out rfl under_wide rfl info_wide ?_) | (refine ldga 25 (.tmp 13) rfl rfl ?_; refine ldgb q13 25 _ _ k13.out rfl under_wide rfl info_wide ?_))
  refine (cc2 _).mono ?_
  rintro e wc13 ⟨rfl, hb⟩
  replace k2 := Lib.hid (k2.out.below hb)
  replace k3 := Lib.hid (k3.out.below hb)
  replace k5 := Lib.hid (k5.out.below hb)
  replace k6 := Lib.hid (k6.out.below hb)
  replace k8 := Lib.hid (k8.out.below hb)
  replace k10 := Lib.hid (k10.out.below hb)
  replace k12 := Lib.hid (k12.out.below hb)
  replace k13 := Lib.hid (k13.out.below hb)
  replace kW := kW.trans (hb.mono kW.size)
  clear hb
  go_wp2_with (first | (refine lda 25 (.tmp 2) rfl rfl ?_; refine ldb q2 25 _ _ k2.out rfl under_wide rfl info_wide ?_) | (refine lda 25 (.tmp 3) rfl rfl ?_; refine ldb q3 25 _ _ k3.out rfl under_wide rfl info_wide ?_) | (refine lda 25 (.tmp 5) rfl rfl ?_; refine ldb q5 25 _ _ k5.out rfl under_wide rfl info_wide ?_) | (refine lda 25 (.tmp 6) rfl rfl ?_; refine ldb q6 25 _ _ k6.out rfl under_wide rfl info_wide ?_) | (refine lda 25 (.tmp 8) rfl rfl ?_; refine ldb q8 25 _ _ k8.out rfl under_wide rfl info_wide ?_) | (refine lda 25 (.tmp 10) rfl rfl ?_; refine ldb q10 25 _ _ k10.out rfl under_wide rfl info_wide ?_) | (refine lda 25 (.tmp 12) rfl rfl ?_; refine ldb q12 25 _ _ k12.out rfl under_wide rfl info_wide ?_) | (refine lda 25 (.tmp 13) rfl rfl ?_; refine ldb q13 25 _ _ k13.out rfl under_wide rfl info_wide ?_) | (refine ldga 25 (.tmp 2) rfl rfl ?_; refine ldgb q2 25 _ _ k2.out rfl under_wide rfl info_wide ?_) | (refine ldga 25 (.tmp 3) rfl rfl ?_; refine ldgb q3 25 _ _ k3.out rfl under_wide rfl info_wide ?_) | (refine ldga 25 (.tmp 5) rfl rfl ?_; refine ldgb q5 25 _ _ k5.out rfl under_wide rfl info_wide ?_) | (refine ldga 25 (.tmp 6) rfl rfl ?_; refine ldgb q6 25 _ _ k6.out rfl under_wide rfl info_wide ?_) | (refine ldga 25 (.tmp 8) rfl rfl ?_; refine ldgb q8 25 _ _ k8.out rfl under_wide rfl info_wide ?_) | (refine ldga 25 (.tmp 10) rfl rfl ?_; refine ldgb q10 25 _ _ k10.out rfl under_wide rfl info_wide ?_) | (refine ldga 25 (.tmp 12) rfl rfl ?_; refine ldgb q12 25 _ _ k12.out rfl under_wide rfl info_wide ?_) | (refine ldga 25 (.tmp 13) rfl rfl ?_; refine ldgb q13 25 _ _ k13.out rfl under_wide rfl info_wide ?_))
  refine (cc1 _).mono ?_
  rintro e wc14 ⟨rfl, hb⟩
  replace k2 := Lib.hid (k2.out.below hb)
  replace k3 := Lib.hid (k3.out.below hb)
  replace k5 := Lib.hid (k5.out.below hb)
  replace k6 := Lib.hid (k6.out.below hb)
  replace k8 := Lib.hid (k8.out.below hb)
  replace k10 := Lib.hid (k10.out.below hb)
  replace k12 := Lib.hid (k12.out.below hb)
  replace k13 := Lib.hid (k13.out.below hb)
  replace kW := kW.trans (hb.mono kW.size)
  clear hb
  go_wp2_with (first | (refine lda 25 (.tmp 2) rfl rfl ?_; refine ldb q2 25 _ _ k2.out rfl under_wide rfl info_wide ?_) | (refine lda 25 (.tmp 3) rfl rfl ?_; refine ldb q3 25 _ _ k3.out rfl under_wide rfl info_wide ?_) | (refine lda 25 (.tmp 5) rfl rfl ?_; refine ldb q5 25 _ _ k5.out rfl under_wide rfl info_wide ?_) | (refine lda 25 (.tmp 6) rfl rfl ?_; refine ldb q6 25 _ _ k6.out rfl under_wide rfl info_wide ?_) | (refine lda 25 (.tmp 8) rfl rfl ?_; refine ldb q8 25 _ _ k8.out rfl under_wide rfl info_wide ?_) | (refine lda 25 (.tmp 10) rfl rfl ?_; refine ldb q10 25 _ _ k10.out rfl under_wide rfl info_wide ?_) | (refine lda 25 (.tmp 12) rfl rfl ?_; refine ldb q12 25 _ _ k12.out rfl under_wide rfl info_wide ?_) | (refine lda 25 (.tmp 13) rfl rfl ?_; refine ldb q13 25 _ _ k13.out rfl under_wide rfl info_wide ?_) | (refine ldga 25 (.tmp 2) rfl rfl ?_; refine ldgb q2 25 _ _ k2.out rfl under_wide rfl info_wide ?_) | (refine ldga 25 (.tmp 3) rfl rfl ?_; refine ldgb q3 25 _ _ k3.out rfl under_wide rfl info_wide ?_) | (refine ldga 25 (.tmp 5) rfl rfl ?_; refine ldgb q5 25 _ _ k5.out rfl under_wide rfl info_wide ?_) | (refine ldga 25 (.tmp 6) rfl rfl ?_; refine ldgb q6 25 _ _ k6.out rfl under_wide rfl info_wide ?_) | (refine ldga 25 (.tmp 8) rfl rfl ?_; refine ldgb q8 25 _ _ k8.out rfl under_wide rfl info_wide ?_) | (refine ldga 25 (.tmp 10) rfl rfl ?_; refine ldgb q10 25 _ _ k10.out rfl under_wide rfl info_wide ?_) | (refine ldga 25 (.tmp 12) rfl rfl ?_; refine ldgb q12 25 _ _ k12.out rfl under_wide rfl info_wide ?_) | (refine ldga 25 (.tmp 13) rfl rfl ?_; refine ldgb q13 25 _ _ k13.out rfl under_wide rfl info_wide ?_))
  refine (awake_any _).mono ?_
  rintro e wc15 ⟨rfl, hb⟩
  replace k2 := Lib.hid (k2.out.below hb)
  replace k3 := Lib.hid (k3.out.below hb)
  replace k5 := Lib.hid (k5.out.below hb)
  replace k6 := Lib.hid (k6.out.below hb)
  replace k8 := Lib.hid (k8.out.below hb)
  replace k10 := Lib.hid (k10.out.below hb)
  replace k12 := Lib.hid (k12.out.below hb)
  replace k13 := Lib.hid (k13.out.below hb)
  replace kW := kW.trans (hb.mono kW.size)
  clear hb
  go_wp2_with fail
  go_ret
  exact ⟨rfl, kW⟩

/-! ### The walk: the law returns true, and writes nothing that was there. -/
set_option maxRecDepth 100000 in
set_option maxHeartbeats 16000000 in
theorem walk (s0 : Bool) (n0 : Nat) (w0 : n0 < M256) (s1 : Bool) (n1 : Nat) (w1 : n1 < M256) (w : World) :
    Calls Try.prog 9 #[.agg (widL s0 n0), .agg (widL s1 n1)] w (Gives (.bool true) w) := by
  by_cases h0 : n1 = 0
  · subst h0
    exact div_zero s0 n0 s1 w w0
  · obtain ⟨q, r, hdv, hid, lq, lr, hp1, hp2⟩ := divV_int s0 s1 n0 n1 w0 w1 h0
    by_cases hov : (q * wv s1 n1).natAbs < M256
    · cases s1
      · exact div_false_fits s0 n0 n1 q r w w0 w1 h0 hdv hid lq lr (hp1 rfl) hov
      · exact div_true_fits s0 n0 n1 q r w w0 w1 h0 hdv hid lq lr (hp2 rfl) hov
    · have hov : M256 ≤ (q * wv s1 n1).natAbs := by omega
      cases s1
      · exact div_false_over s0 n0 n1 q r w w0 w1 h0 hdv hid lq lr (hp1 rfl) hov
      · exact div_true_over s0 n0 n1 q r w w0 w1 h0 hdv hid lq lr (hp2 rfl) hov

/-! ### The row's step -/
set_option maxRecDepth 100000 in
theorem lifted (os : Os) (started : os.Started) (H : Type) (enc : TypeId × Value → H) :
    ReturnsInHanded {} Try.checked os 9 .any (Rows.wideDivisionSpec.pre6 enc Try.prog Try.f9 Rows.wideDivisionRow.domain false) (Rows.wideDivisionSpec.post enc Try.prog Try.f9 false true false false) := by
  refine returnsInHanded_of_change (C := Try.checked) own started (by kernel_rfl) Try.func9
    (ChangeSpec.witness6 (enc := enc) (C := Try.checked) false ⟨#[], #[.agg #[.bool false, .int .u64 0, .int .u64 0, .int .u64 0, .int .u64 0], .agg #[.bool false, .int .u64 0, .int .u64 0, .int .u64 0, .int .u64 0]], []⟩ 8 (by kernel_rfl) (by kernel_rfl) (by kernel_rfl) (by kernel_rfl)) ?_
  intro W base args ds gs before hval0 hW hcnd _
  have hval : ∀ (j : Nat) t v, Try.f9.params[j]? = some t → args[j]? = some v → Value.okWide Try.prog W .any base t v := hval0
  have hW' := hW
  obtain ⟨p, q, hA0, hV, rfl, hfz, hnd⟩ := hW
  have hA : DataW.TrodAll enc Try.prog W 0 (fun _ => true) true Try.f9.params.toList args.toList ds p := hA0
  rw [Try.params9] at hA hval
  obtain ⟨v0, vs0, d0, ds0, p0, q0, hargs, rfl, rfl, h0, r0⟩ := trodAll_cons hA
  obtain ⟨v1, vs1, d1, ds1, p1, q1, rfl, rfl, rfl, h1, r1⟩ := trodAll_cons r0
  obtain ⟨rfl, rfl, rfl⟩ := trodAll_nil r1
  obtain rfl : args = #[v0, v1] := by cases args; simp_all
  obtain ⟨rfl, rfl⟩ := trodVars_none hV
  obtain ⟨s0, n0, rfl, rfl, rfl, w0⟩ := open_wide (hval 0 25 v0 rfl rfl) h0
  obtain ⟨s1, n1, rfl, rfl, rfl, w1⟩ := open_wide (hval 1 25 v1 rfl rfl) h1
  clear hA0 hval0
  simp only [List.append_nil] at hW'
  refine (walk s0 n0 w0 s1 n1 w1 W).mono fun e W' ⟨he, hg⟩ => ?_
  subst he
  exact ⟨_, rfl, _, _, _, [], [], [], hW', (trodAll_cons_mk (shut_bool Try.underlying4 _) trodAll_mk0), (trodAll_cons_mk (shut_wide s0 n0) (trodAll_cons_mk (shut_wide s1 n1) trodAll_mk0)), rfl, hg.frame _, fun h => by cases h⟩

theorem over : Rows.wideDivisionRow.holds Try.pinned (OpenSpec.ofChange Rows.wideDivisionSpec) :=
  OpenClaim.holds_of_wide 9 Try.f9 rfl rfl rfl rfl rfl rfl rfl ⟨rfl, rfl, rfl, rfl, rfl⟩ rfl rfl rfl rfl rfl (by kernel_rfl) Try.func9 (by kernel_rfl)
    (of_decide_eq_true (by kernel_rfl)) (by unfold Func.isWrapper; first | (rw [if_pos (by decide +kernel)]; kernel_rfl) | (rw [if_neg (by decide +kernel)]; exact ⟨rfl, rfl⟩))
    (fun os started H enc _ => lifted os started H enc)

/-- The statement. -/
theorem proved : Rows.WideDivisionSaid :=
  over
#print axioms proved
end Go.Proofs.Ytnpgikjahfhaoaa.wideDivision
