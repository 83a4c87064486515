/-
  For any three wide numbers the law WideDivisors (P2.7) returns true and leaves its arguments alone: Gcd divides both numbers, and what divides both divides it. No condition.
-/
import Derived.Test.YtnpgikjahfhaoaaRows
import Derived.WalkKit
import Derived.ProofKit
import Derived.OpenShut
import Derived.ShutString
import Derived.ChangeOld
import Derived.Below
import Derived.Test.YtnpgikjahfhaoaaWOpen
import Derived.Test.YtnpgikjahfhaoaaWLaw
import Derived.Test.YtnpgikjahfhaoaaWPlain
import Derived.Test.YtnpgikjahfhaoaaWOps2
import Derived.Test.YtnpgikjahfhaoaaWInt
import Derived.Test.YtnpgikjahfhaoaaWText
import Derived.Test.YtnpgikjahfhaoaaWParse
namespace Go.Proofs.Ytnpgikjahfhaoaa.wideDivisors
open Go.ChangeShapes Go.WideShapes Go.ChangeAt Go.RowKit Go.Proofs.WM Go.Proofs.WD Go.Proofs.Reg
open Go.ChangeMaps (open_string shut_string)
set_option linter.unusedVariables false

theorem own : ownKnob Try.prog.godebug = none := by kernel_rfl

theorem gcd_small (n m : Nat) (hn : n < M256) (hm : m < M256) : Nat.gcd n m < M256 := by
  rcases Nat.eq_zero_or_pos n with h | h
  · subst h; rw [Nat.gcd_zero_left]; exact hm
  · exact Nat.lt_of_le_of_lt (Nat.gcd_le_left m h) hn
theorem div_exact (s : Bool) (n G : Nat) (hn : n < M256) (hG : G < M256) (h0 : G ≠ 0) (h : n % G = 0) :
    ∃ (S : Bool) (N : Nat), ∀ w, Calls Try.prog 30 #[.agg (widL s n), .agg (widL false G)] w (Gives (.tuple #[.agg (widL S N), .agg (widL false 0), .int .i64 0]) w) := by
  refine ⟨sg (s != false) (n / G), n / G, fun w => ?_⟩
  have hh := pdiv_wide s false n G w hn hG
  rw [divV_plain (by omega) (.inr h), h, sg_zero] at hh
  exact hh
theorem rem_lt (t : Bool) (m : Nat) (r : Int) (h1 : t = false → 0 ≤ r ∧ r < m) (h2 : t = true → -(m : Int) < r ∧ r ≤ 0) : r.natAbs < (wv t m).natAbs := by
  rw [abs_wv]
  cases t
  · have := h1 rfl; omega
  · have := h2 rfl; omega
theorem rem_eq (r : Int) (h : cN r < M256) : (r = 0 → ∀ wx, (Op.equalIn 10000 25 (.agg (widL (cS r) (cN r))) (.agg wid0)).run Try.prog wx = .ok true wx) ∧ (r ≠ 0 → ∀ wx, (Op.equalIn 10000 25 (.agg (widL (cS r) (cN r))) (.agg wid0)).run Try.prog wx = .ok false wx) := by
  refine ⟨fun e wx => ?_, fun e wx => ?_⟩
  · subst e; exact eq_zero wx
  · exact eq_zero_ne _ _ h (by unfold cN; omega) wx

/-! ### The walk: the law returns true, and writes nothing that was there. -/
set_option maxRecDepth 100000 in
set_option maxHeartbeats 16000000 in
theorem walk (s0 : Bool) (n0 : Nat) (w0 : n0 < M256) (s1 : Bool) (n1 : Nat) (w1 : n1 < M256) (s2 : Bool) (n2 : Nat) (w2 : n2 < M256) (w : World) :
    Calls Try.prog 11 #[.agg (widL s0 n0), .agg (widL s1 n1), .agg (widL s2 n2)] w (Gives (.bool true) w) := by
  obtain ⟨G, hG⟩ : ∃ G, G = Nat.gcd n0 n1 := ⟨_, rfl⟩
  have cg : ∀ w, Calls Try.prog 32 #[.agg (widL s0 n0), .agg (widL s1 n1)] w (Gives (.agg (widL false G)) w) := by rw [hG]; exact fun w => pgcd_wide s0 s1 n0 n1 w w0 w1
  have cpa := fun w => plain_any s0 n0 w w0
  have cpb := fun w => plain_any s1 n1 w w1
  have cpc := fun w => plain_any s2 n2 w w2
  have HG := Lib.hid hG
  have W0 := Lib.hid w0
  have W1 := Lib.hid w1
  have W2 := Lib.hid w2
  clear hG w0 w1 w2
  by_cases hz : n0 = 0 ∧ n1 = 0
  · obtain ⟨hz0, hz1⟩ := hz
    subst hz0 hz1
    obtain rfl : G = 0 := HG.out
    rw [sg_zero] at cpa cpb
    have e0 := fun wx => eq_zero wx
    go_enter Try.func11, Try.ntmps11
    go_upto_region 1 with fail
    have k3 : Hid (Blk (((w.alloc (.cells (widL s0 0) 25)).alloc (.cells (widL s1 0) 25)).alloc (.cells (widL s2 n2) 25)) (w.heap.size) 25 (widL s0 0)) := ((Blk.new _ _ _).old _).old _
    have k4 : Hid (Blk (((w.alloc (.cells (widL s0 0) 25)).alloc (.cells (widL s1 0) 25)).alloc (.cells (widL s2 n2) 25)) (w.heap.size + 1) 25 (widL s1 0)) := (Blk.newAt (by simp) _ _).old _
    have k5 : Hid (Blk (((w.alloc (.cells (widL s0 0) 25)).alloc (.cells (widL s1 0) 25)).alloc (.cells (widL s2 n2) 25)) (w.heap.size + 1 + 1) 25 (widL s2 n2)) := Blk.newAt (by simp) _ _
    have kW : Below w.heap.size w (((w.alloc (.cells (widL s0 0) 25)).alloc (.cells (widL s1 0) 25)).alloc (.cells (widL s2 n2) 25)) := ((((Below.refl _ _).alloc (by simp) _).alloc (by simp <;> omega) _).alloc (by simp <;> omega) _)
    obtain ⟨q3, hg3⟩ : ∃ g, g = w.heap.size := ⟨_, rfl⟩
    obtain ⟨q4, hg4⟩ : ∃ g, g = w.heap.size + 1 := ⟨_, rfl⟩
    obtain ⟨q5, hg5⟩ : ∃ g, g = w.heap.size + 1 + 1 := ⟨_, rfl⟩
    rw [← hg5] at k5 ⊢
    rw [← hg4] at k4 ⊢
    rw [← hg3] at k3 ⊢
    have hlow : w.heap.size ≤ q3 := by omega
    have o4 : q3 < q4 := by omega
    have o5 : q4 < q5 := by omega
    clear hg3 hg4 hg5
    generalize World.alloc _ _ = wa1 at k3 k4 k5 kW ⊢
    go_wp2_with (first | (refine lda 25 (.tmp 3) rfl rfl ?_; refine ldb q3 25 _ _ k3.out rfl under_wide rfl info_wide ?_) | (refine lda 25 (.tmp 4) rfl rfl ?_; refine ldb q4 25 _ _ k4.out rfl under_wide rfl info_wide ?_) | (refine lda 25 (.tmp 5) rfl rfl ?_; refine ldb q5 25 _ _ k5.out rfl under_wide rfl info_wide ?_) | (refine ldga 25 (.tmp 3) rfl rfl ?_; refine ldgb q3 25 _ _ k3.out rfl under_wide rfl info_wide ?_) | (refine ldga 25 (.tmp 4) rfl rfl ?_; refine ldgb q4 25 _ _ k4.out rfl under_wide rfl info_wide ?_) | (refine ldga 25 (.tmp 5) rfl rfl ?_; refine ldgb q5 25 _ _ k5.out rfl under_wide rfl info_wide ?_))
    refine (cg _).mono ?_
    rintro e wc2 ⟨rfl, hb⟩
    replace k3 := Lib.hid (k3.out.below hb)
    replace k4 := Lib.hid (k4.out.below hb)
    replace k5 := Lib.hid (k5.out.below hb)
    replace kW := kW.trans (hb.mono kW.size)
    clear hb
    have l3 := k3.out.lt
    have l4 := k4.out.lt
    have l5 := k5.out.lt
    have z7 : Hid (Blk (wc2.alloc (.cells wid0 25)) (wc2.heap.size) 25 wid0) := (Blk.new _ _ _ : Blk (wc2.alloc (.cells wid0 25)) wc2.heap.size 25 wid0)
    have k7 : Hid (Blk ((wc2.alloc (.cells wid0 25)).setRow (wc2.heap.size) (widL false 0)) (wc2.heap.size) 25 (widL false 0)) := (z7.out.row (widL false 0))
    replace k3 := Lib.hid ((k3.out.old (.cells wid0 25)).rowOther (k := wc2.heap.size) (by omega) (widL false 0))
    replace k4 := Lib.hid ((k4.out.old (.cells wid0 25)).rowOther (k := wc2.heap.size) (by omega) (widL false 0))
    replace k5 := Lib.hid ((k5.out.old (.cells wid0 25)).rowOther (k := wc2.heap.size) (by omega) (widL false 0))
    replace kW := (below_row (kW.alloc (by first | exact kW.size | (simp; have := kW.size; omega)) (.cells wid0 25)) (g := wc2.heap.size) (by have := kW.size; omega) (widL false 0))
    go_wp2_with (first | (refine sta 25 (.tmp 7) (.tmp 25) rfl rfl ?_; refine stb (wc2.heap.size) (widL false 0) 25 _ z7.out rfl rfl info_wide rfl (widF_ones _ (wd 0)) ?_) | (refine lda 25 (.tmp 3) rfl rfl ?_; refine ldb q3 25 _ _ k3.out rfl under_wide rfl info_wide ?_) | (refine lda 25 (.tmp 4) rfl rfl ?_; refine ldb q4 25 _ _ k4.out rfl under_wide rfl info_wide ?_) | (refine lda 25 (.tmp 5) rfl rfl ?_; refine ldb q5 25 _ _ k5.out rfl under_wide rfl info_wide ?_) | (refine lda 25 (.tmp 7) rfl rfl ?_; refine ldb (wc2.heap.size) 25 _ _ k7.out rfl under_wide rfl info_wide ?_) | (refine ldga 25 (.tmp 3) rfl rfl ?_; refine ldgb q3 25 _ _ k3.out rfl under_wide rfl info_wide ?_) | (refine ldga 25 (.tmp 4) rfl rfl ?_; refine ldgb q4 25 _ _ k4.out rfl under_wide rfl info_wide ?_) | (refine ldga 25 (.tmp 5) rfl rfl ?_; refine ldgb q5 25 _ _ k5.out rfl under_wide rfl info_wide ?_) | (refine ldga 25 (.tmp 7) rfl rfl ?_; refine ldgb (wc2.heap.size) 25 _ _ k7.out rfl under_wide rfl info_wide ?_))
    clear z7 l3 l4 l5
    generalize wc2.heap.size = q7 at k3 k4 k5 k7 kW ⊢
    generalize World.setRow _ _ _ = wa3 at k3 k4 k5 k7 kW ⊢
    refine (cpa _).mono ?_
    rintro e wc4 ⟨rfl, hb⟩
    replace k3 := Lib.hid (k3.out.below hb)
    replace k4 := Lib.hid (k4.out.below hb)
    replace k5 := Lib.hid (k5.out.below hb)
    replace k7 := Lib.hid (k7.out.below hb)
    replace kW := kW.trans (hb.mono kW.size)
    clear hb
    go_wp2_with (first | (refine lda 25 (.tmp 3) rfl rfl ?_; refine ldb q3 25 _ _ k3.out rfl under_wide rfl info_wide ?_) | (refine lda 25 (.tmp 4) rfl rfl ?_; refine ldb q4 25 _ _ k4.out rfl under_wide rfl info_wide ?_) | (refine lda 25 (.tmp 5) rfl rfl ?_; refine ldb q5 25 _ _ k5.out rfl under_wide rfl info_wide ?_) | (refine lda 25 (.tmp 7) rfl rfl ?_; refine ldb q7 25 _ _ k7.out rfl under_wide rfl info_wide ?_) | (refine ldga 25 (.tmp 3) rfl rfl ?_; refine ldgb q3 25 _ _ k3.out rfl under_wide rfl info_wide ?_) | (refine ldga 25 (.tmp 4) rfl rfl ?_; refine ldgb q4 25 _ _ k4.out rfl under_wide rfl info_wide ?_) | (refine ldga 25 (.tmp 5) rfl rfl ?_; refine ldgb q5 25 _ _ k5.out rfl under_wide rfl info_wide ?_) | (refine ldga 25 (.tmp 7) rfl rfl ?_; refine ldgb q7 25 _ _ k7.out rfl under_wide rfl info_wide ?_))
    refine (cpb _).mono ?_
    rintro e wc5 ⟨rfl, hb⟩
    replace k3 := Lib.hid (k3.out.below hb)
    replace k4 := Lib.hid (k4.out.below hb)
    replace k5 := Lib.hid (k5.out.below hb)
    replace k7 := Lib.hid (k7.out.below hb)
    replace kW := kW.trans (hb.mono kW.size)
    clear hb
    go_wp2_with (first | (refine lda 25 (.tmp 3) rfl rfl ?_; refine ldb q3 25 _ _ k3.out rfl under_wide rfl info_wide ?_) | (refine lda 25 (.tmp 4) rfl rfl ?_; refine ldb q4 25 _ _ k4.out rfl under_wide rfl info_wide ?_) | (refine lda 25 (.tmp 5) rfl rfl ?_; refine ldb q5 25 _ _ k5.out rfl under_wide rfl info_wide ?_) | (refine lda 25 (.tmp 7) rfl rfl ?_; refine ldb q7 25 _ _ k7.out rfl under_wide rfl info_wide ?_) | (refine ldga 25 (.tmp 3) rfl rfl ?_; refine ldgb q3 25 _ _ k3.out rfl under_wide rfl info_wide ?_) | (refine ldga 25 (.tmp 4) rfl rfl ?_; refine ldgb q4 25 _ _ k4.out rfl under_wide rfl info_wide ?_) | (refine ldga 25 (.tmp 5) rfl rfl ?_; refine ldgb q5 25 _ _ k5.out rfl under_wide rfl info_wide ?_) | (refine ldga 25 (.tmp 7) rfl rfl ?_; refine ldgb q7 25 _ _ k7.out rfl under_wide rfl info_wide ?_))
    refine (awake_any _).mono ?_
    rintro e wc6 ⟨rfl, hb⟩
    replace k3 := Lib.hid (k3.out.below hb)
    replace k4 := Lib.hid (k4.out.below hb)
    replace k5 := Lib.hid (k5.out.below hb)
    replace k7 := Lib.hid (k7.out.below hb)
    replace kW := kW.trans (hb.mono kW.size)
    clear hb
    go_wp2_with fail
    go_ret
    exact ⟨rfl, kW⟩
  · have hG0 : G ≠ 0 := by
      rw [HG.out]
      intro h
      exact hz ⟨Nat.eq_zero_of_gcd_eq_zero_left h, Nat.eq_zero_of_gcd_eq_zero_right h⟩
    have HZ := Lib.hid hz
    have hGM : G < M256 := by rw [HG.out]; exact gcd_small n0 n1 W0.out W1.out
    have da : n0 % G = 0 := by rw [HG.out]; exact Nat.mod_eq_zero_of_dvd (Nat.gcd_dvd_left n0 n1)
    have db : n1 % G = 0 := by rw [HG.out]; exact Nat.mod_eq_zero_of_dvd (Nat.gcd_dvd_right n0 n1)
    obtain ⟨SA, NA, cda⟩ := div_exact s0 n0 G W0.out hGM hG0 da
    obtain ⟨SB, NB, cdb⟩ := div_exact s1 n1 G W1.out hGM hG0 db
    have e0 := fun wx => eq_zero wx
    have HGM := Lib.hid hGM
    have HG0 := Lib.hid hG0
    clear hz hG0 hGM da db
    go_enter Try.func11, Try.ntmps11
    go_upto_region 1 with fail
    have k3 : Hid (Blk (((w.alloc (.cells (widL s0 n0) 25)).alloc (.cells (widL s1 n1) 25)).alloc (.cells (widL s2 n2) 25)) (w.heap.size) 25 (widL s0 n0)) := ((Blk.new _ _ _).old _).old _
    have k4 : Hid (Blk (((w.alloc (.cells (widL s0 n0) 25)).alloc (.cells (widL s1 n1) 25)).alloc (.cells (widL s2 n2) 25)) (w.heap.size + 1) 25 (widL s1 n1)) := (Blk.newAt (by simp) _ _).old _
    have k5 : Hid (Blk (((w.alloc (.cells (widL s0 n0) 25)).alloc (.cells (widL s1 n1) 25)).alloc (.cells (widL s2 n2) 25)) (w.heap.size + 1 + 1) 25 (widL s2 n2)) := Blk.newAt (by simp) _ _
    have kW : Below w.heap.size w (((w.alloc (.cells (widL s0 n0) 25)).alloc (.cells (widL s1 n1) 25)).alloc (.cells (widL s2 n2) 25)) := ((((Below.refl _ _).alloc (by simp) _).alloc (by simp <;> omega) _).alloc (by simp <;> omega) _)
    obtain ⟨q3, hg3⟩ : ∃ g, g = w.heap.size := ⟨_, rfl⟩
    obtain ⟨q4, hg4⟩ : ∃ g, g = w.heap.size + 1 := ⟨_, rfl⟩
    obtain ⟨q5, hg5⟩ : ∃ g, g = w.heap.size + 1 + 1 := ⟨_, rfl⟩
    rw [← hg5] at k5 ⊢
    rw [← hg4] at k4 ⊢
    rw [← hg3] at k3 ⊢
    have hlow : w.heap.size ≤ q3 := by omega
    have o4 : q3 < q4 := by omega
    have o5 : q4 < q5 := by omega
    clear hg3 hg4 hg5
    generalize World.alloc _ _ = wa7 at k3 k4 k5 kW ⊢
    go_wp2_with (first | (refine lda 25 (.tmp 3) rfl rfl ?_; refine ldb q3 25 _ _ k3.out rfl under_wide rfl info_wide ?_) | (refine lda 25 (.tmp 4) rfl rfl ?_; refine ldb q4 25 _ _ k4.out rfl under_wide rfl info_wide ?_) | (refine lda 25 (.tmp 5) rfl rfl ?_; refine ldb q5 25 _ _ k5.out rfl under_wide rfl info_wide ?_) | (refine ldga 25 (.tmp 3) rfl rfl ?_; refine ldgb q3 25 _ _ k3.out rfl under_wide rfl info_wide ?_) | (refine ldga 25 (.tmp 4) rfl rfl ?_; refine ldgb q4 25 _ _ k4.out rfl under_wide rfl info_wide ?_) | (refine ldga 25 (.tmp 5) rfl rfl ?_; refine ldgb q5 25 _ _ k5.out rfl under_wide rfl info_wide ?_))
    refine (cg _).mono ?_
    rintro e wc8 ⟨rfl, hb⟩
    replace k3 := Lib.hid (k3.out.below hb)
    replace k4 := Lib.hid (k4.out.below hb)
    replace k5 := Lib.hid (k5.out.below hb)
    replace kW := kW.trans (hb.mono kW.size)
    clear hb
    have l3 := k3.out.lt
    have l4 := k4.out.lt
    have l5 := k5.out.lt
    have z7 : Hid (Blk (wc8.alloc (.cells wid0 25)) (wc8.heap.size) 25 wid0) := (Blk.new _ _ _ : Blk (wc8.alloc (.cells wid0 25)) wc8.heap.size 25 wid0)
    have k7 : Hid (Blk ((wc8.alloc (.cells wid0 25)).setRow (wc8.heap.size) (widL false G)) (wc8.heap.size) 25 (widL false G)) := (z7.out.row (widL false G))
    replace k3 := Lib.hid ((k3.out.old (.cells wid0 25)).rowOther (k := wc8.heap.size) (by omega) (widL false G))
    replace k4 := Lib.hid ((k4.out.old (.cells wid0 25)).rowOther (k := wc8.heap.size) (by omega) (widL false G))
    replace k5 := Lib.hid ((k5.out.old (.cells wid0 25)).rowOther (k := wc8.heap.size) (by omega) (widL false G))
    replace kW := (below_row (kW.alloc (by first | exact kW.size | (simp; have := kW.size; omega)) (.cells wid0 25)) (g := wc8.heap.size) (by have := kW.size; omega) (widL false G))
    go_upto_region 2 with (first | (refine sta 25 (.tmp 7) (.tmp 25) rfl rfl ?_; refine stb (wc8.heap.size) (widL false G) 25 _ z7.out rfl rfl info_wide rfl (widF_ones _ (wd G)) ?_) | (refine lda 25 (.tmp 3) rfl rfl ?_; refine ldb q3 25 _ _ k3.out rfl under_wide rfl info_wide ?_) | (refine lda 25 (.tmp 4) rfl rfl ?_; refine ldb q4 25 _ _ k4.out rfl under_wide rfl info_wide ?_) | (refine lda 25 (.tmp 5) rfl rfl ?_; refine ldb q5 25 _ _ k5.out rfl under_wide rfl info_wide ?_) | (refine lda 25 (.tmp 7) rfl rfl ?_; refine ldb (wc8.heap.size) 25 _ _ k7.out rfl under_wide rfl info_wide ?_) | (refine ldga 25 (.tmp 3) rfl rfl ?_; refine ldgb q3 25 _ _ k3.out rfl under_wide rfl info_wide ?_) | (refine ldga 25 (.tmp 4) rfl rfl ?_; refine ldgb q4 25 _ _ k4.out rfl under_wide rfl info_wide ?_) | (refine ldga 25 (.tmp 5) rfl rfl ?_; refine ldgb q5 25 _ _ k5.out rfl under_wide rfl info_wide ?_) | (refine ldga 25 (.tmp 7) rfl rfl ?_; refine ldgb (wc8.heap.size) 25 _ _ k7.out rfl under_wide rfl info_wide ?_))
    try simp only [Act.put]
    clear z7 l3 l4 l5
    generalize wc8.heap.size = q7 at k3 k4 k5 k7 kW ⊢
    generalize World.setRow _ _ _ = wa9 at k3 k4 k5 k7 kW ⊢
    go_cut [35] (fun s35 wx => s35 = .bool false ∧ Hid (Blk wx q3 25 (widL s0 n0)) ∧ Hid (Blk wx q4 25 (widL s1 n1)) ∧ Hid (Blk wx q5 25 (widL s2 n2)) ∧ Hid (Blk wx q7 25 (widL false G)) ∧ Below w.heap.size w wx)
    case first =>
      by_cases hn0 : n0 = 0
      · have hn1 : n1 ≠ 0 := fun h => HZ.out ⟨hn0, h⟩
        subst hn0
        rw [sg_zero] at cpa
        have e1 := fun wx => eq_zero_ne (sg s1 n1) n1 W1.out hn1 wx
        clear hn1
        go_wp2_with (first | (refine lda 25 (.tmp 3) rfl rfl ?_; refine ldb q3 25 _ _ k3.out rfl under_wide rfl info_wide ?_) | (refine lda 25 (.tmp 4) rfl rfl ?_; refine ldb q4 25 _ _ k4.out rfl under_wide rfl info_wide ?_) | (refine lda 25 (.tmp 5) rfl rfl ?_; refine ldb q5 25 _ _ k5.out rfl under_wide rfl info_wide ?_) | (refine lda 25 (.tmp 7) rfl rfl ?_; refine ldb q7 25 _ _ k7.out rfl under_wide rfl info_wide ?_) | (refine ldga 25 (.tmp 3) rfl rfl ?_; refine ldgb q3 25 _ _ k3.out rfl under_wide rfl info_wide ?_) | (refine ldga 25 (.tmp 4) rfl rfl ?_; refine ldgb q4 25 _ _ k4.out rfl under_wide rfl info_wide ?_) | (refine ldga 25 (.tmp 5) rfl rfl ?_; refine ldgb q5 25 _ _ k5.out rfl under_wide rfl info_wide ?_) | (refine ldga 25 (.tmp 7) rfl rfl ?_; refine ldgb q7 25 _ _ k7.out rfl under_wide rfl info_wide ?_))
        refine (cpa _).mono ?_
        rintro e wc10 ⟨rfl, hb⟩
        replace k3 := Lib.hid (k3.out.below hb)
        replace k4 := Lib.hid (k4.out.below hb)
        replace k5 := Lib.hid (k5.out.below hb)
        replace k7 := Lib.hid (k7.out.below hb)
        replace kW := kW.trans (hb.mono kW.size)
        clear hb
        go_wp2_with (first | (refine lda 25 (.tmp 3) rfl rfl ?_; refine ldb q3 25 _ _ k3.out rfl under_wide rfl info_wide ?_) | (refine lda 25 (.tmp 4) rfl rfl ?_; refine ldb q4 25 _ _ k4.out rfl under_wide rfl info_wide ?_) | (refine lda 25 (.tmp 5) rfl rfl ?_; refine ldb q5 25 _ _ k5.out rfl under_wide rfl info_wide ?_) | (refine lda 25 (.tmp 7) rfl rfl ?_; refine ldb q7 25 _ _ k7.out rfl under_wide rfl info_wide ?_) | (refine ldga 25 (.tmp 3) rfl rfl ?_; refine ldgb q3 25 _ _ k3.out rfl under_wide rfl info_wide ?_) | (refine ldga 25 (.tmp 4) rfl rfl ?_; refine ldgb q4 25 _ _ k4.out rfl under_wide rfl info_wide ?_) | (refine ldga 25 (.tmp 5) rfl rfl ?_; refine ldgb q5 25 _ _ k5.out rfl under_wide rfl info_wide ?_) | (refine ldga 25 (.tmp 7) rfl rfl ?_; refine ldgb q7 25 _ _ k7.out rfl under_wide rfl info_wide ?_))
        refine (cpb _).mono ?_
        rintro e wc11 ⟨rfl, hb⟩
        replace k3 := Lib.hid (k3.out.below hb)
        replace k4 := Lib.hid (k4.out.below hb)
        replace k5 := Lib.hid (k5.out.below hb)
        replace k7 := Lib.hid (k7.out.below hb)
        replace kW := kW.trans (hb.mono kW.size)
        clear hb
        go_wp2_with (first | (refine lda 25 (.tmp 3) rfl rfl ?_; refine ldb q3 25 _ _ k3.out rfl under_wide rfl info_wide ?_) | (refine lda 25 (.tmp 4) rfl rfl ?_; refine ldb q4 25 _ _ k4.out rfl under_wide rfl info_wide ?_) | (refine lda 25 (.tmp 5) rfl rfl ?_; refine ldb q5 25 _ _ k5.out rfl under_wide rfl info_wide ?_) | (refine lda 25 (.tmp 7) rfl rfl ?_; refine ldb q7 25 _ _ k7.out rfl under_wide rfl info_wide ?_) | (refine ldga 25 (.tmp 3) rfl rfl ?_; refine ldgb q3 25 _ _ k3.out rfl under_wide rfl info_wide ?_) | (refine ldga 25 (.tmp 4) rfl rfl ?_; refine ldgb q4 25 _ _ k4.out rfl under_wide rfl info_wide ?_) | (refine ldga 25 (.tmp 5) rfl rfl ?_; refine ldgb q5 25 _ _ k5.out rfl under_wide rfl info_wide ?_) | (refine ldga 25 (.tmp 7) rfl rfl ?_; refine ldgb q7 25 _ _ k7.out rfl under_wide rfl info_wide ?_))
        go_meet
        exact ⟨rfl, k3.out, k4.out, k5.out, k7.out, kW⟩
      · have e1 := fun wx => eq_zero_ne (sg s0 n0) n0 W0.out hn0 wx
        clear hn0
        go_wp2_with (first | (refine lda 25 (.tmp 3) rfl rfl ?_; refine ldb q3 25 _ _ k3.out rfl under_wide rfl info_wide ?_) | (refine lda 25 (.tmp 4) rfl rfl ?_; refine ldb q4 25 _ _ k4.out rfl under_wide rfl info_wide ?_) | (refine lda 25 (.tmp 5) rfl rfl ?_; refine ldb q5 25 _ _ k5.out rfl under_wide rfl info_wide ?_) | (refine lda 25 (.tmp 7) rfl rfl ?_; refine ldb q7 25 _ _ k7.out rfl under_wide rfl info_wide ?_) | (refine ldga 25 (.tmp 3) rfl rfl ?_; refine ldgb q3 25 _ _ k3.out rfl under_wide rfl info_wide ?_) | (refine ldga 25 (.tmp 4) rfl rfl ?_; refine ldgb q4 25 _ _ k4.out rfl under_wide rfl info_wide ?_) | (refine ldga 25 (.tmp 5) rfl rfl ?_; refine ldgb q5 25 _ _ k5.out rfl under_wide rfl info_wide ?_) | (refine ldga 25 (.tmp 7) rfl rfl ?_; refine ldgb q7 25 _ _ k7.out rfl under_wide rfl info_wide ?_))
        refine (cpa _).mono ?_
        rintro e wc12 ⟨rfl, hb⟩
        replace k3 := Lib.hid (k3.out.below hb)
        replace k4 := Lib.hid (k4.out.below hb)
        replace k5 := Lib.hid (k5.out.below hb)
        replace k7 := Lib.hid (k7.out.below hb)
        replace kW := kW.trans (hb.mono kW.size)
        clear hb
        go_wp2_with (first | (refine lda 25 (.tmp 3) rfl rfl ?_; refine ldb q3 25 _ _ k3.out rfl under_wide rfl info_wide ?_) | (refine lda 25 (.tmp 4) rfl rfl ?_; refine ldb q4 25 _ _ k4.out rfl under_wide rfl info_wide ?_) | (refine lda 25 (.tmp 5) rfl rfl ?_; refine ldb q5 25 _ _ k5.out rfl under_wide rfl info_wide ?_) | (refine lda 25 (.tmp 7) rfl rfl ?_; refine ldb q7 25 _ _ k7.out rfl under_wide rfl info_wide ?_) | (refine ldga 25 (.tmp 3) rfl rfl ?_; refine ldgb q3 25 _ _ k3.out rfl under_wide rfl info_wide ?_) | (refine ldga 25 (.tmp 4) rfl rfl ?_; refine ldgb q4 25 _ _ k4.out rfl under_wide rfl info_wide ?_) | (refine ldga 25 (.tmp 5) rfl rfl ?_; refine ldgb q5 25 _ _ k5.out rfl under_wide rfl info_wide ?_) | (refine ldga 25 (.tmp 7) rfl rfl ?_; refine ldgb q7 25 _ _ k7.out rfl under_wide rfl info_wide ?_))
        go_meet
        exact ⟨rfl, k3.out, k4.out, k5.out, k7.out, kW⟩
    case rest =>
      clear k3 k4 k5 k7 kW
      obtain ⟨rfl, k3, k4, k5, k7, kW⟩ := hcut
      go_wp2_with (first | (refine lda 25 (.tmp 3) rfl rfl ?_; refine ldb q3 25 _ _ k3.out rfl under_wide rfl info_wide ?_) | (refine lda 25 (.tmp 4) rfl rfl ?_; refine ldb q4 25 _ _ k4.out rfl under_wide rfl info_wide ?_) | (refine lda 25 (.tmp 5) rfl rfl ?_; refine ldb q5 25 _ _ k5.out rfl under_wide rfl info_wide ?_) | (refine lda 25 (.tmp 7) rfl rfl ?_; refine ldb q7 25 _ _ k7.out rfl under_wide rfl info_wide ?_) | (refine ldga 25 (.tmp 3) rfl rfl ?_; refine ldgb q3 25 _ _ k3.out rfl under_wide rfl info_wide ?_) | (refine ldga 25 (.tmp 4) rfl rfl ?_; refine ldgb q4 25 _ _ k4.out rfl under_wide rfl info_wide ?_) | (refine ldga 25 (.tmp 5) rfl rfl ?_; refine ldgb q5 25 _ _ k5.out rfl under_wide rfl info_wide ?_) | (refine ldga 25 (.tmp 7) rfl rfl ?_; refine ldgb q7 25 _ _ k7.out rfl under_wide rfl info_wide ?_))
      refine (cda _).mono ?_
      rintro e wc13 ⟨rfl, hb⟩
      replace k3 := Lib.hid (k3.out.below hb)
      replace k4 := Lib.hid (k4.out.below hb)
      replace k5 := Lib.hid (k5.out.below hb)
      replace k7 := Lib.hid (k7.out.below hb)
      replace kW := kW.trans (hb.mono kW.size)
      clear hb
      have l3 := k3.out.lt
      have l4 := k4.out.lt
      have l5 := k5.out.lt
      have l7 := k7.out.lt
      have z8 : Hid (Blk ((wc13.alloc (.cells wid0 25)).alloc (.cells wid0 25)) (wc13.heap.size) 25 wid0) := ((Blk.new _ _ _ : Blk (wc13.alloc (.cells wid0 25)) wc13.heap.size 25 wid0).old _)
      have z9 : Hid (Blk (((wc13.alloc (.cells wid0 25)).alloc (.cells wid0 25)).setRow (wc13.heap.size) (widL SA NA)) (wc13.heap.size + 1) 25 wid0) := ((Blk.newAt (by simp) _ _).rowOther (k := wc13.heap.size) (by omega) (widL SA NA))
      have k8 : Hid (Blk ((((wc13.alloc (.cells wid0 25)).alloc (.cells wid0 25)).setRow (wc13.heap.size) (widL SA NA)).setRow (wc13.heap.size + 1) (widL false 0)) (wc13.heap.size) 25 (widL SA NA)) := ((z8.out.row (widL SA NA)).rowOther (k := wc13.heap.size + 1) (by omega) (widL false 0))
      have k9 : Hid (Blk ((((wc13.alloc (.cells wid0 25)).alloc (.cells wid0 25)).setRow (wc13.heap.size) (widL SA NA)).setRow (wc13.heap.size + 1) (widL false 0)) (wc13.heap.size + 1) 25 (widL false 0)) := (z9.out.row (widL false 0))
      replace k3 := Lib.hid ((((k3.out.old (.cells wid0 25)).old (.cells wid0 25)).rowOther (k := wc13.heap.size) (by omega) (widL SA NA)).rowOther (k := wc13.heap.size + 1) (by omega) (widL false 0))
      replace k4 := Lib.hid ((((k4.out.old (.cells wid0 25)).old (.cells wid0 25)).rowOther (k := wc13.heap.size) (by omega) (widL SA NA)).rowOther (k := wc13.heap.size + 1) (by omega) (widL false 0))
      replace k5 := Lib.hid ((((k5.out.old (.cells wid0 25)).old (.cells wid0 25)).rowOther (k := wc13.heap.size) (by omega) (widL SA NA)).rowOther (k := wc13.heap.size + 1) (by omega) (widL false 0))
      replace k7 := Lib.hid ((((k7.out.old (.cells wid0 25)).old (.cells wid0 25)).rowOther (k := wc13.heap.size) (by omega) (widL SA NA)).rowOther (k := wc13.heap.size + 1) (by omega) (widL false 0))
      replace kW := (below_row (below_row ((kW.alloc (by first | exact kW.size | (simp; have := kW.size; omega)) (.cells wid0 25)).alloc (by first | exact kW.size | (simp; have := kW.size; omega)) (.cells wid0 25)) (g := wc13.heap.size) (by have := kW.size; omega) (widL SA NA)) (g := wc13.heap.size + 1) (by have := kW.size; omega) (widL false 0))
      go_wp2_with (first | (refine sta 25 (.tmp 8) (.tmp 46) rfl rfl ?_; refine stb (wc13.heap.size) (widL SA NA) 25 _ z8.out rfl rfl info_wide rfl (widF_ones _ (wd NA)) ?_) | (refine sta 25 (.tmp 9) (.tmp 47) rfl rfl ?_; refine stb (wc13.heap.size + 1) (widL false 0) 25 _ z9.out rfl rfl info_wide rfl (widF_ones _ (wd 0)) ?_) | (refine lda 25 (.tmp 3) rfl rfl ?_; refine ldb q3 25 _ _ k3.out rfl under_wide rfl info_wide ?_) | (refine lda 25 (.tmp 4) rfl rfl ?_; refine ldb q4 25 _ _ k4.out rfl under_wide rfl info_wide ?_) | (refine lda 25 (.tmp 5) rfl rfl ?_; refine ldb q5 25 _ _ k5.out rfl under_wide rfl info_wide ?_) | (refine lda 25 (.tmp 7) rfl rfl ?_; refine ldb q7 25 _ _ k7.out rfl under_wide rfl info_wide ?_) | (refine lda 25 (.tmp 8) rfl rfl ?_; refine ldb (wc13.heap.size) 25 _ _ k8.out rfl under_wide rfl info_wide ?_) | (refine lda 25 (.tmp 9) rfl rfl ?_; refine ldb (wc13.heap.size + 1) 25 _ _ k9.out rfl under_wide rfl info_wide ?_) | (refine ldga 25 (.tmp 3) rfl rfl ?_; refine ldgb q3 25 _ _ k3.out rfl under_wide rfl info_wide ?_) | (refine ldga 25 (.tmp 4) rfl rfl ?_; refine ldgb q4 25 _ _ k4.out rfl under_wide rfl info_wide ?_) | (refine ldga 25 (.tmp 5) rfl rfl ?_; refine ldgb q5 25 _ _ k5.out rfl under_wide rfl info_wide ?_) | (refine ldga 25 (.tmp 7) rfl rfl ?_; refine ldgb q7 25 _ _ k7.out rfl under_wide rfl info_wide ?_) | (refine ldga 25 (.tmp 8) rfl rfl ?_; refine ldgb (wc13.heap.size) 25 _ _ k8.out rfl under_wide rfl info_wide ?_) | (refine ldga 25 (.tmp 9) rfl rfl ?_; refine ldgb (wc13.heap.size + 1) 25 _ _ k9.out rfl under_wide rfl info_wide ?_))
      clear z8 z9 l3 l4 l5 l7
      generalize wc13.heap.size + 1 = q9 at k3 k4 k5 k7 k8 k9 kW ⊢
      generalize wc13.heap.size = q8 at k3 k4 k5 k7 k8 k9 kW ⊢
      generalize World.setRow _ _ _ = wa14 at k3 k4 k5 k7 k8 k9 kW ⊢
      refine (cdb _).mono ?_
      rintro e wc15 ⟨rfl, hb⟩
      replace k3 := Lib.hid (k3.out.below hb)
      replace k4 := Lib.hid (k4.out.below hb)
      replace k5 := Lib.hid (k5.out.below hb)
      replace k7 := Lib.hid (k7.out.below hb)
      replace k8 := Lib.hid (k8.out.below hb)
      replace k9 := Lib.hid (k9.out.below hb)
      replace kW := kW.trans (hb.mono kW.size)
      clear hb
      have l3 := k3.out.lt
      have l4 := k4.out.lt
      have l5 := k5.out.lt
      have l7 := k7.out.lt
      have l8 := k8.out.lt
      have l9 := k9.out.lt
      have z11 : Hid (Blk ((wc15.alloc (.cells wid0 25)).alloc (.cells wid0 25)) (wc15.heap.size) 25 wid0) := ((Blk.new _ _ _ : Blk (wc15.alloc (.cells wid0 25)) wc15.heap.size 25 wid0).old _)
      have z12 : Hid (Blk (((wc15.alloc (.cells wid0 25)).alloc (.cells wid0 25)).setRow (wc15.heap.size) (widL SB NB)) (wc15.heap.size + 1) 25 wid0) := ((Blk.newAt (by simp) _ _).rowOther (k := wc15.heap.size) (by omega) (widL SB NB))
      have k11 : Hid (Blk ((((wc15.alloc (.cells wid0 25)).alloc (.cells wid0 25)).setRow (wc15.heap.size) (widL SB NB)).setRow (wc15.heap.size + 1) (widL false 0)) (wc15.heap.size) 25 (widL SB NB)) := ((z11.out.row (widL SB NB)).rowOther (k := wc15.heap.size + 1) (by omega) (widL false 0))
      have k12 : Hid (Blk ((((wc15.alloc (.cells wid0 25)).alloc (.cells wid0 25)).setRow (wc15.heap.size) (widL SB NB)).setRow (wc15.heap.size + 1) (widL false 0)) (wc15.heap.size + 1) 25 (widL false 0)) := (z12.out.row (widL false 0))
      replace k3 := Lib.hid ((((k3.out.old (.cells wid0 25)).old (.cells wid0 25)).rowOther (k := wc15.heap.size) (by omega) (widL SB NB)).rowOther (k := wc15.heap.size + 1) (by omega) (widL false 0))
      replace k4 := Lib.hid ((((k4.out.old (.cells wid0 25)).old (.cells wid0 25)).rowOther (k := wc15.heap.size) (by omega) (widL SB NB)).rowOther (k := wc15.heap.size + 1) (by omega) (widL false 0))
      replace k5 := Lib.hid ((((k5.out.old (.cells wid0 25)).old (.cells wid0 25)).rowOther (k := wc15.heap.size) (by omega) (widL SB NB)).rowOther (k := wc15.heap.size + 1) (by omega) (widL false 0))
      replace k7 := Lib.hid ((((k7.out.old (.cells wid0 25)).old (.cells wid0 25)).rowOther (k := wc15.heap.size) (by omega) (widL SB NB)).rowOther (k := wc15.heap.size + 1) (by omega) (widL false 0))
      replace k8 := Lib.hid ((((k8.out.old (.cells wid0 25)).old (.cells wid0 25)).rowOther (k := wc15.heap.size) (by omega) (widL SB NB)).rowOther (k := wc15.heap.size + 1) (by omega) (widL false 0))
      replace k9 := Lib.hid ((((k9.out.old (.cells wid0 25)).old (.cells wid0 25)).rowOther (k := wc15.heap.size) (by omega) (widL SB NB)).rowOther (k := wc15.heap.size + 1) (by omega) (widL false 0))
      replace kW := (below_row (below_row ((kW.alloc (by first | exact kW.size | (simp; have := kW.size; omega)) (.cells wid0 25)).alloc (by first | exact kW.size | (simp; have := kW.size; omega)) (.cells wid0 25)) (g := wc15.heap.size) (by have := kW.size; omega) (widL SB NB)) (g := wc15.heap.size + 1) (by have := kW.size; omega) (widL false 0))
      have c0 := (wide_cells k7.out).1
      go_wp2_with (first | (refine sta 25 (.tmp 11) (.tmp 53) rfl rfl ?_; refine stb (wc15.heap.size) (widL SB NB) 25 _ z11.out rfl rfl info_wide rfl (widF_ones _ (wd NB)) ?_) | (refine sta 25 (.tmp 12) (.tmp 54) rfl rfl ?_; refine stb (wc15.heap.size + 1) (widL false 0) 25 _ z12.out rfl rfl info_wide rfl (widF_ones _ (wd 0)) ?_) | (refine lda 25 (.tmp 3) rfl rfl ?_; refine ldb q3 25 _ _ k3.out rfl under_wide rfl info_wide ?_) | (refine lda 25 (.tmp 4) rfl rfl ?_; refine ldb q4 25 _ _ k4.out rfl under_wide rfl info_wide ?_) | (refine lda 25 (.tmp 5) rfl rfl ?_; refine ldb q5 25 _ _ k5.out rfl under_wide rfl info_wide ?_) | (refine lda 25 (.tmp 7) rfl rfl ?_; refine ldb q7 25 _ _ k7.out rfl under_wide rfl info_wide ?_) | (refine lda 25 (.tmp 8) rfl rfl ?_; refine ldb q8 25 _ _ k8.out rfl under_wide rfl info_wide ?_) | (refine lda 25 (.tmp 9) rfl rfl ?_; refine ldb q9 25 _ _ k9.out rfl under_wide rfl info_wide ?_) | (refine lda 25 (.tmp 11) rfl rfl ?_; refine ldb (wc15.heap.size) 25 _ _ k11.out rfl under_wide rfl info_wide ?_) | (refine lda 25 (.tmp 12) rfl rfl ?_; refine ldb (wc15.heap.size + 1) 25 _ _ k12.out rfl under_wide rfl info_wide ?_) | (refine ldga 25 (.tmp 3) rfl rfl ?_; refine ldgb q3 25 _ _ k3.out rfl under_wide rfl info_wide ?_) | (refine ldga 25 (.tmp 4) rfl rfl ?_; refine ldgb q4 25 _ _ k4.out rfl under_wide rfl info_wide ?_) | (refine ldga 25 (.tmp 5) rfl rfl ?_; refine ldgb q5 25 _ _ k5.out rfl under_wide rfl info_wide ?_) | (refine ldga 25 (.tmp 7) rfl rfl ?_; refine ldgb q7 25 _ _ k7.out rfl under_wide rfl info_wide ?_) | (refine ldga 25 (.tmp 8) rfl rfl ?_; refine ldgb q8 25 _ _ k8.out rfl under_wide rfl info_wide ?_) | (refine ldga 25 (.tmp 9) rfl rfl ?_; refine ldgb q9 25 _ _ k9.out rfl under_wide rfl info_wide ?_) | (refine ldga 25 (.tmp 11) rfl rfl ?_; refine ldgb (wc15.heap.size) 25 _ _ k11.out rfl under_wide rfl info_wide ?_) | (refine ldga 25 (.tmp 12) rfl rfl ?_; refine ldgb (wc15.heap.size + 1) 25 _ _ k12.out rfl under_wide rfl info_wide ?_))
      clear z11 z12 l3 l4 l5 l7 l8 l9
      generalize wc15.heap.size + 1 = q12 at k3 k4 k5 k7 k8 k9 k11 k12 kW ⊢
      generalize wc15.heap.size = q11 at k3 k4 k5 k7 k8 k9 k11 k12 kW ⊢
      generalize World.setRow _ _ _ = wa16 at k3 k4 k5 k7 k8 k9 k11 k12 kW ⊢
      refine (cpc _).mono ?_
      rintro e wc17 ⟨rfl, hb⟩
      replace k3 := Lib.hid (k3.out.below hb)
      replace k4 := Lib.hid (k4.out.below hb)
      replace k5 := Lib.hid (k5.out.below hb)
      replace k7 := Lib.hid (k7.out.below hb)
      replace k8 := Lib.hid (k8.out.below hb)
      replace k9 := Lib.hid (k9.out.below hb)
      replace k11 := Lib.hid (k11.out.below hb)
      replace k12 := Lib.hid (k12.out.below hb)
      replace kW := kW.trans (hb.mono kW.size)
      clear hb
      by_cases hn2 : n2 = 0
      · subst hn2
        rw [sg_zero]
        go_wp2_with (first | (refine lda 25 (.tmp 3) rfl rfl ?_; refine ldb q3 25 _ _ k3.out rfl under_wide rfl info_wide ?_) | (refine lda 25 (.tmp 4) rfl rfl ?_; refine ldb q4 25 _ _ k4.out rfl under_wide rfl info_wide ?_) | (refine lda 25 (.tmp 5) rfl rfl ?_; refine ldb q5 25 _ _ k5.out rfl under_wide rfl info_wide ?_) | (refine lda 25 (.tmp 7) rfl rfl ?_; refine ldb q7 25 _ _ k7.out rfl under_wide rfl info_wide ?_) | (refine lda 25 (.tmp 8) rfl rfl ?_; refine ldb q8 25 _ _ k8.out rfl under_wide rfl info_wide ?_) | (refine lda 25 (.tmp 9) rfl rfl ?_; refine ldb q9 25 _ _ k9.out rfl under_wide rfl info_wide ?_) | (refine lda 25 (.tmp 11) rfl rfl ?_; refine ldb q11 25 _ _ k11.out rfl under_wide rfl info_wide ?_) | (refine lda 25 (.tmp 12) rfl rfl ?_; refine ldb q12 25 _ _ k12.out rfl under_wide rfl info_wide ?_) | (refine ldga 25 (.tmp 3) rfl rfl ?_; refine ldgb q3 25 _ _ k3.out rfl under_wide rfl info_wide ?_) | (refine ldga 25 (.tmp 4) rfl rfl ?_; refine ldgb q4 25 _ _ k4.out rfl under_wide rfl info_wide ?_) | (refine ldga 25 (.tmp 5) rfl rfl ?_; refine ldgb q5 25 _ _ k5.out rfl under_wide rfl info_wide ?_) | (refine ldga 25 (.tmp 7) rfl rfl ?_; refine ldgb q7 25 _ _ k7.out rfl under_wide rfl info_wide ?_) | (refine ldga 25 (.tmp 8) rfl rfl ?_; refine ldgb q8 25 _ _ k8.out rfl under_wide rfl info_wide ?_) | (refine ldga 25 (.tmp 9) rfl rfl ?_; refine ldgb q9 25 _ _ k9.out rfl under_wide rfl info_wide ?_) | (refine ldga 25 (.tmp 11) rfl rfl ?_; refine ldgb q11 25 _ _ k11.out rfl under_wide rfl info_wide ?_) | (refine ldga 25 (.tmp 12) rfl rfl ?_; refine ldgb q12 25 _ _ k12.out rfl under_wide rfl info_wide ?_))
        refine (awake_any _).mono ?_
        rintro e wc18 ⟨rfl, hb⟩
        replace k3 := Lib.hid (k3.out.below hb)
        replace k4 := Lib.hid (k4.out.below hb)
        replace k5 := Lib.hid (k5.out.below hb)
        replace k7 := Lib.hid (k7.out.below hb)
        replace k8 := Lib.hid (k8.out.below hb)
        replace k9 := Lib.hid (k9.out.below hb)
        replace k11 := Lib.hid (k11.out.below hb)
        replace k12 := Lib.hid (k12.out.below hb)
        replace kW := kW.trans (hb.mono kW.size)
        clear hb
        go_wp2_with fail
        go_ret
        exact ⟨rfl, kW⟩
      · have e1 := fun wx => eq_zero_ne (sg s2 n2) n2 W2.out hn2 wx
        obtain ⟨qa, ra, da, ia, _, la, pa1, pa2⟩ := divV_int s0 s2 n0 n2 W0.out W2.out hn2
        obtain ⟨qb, rb, db, ib, _, lb, pb1, pb2⟩ := divV_int s1 s2 n1 n2 W1.out W2.out hn2
        obtain ⟨qg, rg, dg, ig, _, lg, pg1, pg2⟩ := divV_int false s2 G n2 HGM.out W2.out hn2
        have cxa := fun w => pdiv_wide s0 s2 n0 n2 w W0.out W2.out
        have cxb := fun w => pdiv_wide s1 s2 n1 n2 w W1.out W2.out
        have cxg := fun w => pdiv_wide false s2 G n2 w HGM.out W2.out
        rw [da] at cxa
        rw [db] at cxb
        rw [dg] at cxg
        have za := rem_zero ia (rem_lt s2 n2 ra pa1 pa2)
        have zb := rem_zero ib (rem_lt s2 n2 rb pb1 pb2)
        have zg := rem_zero ig (rem_lt s2 n2 rg pg1 pg2)
        have tri : ra ≠ 0 ∨ (ra = 0 ∧ rb ≠ 0) ∨ (ra = 0 ∧ rb = 0 ∧ rg = 0) := by
          by_cases h1 : ra = 0
          · by_cases h2 : rb = 0
            · right; right
              refine ⟨h1, h2, zg.2 ?_⟩
              have d1 := Int.natAbs_dvd_natAbs.2 (za.1 h1)
              have d2 := Int.natAbs_dvd_natAbs.2 (zb.1 h2)
              rw [abs_wv, abs_wv] at d1 d2
              refine Int.natAbs_dvd_natAbs.1 ?_
              rw [abs_wv, abs_wv, HG.out]
              exact Nat.dvd_gcd d1 d2
            · right; left; exact ⟨h1, h2⟩
          · left; exact h1
        have TRI := Lib.hid tri
        have za0 := rem_eq ra la
        have zb0 := rem_eq rb lb
        have zg0 := rem_eq rg lg
        have ZA := Lib.hid za0
        have ZB := Lib.hid zb0
        have ZG := Lib.hid zg0
        clear za zb zg tri za0 zb0 zg0 da db dg ia ib ig pa1 pa2 pb1 pb2 pg1 pg2 la lb lg hn2
        generalize cS ra = Sa at *
        generalize cN ra = Na at *
        generalize cS rb = Sb at *
        generalize cN rb = Nb at *
        generalize cS rg = Sg at *
        generalize cN rg = Ng at *
        generalize cS qa = Ta at *
        generalize cN qa = Ma at *
        generalize cS qb = Tb at *
        generalize cN qb = Mb at *
        generalize cS qg = Tg at *
        generalize cN qg = Mg at *
        go_wp2_with (first | (refine lda 25 (.tmp 3) rfl rfl ?_; refine ldb q3 25 _ _ k3.out rfl under_wide rfl info_wide ?_) | (refine lda 25 (.tmp 4) rfl rfl ?_; refine ldb q4 25 _ _ k4.out rfl under_wide rfl info_wide ?_) | (refine lda 25 (.tmp 5) rfl rfl ?_; refine ldb q5 25 _ _ k5.out rfl under_wide rfl info_wide ?_) | (refine lda 25 (.tmp 7) rfl rfl ?_; refine ldb q7 25 _ _ k7.out rfl under_wide rfl info_wide ?_) | (refine lda 25 (.tmp 8) rfl rfl ?_; refine ldb q8 25 _ _ k8.out rfl under_wide rfl info_wide ?_) | (refine lda 25 (.tmp 9) rfl rfl ?_; refine ldb q9 25 _ _ k9.out rfl under_wide rfl info_wide ?_) | (refine lda 25 (.tmp 11) rfl rfl ?_; refine ldb q11 25 _ _ k11.out rfl under_wide rfl info_wide ?_) | (refine lda 25 (.tmp 12) rfl rfl ?_; refine ldb q12 25 _ _ k12.out rfl under_wide rfl info_wide ?_) | (refine ldga 25 (.tmp 3) rfl rfl ?_; refine ldgb q3 25 _ _ k3.out rfl under_wide rfl info_wide ?_) | (refine ldga 25 (.tmp 4) rfl rfl ?_; refine ldgb q4 25 _ _ k4.out rfl under_wide rfl info_wide ?_) | (refine ldga 25 (.tmp 5) rfl rfl ?_; refine ldgb q5 25 _ _ k5.out rfl under_wide rfl info_wide ?_) | (refine ldga 25 (.tmp 7) rfl rfl ?_; refine ldgb q7 25 _ _ k7.out rfl under_wide rfl info_wide ?_) | (refine ldga 25 (.tmp 8) rfl rfl ?_; refine ldgb q8 25 _ _ k8.out rfl under_wide rfl info_wide ?_) | (refine ldga 25 (.tmp 9) rfl rfl ?_; refine ldgb q9 25 _ _ k9.out rfl under_wide rfl info_wide ?_) | (refine ldga 25 (.tmp 11) rfl rfl ?_; refine ldgb q11 25 _ _ k11.out rfl under_wide rfl info_wide ?_) | (refine ldga 25 (.tmp 12) rfl rfl ?_; refine ldgb q12 25 _ _ k12.out rfl under_wide rfl info_wide ?_))
        refine (cxa _).mono ?_
        rintro e wc19 ⟨rfl, hb⟩
        replace k3 := Lib.hid (k3.out.below hb)
        replace k4 := Lib.hid (k4.out.below hb)
        replace k5 := Lib.hid (k5.out.below hb)
        replace k7 := Lib.hid (k7.out.below hb)
        replace k8 := Lib.hid (k8.out.below hb)
        replace k9 := Lib.hid (k9.out.below hb)
        replace k11 := Lib.hid (k11.out.below hb)
        replace k12 := Lib.hid (k12.out.below hb)
        replace kW := kW.trans (hb.mono kW.size)
        clear hb
        have l3 := k3.out.lt
        have l4 := k4.out.lt
        have l5 := k5.out.lt
        have l7 := k7.out.lt
        have l8 := k8.out.lt
        have l9 := k9.out.lt
        have l11 := k11.out.lt
        have l12 := k12.out.lt
        have z14 : Hid (Blk ((wc19.alloc (.cells wid0 25)).alloc (.cells wid0 25)) (wc19.heap.size) 25 wid0) := ((Blk.new _ _ _ : Blk (wc19.alloc (.cells wid0 25)) wc19.heap.size 25 wid0).old _)
        have z15 : Hid (Blk (((wc19.alloc (.cells wid0 25)).alloc (.cells wid0 25)).setRow (wc19.heap.size) (widL Ta Ma)) (wc19.heap.size + 1) 25 wid0) := ((Blk.newAt (by simp) _ _).rowOther (k := wc19.heap.size) (by omega) (widL Ta Ma))
        have k14 : Hid (Blk ((((wc19.alloc (.cells wid0 25)).alloc (.cells wid0 25)).setRow (wc19.heap.size) (widL Ta Ma)).setRow (wc19.heap.size + 1) (widL Sa Na)) (wc19.heap.size) 25 (widL Ta Ma)) := ((z14.out.row (widL Ta Ma)).rowOther (k := wc19.heap.size + 1) (by omega) (widL Sa Na))
        have k15 : Hid (Blk ((((wc19.alloc (.cells wid0 25)).alloc (.cells wid0 25)).setRow (wc19.heap.size) (widL Ta Ma)).setRow (wc19.heap.size + 1) (widL Sa Na)) (wc19.heap.size + 1) 25 (widL Sa Na)) := (z15.out.row (widL Sa Na))
        replace k3 := Lib.hid ((((k3.out.old (.cells wid0 25)).old (.cells wid0 25)).rowOther (k := wc19.heap.size) (by omega) (widL Ta Ma)).rowOther (k := wc19.heap.size + 1) (by omega) (widL Sa Na))
        replace k4 := Lib.hid ((((k4.out.old (.cells wid0 25)).old (.cells wid0 25)).rowOther (k := wc19.heap.size) (by omega) (widL Ta Ma)).rowOther (k := wc19.heap.size + 1) (by omega) (widL Sa Na))
        replace k5 := Lib.hid ((((k5.out.old (.cells wid0 25)).old (.cells wid0 25)).rowOther (k := wc19.heap.size) (by omega) (widL Ta Ma)).rowOther (k := wc19.heap.size + 1) (by omega) (widL Sa Na))
        replace k7 := Lib.hid ((((k7.out.old (.cells wid0 25)).old (.cells wid0 25)).rowOther (k := wc19.heap.size) (by omega) (widL Ta Ma)).rowOther (k := wc19.heap.size + 1) (by omega) (widL Sa Na))
        replace k8 := Lib.hid ((((k8.out.old (.cells wid0 25)).old (.cells wid0 25)).rowOther (k := wc19.heap.size) (by omega) (widL Ta Ma)).rowOther (k := wc19.heap.size + 1) (by omega) (widL Sa Na))
        replace k9 := Lib.hid ((((k9.out.old (.cells wid0 25)).old (.cells wid0 25)).rowOther (k := wc19.heap.size) (by omega) (widL Ta Ma)).rowOther (k := wc19.heap.size + 1) (by omega) (widL Sa Na))
        replace k11 := Lib.hid ((((k11.out.old (.cells wid0 25)).old (.cells wid0 25)).rowOther (k := wc19.heap.size) (by omega) (widL Ta Ma)).rowOther (k := wc19.heap.size + 1) (by omega) (widL Sa Na))
        replace k12 := Lib.hid ((((k12.out.old (.cells wid0 25)).old (.cells wid0 25)).rowOther (k := wc19.heap.size) (by omega) (widL Ta Ma)).rowOther (k := wc19.heap.size + 1) (by omega) (widL Sa Na))
        replace kW := (below_row (below_row ((kW.alloc (by first | exact kW.size | (simp; have := kW.size; omega)) (.cells wid0 25)).alloc (by first | exact kW.size | (simp; have := kW.size; omega)) (.cells wid0 25)) (g := wc19.heap.size) (by have := kW.size; omega) (widL Ta Ma)) (g := wc19.heap.size + 1) (by have := kW.size; omega) (widL Sa Na))
        go_wp2_with (first | (refine sta 25 (.tmp 14) (.tmp 85) rfl rfl ?_; refine stb (wc19.heap.size) (widL Ta Ma) 25 _ z14.out rfl rfl info_wide rfl (widF_ones _ (wd Ma)) ?_) | (refine sta 25 (.tmp 15) (.tmp 86) rfl rfl ?_; refine stb (wc19.heap.size + 1) (widL Sa Na) 25 _ z15.out rfl rfl info_wide rfl (widF_ones _ (wd Na)) ?_) | (refine lda 25 (.tmp 3) rfl rfl ?_; refine ldb q3 25 _ _ k3.out rfl under_wide rfl info_wide ?_) | (refine lda 25 (.tmp 4) rfl rfl ?_; refine ldb q4 25 _ _ k4.out rfl under_wide rfl info_wide ?_) | (refine lda 25 (.tmp 5) rfl rfl ?_; refine ldb q5 25 _ _ k5.out rfl under_wide rfl info_wide ?_) | (refine lda 25 (.tmp 7) rfl rfl ?_; refine ldb q7 25 _ _ k7.out rfl under_wide rfl info_wide ?_) | (refine lda 25 (.tmp 8) rfl rfl ?_; refine ldb q8 25 _ _ k8.out rfl under_wide rfl info_wide ?_) | (refine lda 25 (.tmp 9) rfl rfl ?_; refine ldb q9 25 _ _ k9.out rfl under_wide rfl info_wide ?_) | (refine lda 25 (.tmp 11) rfl rfl ?_; refine ldb q11 25 _ _ k11.out rfl under_wide rfl info_wide ?_) | (refine lda 25 (.tmp 12) rfl rfl ?_; refine ldb q12 25 _ _ k12.out rfl under_wide rfl info_wide ?_) | (refine lda 25 (.tmp 14) rfl rfl ?_; refine ldb (wc19.heap.size) 25 _ _ k14.out rfl under_wide rfl info_wide ?_) | (refine lda 25 (.tmp 15) rfl rfl ?_; refine ldb (wc19.heap.size + 1) 25 _ _ k15.out rfl under_wide rfl info_wide ?_) | (refine ldga 25 (.tmp 3) rfl rfl ?_; refine ldgb q3 25 _ _ k3.out rfl under_wide rfl info_wide ?_) | (refine ldga 25 (.tmp 4) rfl rfl ?_; refine ldgb q4 25 _ _ k4.out rfl under_wide rfl info_wide ?_) | (refine ldga 25 (.tmp 5) rfl rfl ?_; refine ldgb q5 25 _ _ k5.out rfl under_wide rfl info_wide ?_) | (refine ldga 25 (.tmp 7) rfl rfl ?_; refine ldgb q7 25 _ _ k7.out rfl under_wide rfl info_wide ?_) | (refine ldga 25 (.tmp 8) rfl rfl ?_; refine ldgb q8 25 _ _ k8.out rfl under_wide rfl info_wide ?_) | (refine ldga 25 (.tmp 9) rfl rfl ?_; refine ldgb q9 25 _ _ k9.out rfl under_wide rfl info_wide ?_) | (refine ldga 25 (.tmp 11) rfl rfl ?_; refine ldgb q11 25 _ _ k11.out rfl under_wide rfl info_wide ?_) | (refine ldga 25 (.tmp 12) rfl rfl ?_; refine ldgb q12 25 _ _ k12.out rfl under_wide rfl info_wide ?_) | (refine ldga 25 (.tmp 14) rfl rfl ?_; refine ldgb (wc19.heap.size) 25 _ _ k14.out rfl under_wide rfl info_wide ?_) | (refine ldga 25 (.tmp 15) rfl rfl ?_; refine ldgb (wc19.heap.size + 1) 25 _ _ k15.out rfl under_wide rfl info_wide ?_))
        clear z14 z15 l3 l4 l5 l7 l8 l9 l11 l12
        generalize wc19.heap.size + 1 = q15 at k3 k4 k5 k7 k8 k9 k11 k12 k14 k15 kW ⊢
        generalize wc19.heap.size = q14 at k3 k4 k5 k7 k8 k9 k11 k12 k14 k15 kW ⊢
        generalize World.setRow _ _ _ = wa20 at k3 k4 k5 k7 k8 k9 k11 k12 k14 k15 kW ⊢
        refine (cxb _).mono ?_
        rintro e wc21 ⟨rfl, hb⟩
        replace k3 := Lib.hid (k3.out.below hb)
        replace k4 := Lib.hid (k4.out.below hb)
        replace k5 := Lib.hid (k5.out.below hb)
        replace k7 := Lib.hid (k7.out.below hb)
        replace k8 := Lib.hid (k8.out.below hb)
        replace k9 := Lib.hid (k9.out.below hb)
        replace k11 := Lib.hid (k11.out.below hb)
        replace k12 := Lib.hid (k12.out.below hb)
        replace k14 := Lib.hid (k14.out.below hb)
        replace k15 := Lib.hid (k15.out.below hb)
        replace kW := kW.trans (hb.mono kW.size)
        clear hb
        have l3 := k3.out.lt
        have l4 := k4.out.lt
        have l5 := k5.out.lt
        have l7 := k7.out.lt
        have l8 := k8.out.lt
        have l9 := k9.out.lt
        have l11 := k11.out.lt
        have l12 := k12.out.lt
        have l14 := k14.out.lt
        have l15 := k15.out.lt
        have z17 : Hid (Blk ((wc21.alloc (.cells wid0 25)).alloc (.cells wid0 25)) (wc21.heap.size) 25 wid0) := ((Blk.new _ _ _ : Blk (wc21.alloc (.cells wid0 25)) wc21.heap.size 25 wid0).old _)
        have z18 : Hid (Blk (((wc21.alloc (.cells wid0 25)).alloc (.cells wid0 25)).setRow (wc21.heap.size) (widL Tb Mb)) (wc21.heap.size + 1) 25 wid0) := ((Blk.newAt (by simp) _ _).rowOther (k := wc21.heap.size) (by omega) (widL Tb Mb))
        have k17 : Hid (Blk ((((wc21.alloc (.cells wid0 25)).alloc (.cells wid0 25)).setRow (wc21.heap.size) (widL Tb Mb)).setRow (wc21.heap.size + 1) (widL Sb Nb)) (wc21.heap.size) 25 (widL Tb Mb)) := ((z17.out.row (widL Tb Mb)).rowOther (k := wc21.heap.size + 1) (by omega) (widL Sb Nb))
        have k18 : Hid (Blk ((((wc21.alloc (.cells wid0 25)).alloc (.cells wid0 25)).setRow (wc21.heap.size) (widL Tb Mb)).setRow (wc21.heap.size + 1) (widL Sb Nb)) (wc21.heap.size + 1) 25 (widL Sb Nb)) := (z18.out.row (widL Sb Nb))
        replace k3 := Lib.hid ((((k3.out.old (.cells wid0 25)).old (.cells wid0 25)).rowOther (k := wc21.heap.size) (by omega) (widL Tb Mb)).rowOther (k := wc21.heap.size + 1) (by omega) (widL Sb Nb))
        replace k4 := Lib.hid ((((k4.out.old (.cells wid0 25)).old (.cells wid0 25)).rowOther (k := wc21.heap.size) (by omega) (widL Tb Mb)).rowOther (k := wc21.heap.size + 1) (by omega) (widL Sb Nb))
        replace k5 := Lib.hid ((((k5.out.old (.cells wid0 25)).old (.cells wid0 25)).rowOther (k := wc21.heap.size) (by omega) (widL Tb Mb)).rowOther (k := wc21.heap.size + 1) (by omega) (widL Sb Nb))
        replace k7 := Lib.hid ((((k7.out.old (.cells wid0 25)).old (.cells wid0 25)).rowOther (k := wc21.heap.size) (by omega) (widL Tb Mb)).rowOther (k := wc21.heap.size + 1) (by omega) (widL Sb Nb))
        replace k8 := Lib.hid ((((k8.out.old (.cells wid0 25)).old (.cells wid0 25)).rowOther (k := wc21.heap.size) (by omega) (widL Tb Mb)).rowOther (k := wc21.heap.size + 1) (by omega) (widL Sb Nb))
        replace k9 := Lib.hid ((((k9.out.old (.cells wid0 25)).old (.cells wid0 25)).rowOther (k := wc21.heap.size) (by omega) (widL Tb Mb)).rowOther (k := wc21.heap.size + 1) (by omega) (widL Sb Nb))
        replace k11 := Lib.hid ((((k11.out.old (.cells wid0 25)).old (.cells wid0 25)).rowOther (k := wc21.heap.size) (by omega) (widL Tb Mb)).rowOther (k := wc21.heap.size + 1) (by omega) (widL Sb Nb))
        replace k12 := Lib.hid ((((k12.out.old (.cells wid0 25)).old (.cells wid0 25)).rowOther (k := wc21.heap.size) (by omega) (widL Tb Mb)).rowOther (k := wc21.heap.size + 1) (by omega) (widL Sb Nb))
        replace k14 := Lib.hid ((((k14.out.old (.cells wid0 25)).old (.cells wid0 25)).rowOther (k := wc21.heap.size) (by omega) (widL Tb Mb)).rowOther (k := wc21.heap.size + 1) (by omega) (widL Sb Nb))
        replace k15 := Lib.hid ((((k15.out.old (.cells wid0 25)).old (.cells wid0 25)).rowOther (k := wc21.heap.size) (by omega) (widL Tb Mb)).rowOther (k := wc21.heap.size + 1) (by omega) (widL Sb Nb))
        replace kW := (below_row (below_row ((kW.alloc (by first | exact kW.size | (simp; have := kW.size; omega)) (.cells wid0 25)).alloc (by first | exact kW.size | (simp; have := kW.size; omega)) (.cells wid0 25)) (g := wc21.heap.size) (by have := kW.size; omega) (widL Tb Mb)) (g := wc21.heap.size + 1) (by have := kW.size; omega) (widL Sb Nb))
        go_wp2_with (first | (refine sta 25 (.tmp 17) (.tmp 92) rfl rfl ?_; refine stb (wc21.heap.size) (widL Tb Mb) 25 _ z17.out rfl rfl info_wide rfl (widF_ones _ (wd Mb)) ?_) | (refine sta 25 (.tmp 18) (.tmp 93) rfl rfl ?_; refine stb (wc21.heap.size + 1) (widL Sb Nb) 25 _ z18.out rfl rfl info_wide rfl (widF_ones _ (wd Nb)) ?_) | (refine lda 25 (.tmp 3) rfl rfl ?_; refine ldb q3 25 _ _ k3.out rfl under_wide rfl info_wide ?_) | (refine lda 25 (.tmp 4) rfl rfl ?_; refine ldb q4 25 _ _ k4.out rfl under_wide rfl info_wide ?_) | (refine lda 25 (.tmp 5) rfl rfl ?_; refine ldb q5 25 _ _ k5.out rfl under_wide rfl info_wide ?_) | (refine lda 25 (.tmp 7) rfl rfl ?_; refine ldb q7 25 _ _ k7.out rfl under_wide rfl info_wide ?_) | (refine lda 25 (.tmp 8) rfl rfl ?_; refine ldb q8 25 _ _ k8.out rfl under_wide rfl info_wide ?_) | (refine lda 25 (.tmp 9) rfl rfl ?_; refine ldb q9 25 _ _ k9.out rfl under_wide rfl info_wide ?_) | (refine lda 25 (.tmp 11) rfl rfl ?_; refine ldb q11 25 _ _ k11.out rfl under_wide rfl info_wide ?_) | (refine lda 25 (.tmp 12) rfl rfl ?_; refine ldb q12 25 _ _ k12.out rfl under_wide rfl info_wide ?_) | (refine lda 25 (.tmp 14) rfl rfl ?_; refine ldb q14 25 _ _ k14.out rfl under_wide rfl info_wide ?_) | (refine lda 25 (.tmp 15) rfl rfl ?_; refine ldb q15 25 _ _ k15.out rfl under_wide rfl info_wide ?_) | (refine lda 25 (.tmp 17) rfl rfl ?_; refine ldb (wc21.heap.size) 25 _ _ k17.out rfl under_wide rfl info_wide ?_) | (refine lda 25 (.tmp 18) rfl rfl ?_; refine ldb (wc21.heap.size + 1) 25 _ _ k18.out rfl under_wide rfl info_wide ?_) | (refine ldga 25 (.tmp 3) rfl rfl ?_; refine ldgb q3 25 _ _ k3.out rfl under_wide rfl info_wide ?_) | (refine ldga 25 (.tmp 4) rfl rfl ?_; refine ldgb q4 25 _ _ k4.out rfl under_wide rfl info_wide ?_) | (refine ldga 25 (.tmp 5) rfl rfl ?_; refine ldgb q5 25 _ _ k5.out rfl under_wide rfl info_wide ?_) | (refine ldga 25 (.tmp 7) rfl rfl ?_; refine ldgb q7 25 _ _ k7.out rfl under_wide rfl info_wide ?_) | (refine ldga 25 (.tmp 8) rfl rfl ?_; refine ldgb q8 25 _ _ k8.out rfl under_wide rfl info_wide ?_) | (refine ldga 25 (.tmp 9) rfl rfl ?_; refine ldgb q9 25 _ _ k9.out rfl under_wide rfl info_wide ?_) | (refine ldga 25 (.tmp 11) rfl rfl ?_; refine ldgb q11 25 _ _ k11.out rfl under_wide rfl info_wide ?_) | (refine ldga 25 (.tmp 12) rfl rfl ?_; refine ldgb q12 25 _ _ k12.out rfl under_wide rfl info_wide ?_) | (refine ldga 25 (.tmp 14) rfl rfl ?_; refine ldgb q14 25 _ _ k14.out rfl under_wide rfl info_wide ?_) | (refine ldga 25 (.tmp 15) rfl rfl ?_; refine ldgb q15 25 _ _ k15.out rfl under_wide rfl info_wide ?_) | (refine ldga 25 (.tmp 17) rfl rfl ?_; refine ldgb (wc21.heap.size) 25 _ _ k17.out rfl under_wide rfl info_wide ?_) | (refine ldga 25 (.tmp 18) rfl rfl ?_; refine ldgb (wc21.heap.size + 1) 25 _ _ k18.out rfl under_wide rfl info_wide ?_))
        clear z17 z18 l3 l4 l5 l7 l8 l9 l11 l12 l14 l15
        generalize wc21.heap.size + 1 = q18 at k3 k4 k5 k7 k8 k9 k11 k12 k14 k15 k17 k18 kW ⊢
        generalize wc21.heap.size = q17 at k3 k4 k5 k7 k8 k9 k11 k12 k14 k15 k17 k18 kW ⊢
        generalize World.setRow _ _ _ = wa22 at k3 k4 k5 k7 k8 k9 k11 k12 k14 k15 k17 k18 kW ⊢
        refine (cxg _).mono ?_
        rintro e wc23 ⟨rfl, hb⟩
        replace k3 := Lib.hid (k3.out.below hb)
        replace k4 := Lib.hid (k4.out.below hb)
        replace k5 := Lib.hid (k5.out.below hb)
        replace k7 := Lib.hid (k7.out.below hb)
        replace k8 := Lib.hid (k8.out.below hb)
        replace k9 := Lib.hid (k9.out.below hb)
        replace k11 := Lib.hid (k11.out.below hb)
        replace k12 := Lib.hid (k12.out.below hb)
        replace k14 := Lib.hid (k14.out.below hb)
        replace k15 := Lib.hid (k15.out.below hb)
        replace k17 := Lib.hid (k17.out.below hb)
        replace k18 := Lib.hid (k18.out.below hb)
        replace kW := kW.trans (hb.mono kW.size)
        clear hb
        rcases TRI.out with h | ⟨h, h2⟩ | ⟨h, h2, h3⟩
        · have x1 := ZA.out.2 h
          clear h
          have l3 := k3.out.lt
          have l4 := k4.out.lt
          have l5 := k5.out.lt
          have l7 := k7.out.lt
          have l8 := k8.out.lt
          have l9 := k9.out.lt
          have l11 := k11.out.lt
          have l12 := k12.out.lt
          have l14 := k14.out.lt
          have l15 := k15.out.lt
          have l17 := k17.out.lt
          have l18 := k18.out.lt
          have z20 : Hid (Blk ((wc23.alloc (.cells wid0 25)).alloc (.cells wid0 25)) (wc23.heap.size) 25 wid0) := ((Blk.new _ _ _ : Blk (wc23.alloc (.cells wid0 25)) wc23.heap.size 25 wid0).old _)
          have z21 : Hid (Blk (((wc23.alloc (.cells wid0 25)).alloc (.cells wid0 25)).setRow (wc23.heap.size) (widL Tg Mg)) (wc23.heap.size + 1) 25 wid0) := ((Blk.newAt (by simp) _ _).rowOther (k := wc23.heap.size) (by omega) (widL Tg Mg))
          have k20 : Hid (Blk ((((wc23.alloc (.cells wid0 25)).alloc (.cells wid0 25)).setRow (wc23.heap.size) (widL Tg Mg)).setRow (wc23.heap.size + 1) (widL Sg Ng)) (wc23.heap.size) 25 (widL Tg Mg)) := ((z20.out.row (widL Tg Mg)).rowOther (k := wc23.heap.size + 1) (by omega) (widL Sg Ng))
          have k21 : Hid (Blk ((((wc23.alloc (.cells wid0 25)).alloc (.cells wid0 25)).setRow (wc23.heap.size) (widL Tg Mg)).setRow (wc23.heap.size + 1) (widL Sg Ng)) (wc23.heap.size + 1) 25 (widL Sg Ng)) := (z21.out.row (widL Sg Ng))
          replace k3 := Lib.hid ((((k3.out.old (.cells wid0 25)).old (.cells wid0 25)).rowOther (k := wc23.heap.size) (by omega) (widL Tg Mg)).rowOther (k := wc23.heap.size + 1) (by omega) (widL Sg Ng))
          replace k4 := Lib.hid ((((k4.out.old (.cells wid0 25)).old (.cells wid0 25)).rowOther (k := wc23.heap.size) (by omega) (widL Tg Mg)).rowOther (k := wc23.heap.size + 1) (by omega) (widL Sg Ng))
          replace k5 := Lib.hid ((((k5.out.old (.cells wid0 25)).old (.cells wid0 25)).rowOther (k := wc23.heap.size) (by omega) (widL Tg Mg)).rowOther (k := wc23.heap.size + 1) (by omega) (widL Sg Ng))
          replace k7 := Lib.hid ((((k7.out.old (.cells wid0 25)).old (.cells wid0 25)).rowOther (k := wc23.heap.size) (by omega) (widL Tg Mg)).rowOther (k := wc23.heap.size + 1) (by omega) (widL Sg Ng))
          replace k8 := Lib.hid ((((k8.out.old (.cells wid0 25)).old (.cells wid0 25)).rowOther (k := wc23.heap.size) (by omega) (widL Tg Mg)).rowOther (k := wc23.heap.size + 1) (by omega) (widL Sg Ng))
          replace k9 := Lib.hid ((((k9.out.old (.cells wid0 25)).old (.cells wid0 25)).rowOther (k := wc23.heap.size) (by omega) (widL Tg Mg)).rowOther (k := wc23.heap.size + 1) (by omega) (widL Sg Ng))
          replace k11 := Lib.hid ((((k11.out.old (.cells wid0 25)).old (.cells wid0 25)).rowOther (k := wc23.heap.size) (by omega) (widL Tg Mg)).rowOther (k := wc23.heap.size + 1) (by omega) (widL Sg Ng))
          replace k12 := Lib.hid ((((k12.out.old (.cells wid0 25)).old (.cells wid0 25)).rowOther (k := wc23.heap.size) (by omega) (widL Tg Mg)).rowOther (k := wc23.heap.size + 1) (by omega) (widL Sg Ng))
          replace k14 := Lib.hid ((((k14.out.old (.cells wid0 25)).old (.cells wid0 25)).rowOther (k := wc23.heap.size) (by omega) (widL Tg Mg)).rowOther (k := wc23.heap.size + 1) (by omega) (widL Sg Ng))
          replace k15 := Lib.hid ((((k15.out.old (.cells wid0 25)).old (.cells wid0 25)).rowOther (k := wc23.heap.size) (by omega) (widL Tg Mg)).rowOther (k := wc23.heap.size + 1) (by omega) (widL Sg Ng))
          replace k17 := Lib.hid ((((k17.out.old (.cells wid0 25)).old (.cells wid0 25)).rowOther (k := wc23.heap.size) (by omega) (widL Tg Mg)).rowOther (k := wc23.heap.size + 1) (by omega) (widL Sg Ng))
          replace k18 := Lib.hid ((((k18.out.old (.cells wid0 25)).old (.cells wid0 25)).rowOther (k := wc23.heap.size) (by omega) (widL Tg Mg)).rowOther (k := wc23.heap.size + 1) (by omega) (widL Sg Ng))
          replace kW := (below_row (below_row ((kW.alloc (by first | exact kW.size | (simp; have := kW.size; omega)) (.cells wid0 25)).alloc (by first | exact kW.size | (simp; have := kW.size; omega)) (.cells wid0 25)) (g := wc23.heap.size) (by have := kW.size; omega) (widL Tg Mg)) (g := wc23.heap.size + 1) (by have := kW.size; omega) (widL Sg Ng))
          go_wp2_with (first | (refine sta 25 (.tmp 20) (.tmp 99) rfl rfl ?_; refine stb (wc23.heap.size) (widL Tg Mg) 25 _ z20.out rfl rfl info_wide rfl (widF_ones _ (wd Mg)) ?_) | (refine sta 25 (.tmp 21) (.tmp 100) rfl rfl ?_; refine stb (wc23.heap.size + 1) (widL Sg Ng) 25 _ z21.out rfl rfl info_wide rfl (widF_ones _ (wd Ng)) ?_) | (refine lda 25 (.tmp 3) rfl rfl ?_; refine ldb q3 25 _ _ k3.out rfl under_wide rfl info_wide ?_) | (refine lda 25 (.tmp 4) rfl rfl ?_; refine ldb q4 25 _ _ k4.out rfl under_wide rfl info_wide ?_) | (refine lda 25 (.tmp 5) rfl rfl ?_; refine ldb q5 25 _ _ k5.out rfl under_wide rfl info_wide ?_) | (refine lda 25 (.tmp 7) rfl rfl ?_; refine ldb q7 25 _ _ k7.out rfl under_wide rfl info_wide ?_) | (refine lda 25 (.tmp 8) rfl rfl ?_; refine ldb q8 25 _ _ k8.out rfl under_wide rfl info_wide ?_) | (refine lda 25 (.tmp 9) rfl rfl ?_; refine ldb q9 25 _ _ k9.out rfl under_wide rfl info_wide ?_) | (refine lda 25 (.tmp 11) rfl rfl ?_; refine ldb q11 25 _ _ k11.out rfl under_wide rfl info_wide ?_) | (refine lda 25 (.tmp 12) rfl rfl ?_; refine ldb q12 25 _ _ k12.out rfl under_wide rfl info_wide ?_) | (refine lda 25 (.tmp 14) rfl rfl ?_; refine ldb q14 25 _ _ k14.out rfl under_wide rfl info_wide ?_) | (refine lda 25 (.tmp 15) rfl rfl ?_; refine ldb q15 25 _ _ k15.out rfl under_wide rfl info_wide ?_) | (refine lda 25 (.tmp 17) rfl rfl ?_; refine ldb q17 25 _ _ k17.out rfl under_wide rfl info_wide ?_) | (refine lda 25 (.tmp 18) rfl rfl ?_; refine ldb q18 25 _ _ k18.out rfl under_wide rfl info_wide ?_) | (refine lda 25 (.tmp 20) rfl rfl ?_; refine ldb (wc23.heap.size) 25 _ _ k20.out rfl under_wide rfl info_wide ?_) | (refine lda 25 (.tmp 21) rfl rfl ?_; refine ldb (wc23.heap.size + 1) 25 _ _ k21.out rfl under_wide rfl info_wide ?_) | (refine ldga 25 (.tmp 3) rfl rfl ?_; refine ldgb q3 25 _ _ k3.out rfl under_wide rfl info_wide ?_) | (refine ldga 25 (.tmp 4) rfl rfl ?_; refine ldgb q4 25 _ _ k4.out rfl under_wide rfl info_wide ?_) | (refine ldga 25 (.tmp 5) rfl rfl ?_; refine ldgb q5 25 _ _ k5.out rfl under_wide rfl info_wide ?_) | (refine ldga 25 (.tmp 7) rfl rfl ?_; refine ldgb q7 25 _ _ k7.out rfl under_wide rfl info_wide ?_) | (refine ldga 25 (.tmp 8) rfl rfl ?_; refine ldgb q8 25 _ _ k8.out rfl under_wide rfl info_wide ?_) | (refine ldga 25 (.tmp 9) rfl rfl ?_; refine ldgb q9 25 _ _ k9.out rfl under_wide rfl info_wide ?_) | (refine ldga 25 (.tmp 11) rfl rfl ?_; refine ldgb q11 25 _ _ k11.out rfl under_wide rfl info_wide ?_) | (refine ldga 25 (.tmp 12) rfl rfl ?_; refine ldgb q12 25 _ _ k12.out rfl under_wide rfl info_wide ?_) | (refine ldga 25 (.tmp 14) rfl rfl ?_; refine ldgb q14 25 _ _ k14.out rfl under_wide rfl info_wide ?_) | (refine ldga 25 (.tmp 15) rfl rfl ?_; refine ldgb q15 25 _ _ k15.out rfl under_wide rfl info_wide ?_) | (refine ldga 25 (.tmp 17) rfl rfl ?_; refine ldgb q17 25 _ _ k17.out rfl under_wide rfl info_wide ?_) | (refine ldga 25 (.tmp 18) rfl rfl ?_; refine ldgb q18 25 _ _ k18.out rfl under_wide rfl info_wide ?_) | (refine ldga 25 (.tmp 20) rfl rfl ?_; refine ldgb (wc23.heap.size) 25 _ _ k20.out rfl under_wide rfl info_wide ?_) | (refine ldga 25 (.tmp 21) rfl rfl ?_; refine ldgb (wc23.heap.size + 1) 25 _ _ k21.out rfl under_wide rfl info_wide ?_))
          clear z20 z21 l3 l4 l5 l7 l8 l9 l11 l12 l14 l15 l17 l18
          generalize wc23.heap.size + 1 = q21 at k3 k4 k5 k7 k8 k9 k11 k12 k14 k15 k17 k18 k20 k21 kW ⊢
          generalize wc23.heap.size = q20 at k3 k4 k5 k7 k8 k9 k11 k12 k14 k15 k17 k18 k20 k21 kW ⊢
          generalize World.setRow _ _ _ = wa24 at k3 k4 k5 k7 k8 k9 k11 k12 k14 k15 k17 k18 k20 k21 kW ⊢
          refine (awake_any _).mono ?_
          rintro e wc25 ⟨rfl, hb⟩
          replace k3 := Lib.hid (k3.out.below hb)
          replace k4 := Lib.hid (k4.out.below hb)
          replace k5 := Lib.hid (k5.out.below hb)
          replace k7 := Lib.hid (k7.out.below hb)
          replace k8 := Lib.hid (k8.out.below hb)
          replace k9 := Lib.hid (k9.out.below hb)
          replace k11 := Lib.hid (k11.out.below hb)
          replace k12 := Lib.hid (k12.out.below hb)
          replace k14 := Lib.hid (k14.out.below hb)
          replace k15 := Lib.hid (k15.out.below hb)
          replace k17 := Lib.hid (k17.out.below hb)
          replace k18 := Lib.hid (k18.out.below hb)
          replace k20 := Lib.hid (k20.out.below hb)
          replace k21 := Lib.hid (k21.out.below hb)
          replace kW := kW.trans (hb.mono kW.size)
          clear hb
          go_wp2_with fail
          go_ret
          exact ⟨rfl, kW⟩
        · have x1 := ZA.out.1 h
          have x2 := ZB.out.2 h2
          clear h h2
          have l3 := k3.out.lt
          have l4 := k4.out.lt
          have l5 := k5.out.lt
          have l7 := k7.out.lt
          have l8 := k8.out.lt
          have l9 := k9.out.lt
          have l11 := k11.out.lt
          have l12 := k12.out.lt
          have l14 := k14.out.lt
          have l15 := k15.out.lt
          have l17 := k17.out.lt
          have l18 := k18.out.lt
          have z20 : Hid (Blk ((wc23.alloc (.cells wid0 25)).alloc (.cells wid0 25)) (wc23.heap.size) 25 wid0) := ((Blk.new _ _ _ : Blk (wc23.alloc (.cells wid0 25)) wc23.heap.size 25 wid0).old _)
          have z21 : Hid (Blk (((wc23.alloc (.cells wid0 25)).alloc (.cells wid0 25)).setRow (wc23.heap.size) (widL Tg Mg)) (wc23.heap.size + 1) 25 wid0) := ((Blk.newAt (by simp) _ _).rowOther (k := wc23.heap.size) (by omega) (widL Tg Mg))
          have k20 : Hid (Blk ((((wc23.alloc (.cells wid0 25)).alloc (.cells wid0 25)).setRow (wc23.heap.size) (widL Tg Mg)).setRow (wc23.heap.size + 1) (widL Sg Ng)) (wc23.heap.size) 25 (widL Tg Mg)) := ((z20.out.row (widL Tg Mg)).rowOther (k := wc23.heap.size + 1) (by omega) (widL Sg Ng))
          have k21 : Hid (Blk ((((wc23.alloc (.cells wid0 25)).alloc (.cells wid0 25)).setRow (wc23.heap.size) (widL Tg Mg)).setRow (wc23.heap.size + 1) (widL Sg Ng)) (wc23.heap.size + 1) 25 (widL Sg Ng)) := (z21.out.row (widL Sg Ng))
          replace k3 := Lib.hid ((((k3.out.old (.cells wid0 25)).old (.cells wid0 25)).rowOther (k := wc23.heap.size) (by omega) (widL Tg Mg)).rowOther (k := wc23.heap.size + 1) (by omega) (widL Sg Ng))
          replace k4 := Lib.hid ((((k4.out.old (.cells wid0 25)).old (.cells wid0 25)).rowOther (k := wc23.heap.size) (by omega) (widL Tg Mg)).rowOther (k := wc23.heap.size + 1) (by omega) (widL Sg Ng))
          replace k5 := Lib.hid ((((k5.out.old (.cells wid0 25)).old (.cells wid0 25)).rowOther (k := wc23.heap.size) (by omega) (widL Tg Mg)).rowOther (k := wc23.heap.size + 1) (by omega) (widL Sg Ng))
          replace k7 := Lib.hid ((((k7.out.old (.cells wid0 25)).old (.cells wid0 25)).rowOther (k := wc23.heap.size) (by omega) (widL Tg Mg)).rowOther (k := wc23.heap.size + 1) (by omega) (widL Sg Ng))
          replace k8 := Lib.hid ((((k8.out.old (.cells wid0 25)).old (.cells wid0 25)).rowOther (k := wc23.heap.size) (by omega) (widL Tg Mg)).rowOther (k := wc23.heap.size + 1) (by omega) (widL Sg Ng))
          replace k9 := Lib.hid ((((k9.out.old (.cells wid0 25)).old (.cells wid0 25)).rowOther (k := wc23.heap.size) (by omega) (widL Tg Mg)).rowOther (k := wc23.heap.size + 1) (by omega) (widL Sg Ng))
          replace k11 := Lib.hid ((((k11.out.old (.cells wid0 25)).old (.cells wid0 25)).rowOther (k := wc23.heap.size) (by omega) (widL Tg Mg)).rowOther (k := wc23.heap.size + 1) (by omega) (widL Sg Ng))
          replace k12 := Lib.hid ((((k12.out.old (.cells wid0 25)).old (.cells wid0 25)).rowOther (k := wc23.heap.size) (by omega) (widL Tg Mg)).rowOther (k := wc23.heap.size + 1) (by omega) (widL Sg Ng))
          replace k14 := Lib.hid ((((k14.out.old (.cells wid0 25)).old (.cells wid0 25)).rowOther (k := wc23.heap.size) (by omega) (widL Tg Mg)).rowOther (k := wc23.heap.size + 1) (by omega) (widL Sg Ng))
          replace k15 := Lib.hid ((((k15.out.old (.cells wid0 25)).old (.cells wid0 25)).rowOther (k := wc23.heap.size) (by omega) (widL Tg Mg)).rowOther (k := wc23.heap.size + 1) (by omega) (widL Sg Ng))
          replace k17 := Lib.hid ((((k17.out.old (.cells wid0 25)).old (.cells wid0 25)).rowOther (k := wc23.heap.size) (by omega) (widL Tg Mg)).rowOther (k := wc23.heap.size + 1) (by omega) (widL Sg Ng))
          replace k18 := Lib.hid ((((k18.out.old (.cells wid0 25)).old (.cells wid0 25)).rowOther (k := wc23.heap.size) (by omega) (widL Tg Mg)).rowOther (k := wc23.heap.size + 1) (by omega) (widL Sg Ng))
          replace kW := (below_row (below_row ((kW.alloc (by first | exact kW.size | (simp; have := kW.size; omega)) (.cells wid0 25)).alloc (by first | exact kW.size | (simp; have := kW.size; omega)) (.cells wid0 25)) (g := wc23.heap.size) (by have := kW.size; omega) (widL Tg Mg)) (g := wc23.heap.size + 1) (by have := kW.size; omega) (widL Sg Ng))
          go_wp2_with (first | (refine sta 25 (.tmp 20) (.tmp 99) rfl rfl ?_; refine stb (wc23.heap.size) (widL Tg Mg) 25 _ z20.out rfl rfl info_wide rfl (widF_ones _ (wd Mg)) ?_) | (refine sta 25 (.tmp 21) (.tmp 100) rfl rfl ?_; refine stb (wc23.heap.size + 1) (widL Sg Ng) 25 _ z21.out rfl rfl info_wide rfl (widF_ones _ (wd Ng)) ?_) | (refine lda 25 (.tmp 3) rfl rfl ?_; refine ldb q3 25 _ _ k3.out rfl under_wide rfl info_wide ?_) | (refine lda 25 (.tmp 4) rfl rfl ?_; refine ldb q4 25 _ _ k4.out rfl under_wide rfl info_wide ?_) | (refine lda 25 (.tmp 5) rfl rfl ?_; refine ldb q5 25 _ _ k5.out rfl under_wide rfl info_wide ?_) | (refine lda 25 (.tmp 7) rfl rfl ?_; refine ldb q7 25 _ _ k7.out rfl under_wide rfl info_wide ?_) | (refine lda 25 (.tmp 8) rfl rfl ?_; refine ldb q8 25 _ _ k8.out rfl under_wide rfl info_wide ?_) | (refine lda 25 (.tmp 9) rfl rfl ?_; refine ldb q9 25 _ _ k9.out rfl under_wide rfl info_wide ?_) | (refine lda 25 (.tmp 11) rfl rfl ?_; refine ldb q11 25 _ _ k11.out rfl under_wide rfl info_wide ?_) | (refine lda 25 (.tmp 12) rfl rfl ?_; refine ldb q12 25 _ _ k12.out rfl under_wide rfl info_wide ?_) | (refine lda 25 (.tmp 14) rfl rfl ?_; refine ldb q14 25 _ _ k14.out rfl under_wide rfl info_wide ?_) | (refine lda 25 (.tmp 15) rfl rfl ?_; refine ldb q15 25 _ _ k15.out rfl under_wide rfl info_wide ?_) | (refine lda 25 (.tmp 17) rfl rfl ?_; refine ldb q17 25 _ _ k17.out rfl under_wide rfl info_wide ?_) | (refine lda 25 (.tmp 18) rfl rfl ?_; refine ldb q18 25 _ _ k18.out rfl under_wide rfl info_wide ?_) | (refine lda 25 (.tmp 20) rfl rfl ?_; refine ldb (wc23.heap.size) 25 _ _ k20.out rfl under_wide rfl info_wide ?_) | (refine lda 25 (.tmp 21) rfl rfl ?_; refine ldb (wc23.heap.size + 1) 25 _ _ k21.out rfl under_wide rfl info_wide ?_) | (refine ldga 25 (.tmp 3) rfl rfl ?_; refine ldgb q3 25 _ _ k3.out rfl under_wide rfl info_wide ?_) | (refine ldga 25 (.tmp 4) rfl rfl ?_; refine ldgb q4 25 _ _ k4.out rfl under_wide rfl info_wide ?_) | (refine ldga 25 (.tmp 5) rfl rfl ?_; refine ldgb q5 25 _ _ k5.out rfl under_wide rfl info_wide ?_) | (refine ldga 25 (.tmp 7) rfl rfl ?_; refine ldgb q7 25 _ _ k7.out rfl under_wide rfl info_wide ?_) | (refine ldga 25 (.tmp 8) rfl rfl ?_; refine ldgb q8 25 _ _ k8.out rfl under_wide rfl info_wide ?_) | (refine ldga 25 (.tmp 9) rfl rfl ?_; refine ldgb q9 25 _ _ k9.out rfl under_wide rfl info_wide ?_) | (refine ldga 25 (.tmp 11) rfl rfl ?_; refine ldgb q11 25 _ _ k11.out rfl under_wide rfl info_wide ?_) | (refine ldga 25 (.tmp 12) rfl rfl ?_; refine ldgb q12 25 _ _ k12.out rfl under_wide rfl info_wide ?_) | (refine ldga 25 (.tmp 14) rfl rfl ?_; refine ldgb q14 25 _ _ k14.out rfl under_wide rfl info_wide ?_) | (refine ldga 25 (.tmp 15) rfl rfl ?_; refine ldgb q15 25 _ _ k15.out rfl under_wide rfl info_wide ?_) | (refine ldga 25 (.tmp 17) rfl rfl ?_; refine ldgb q17 25 _ _ k17.out rfl under_wide rfl info_wide ?_) | (refine ldga 25 (.tmp 18) rfl rfl ?_; refine ldgb q18 25 _ _ k18.out rfl under_wide rfl info_wide ?_) | (refine ldga 25 (.tmp 20) rfl rfl ?_; refine ldgb (wc23.heap.size) 25 _ _ k20.out rfl under_wide rfl info_wide ?_) | (refine ldga 25 (.tmp 21) rfl rfl ?_; refine ldgb (wc23.heap.size + 1) 25 _ _ k21.out rfl under_wide rfl info_wide ?_))
          clear z20 z21 l3 l4 l5 l7 l8 l9 l11 l12 l14 l15 l17 l18
          generalize wc23.heap.size + 1 = q21 at k3 k4 k5 k7 k8 k9 k11 k12 k14 k15 k17 k18 k20 k21 kW ⊢
          generalize wc23.heap.size = q20 at k3 k4 k5 k7 k8 k9 k11 k12 k14 k15 k17 k18 k20 k21 kW ⊢
          generalize World.setRow _ _ _ = wa26 at k3 k4 k5 k7 k8 k9 k11 k12 k14 k15 k17 k18 k20 k21 kW ⊢
          refine (awake_any _).mono ?_
          rintro e wc27 ⟨rfl, hb⟩
          replace k3 := Lib.hid (k3.out.below hb)
          replace k4 := Lib.hid (k4.out.below hb)
          replace k5 := Lib.hid (k5.out.below hb)
          replace k7 := Lib.hid (k7.out.below hb)
          replace k8 := Lib.hid (k8.out.below hb)
          replace k9 := Lib.hid (k9.out.below hb)
          replace k11 := Lib.hid (k11.out.below hb)
          replace k12 := Lib.hid (k12.out.below hb)
          replace k14 := Lib.hid (k14.out.below hb)
          replace k15 := Lib.hid (k15.out.below hb)
          replace k17 := Lib.hid (k17.out.below hb)
          replace k18 := Lib.hid (k18.out.below hb)
          replace k20 := Lib.hid (k20.out.below hb)
          replace k21 := Lib.hid (k21.out.below hb)
          replace kW := kW.trans (hb.mono kW.size)
          clear hb
          go_wp2_with fail
          go_ret
          exact ⟨rfl, kW⟩
        · have x1 := ZA.out.1 h
          have x2 := ZB.out.1 h2
          have x3 := ZG.out.1 h3
          clear h h2 h3
          have l3 := k3.out.lt
          have l4 := k4.out.lt
          have l5 := k5.out.lt
          have l7 := k7.out.lt
          have l8 := k8.out.lt
          have l9 := k9.out.lt
          have l11 := k11.out.lt
          have l12 := k12.out.lt
          have l14 := k14.out.lt
          have l15 := k15.out.lt
          have l17 := k17.out.lt
          have l18 := k18.out.lt
          have z20 : Hid (Blk ((wc23.alloc (.cells wid0 25)).alloc (.cells wid0 25)) (wc23.heap.size) 25 wid0) := ((Blk.new _ _ _ : Blk (wc23.alloc (.cells wid0 25)) wc23.heap.size 25 wid0).old _)
          have z21 : Hid (Blk (((wc23.alloc (.cells wid0 25)).alloc (.cells wid0 25)).setRow (wc23.heap.size) (widL Tg Mg)) (wc23.heap.size + 1) 25 wid0) := ((Blk.newAt (by simp) _ _).rowOther (k := wc23.heap.size) (by omega) (widL Tg Mg))
          have k20 : Hid (Blk ((((wc23.alloc (.cells wid0 25)).alloc (.cells wid0 25)).setRow (wc23.heap.size) (widL Tg Mg)).setRow (wc23.heap.size + 1) (widL Sg Ng)) (wc23.heap.size) 25 (widL Tg Mg)) := ((z20.out.row (widL Tg Mg)).rowOther (k := wc23.heap.size + 1) (by omega) (widL Sg Ng))
          have k21 : Hid (Blk ((((wc23.alloc (.cells wid0 25)).alloc (.cells wid0 25)).setRow (wc23.heap.size) (widL Tg Mg)).setRow (wc23.heap.size + 1) (widL Sg Ng)) (wc23.heap.size + 1) 25 (widL Sg Ng)) := (z21.out.row (widL Sg Ng))
          replace k3 := Lib.hid ((((k3.out.old (.cells wid0 25)).old (.cells wid0 25)).rowOther (k := wc23.heap.size) (by omega) (widL Tg Mg)).rowOther (k := wc23.heap.size + 1) (by omega) (widL Sg Ng))
          replace k4 := Lib.hid ((((k4.out.old (.cells wid0 25)).old (.cells wid0 25)).rowOther (k := wc23.heap.size) (by omega) (widL Tg Mg)).rowOther (k := wc23.heap.size + 1) (by omega) (widL Sg Ng))
          replace k5 := Lib.hid ((((k5.out.old (.cells wid0 25)).old (.cells wid0 25)).rowOther (k := wc23.heap.size) (by omega) (widL Tg Mg)).rowOther (k := wc23.heap.size + 1) (by omega) (widL Sg Ng))
          replace k7 := Lib.hid ((((k7.out.old (.cells wid0 25)).old (.cells wid0 25)).rowOther (k := wc23.heap.size) (by omega) (widL Tg Mg)).rowOther (k := wc23.heap.size + 1) (by omega) (widL Sg Ng))
          replace k8 := Lib.hid ((((k8.out.old (.cells wid0 25)).old (.cells wid0 25)).rowOther (k := wc23.heap.size) (by omega) (widL Tg Mg)).rowOther (k := wc23.heap.size + 1) (by omega) (widL Sg Ng))
          replace k9 := Lib.hid ((((k9.out.old (.cells wid0 25)).old (.cells wid0 25)).rowOther (k := wc23.heap.size) (by omega) (widL Tg Mg)).rowOther (k := wc23.heap.size + 1) (by omega) (widL Sg Ng))
          replace k11 := Lib.hid ((((k11.out.old (.cells wid0 25)).old (.cells wid0 25)).rowOther (k := wc23.heap.size) (by omega) (widL Tg Mg)).rowOther (k := wc23.heap.size + 1) (by omega) (widL Sg Ng))
          replace k12 := Lib.hid ((((k12.out.old (.cells wid0 25)).old (.cells wid0 25)).rowOther (k := wc23.heap.size) (by omega) (widL Tg Mg)).rowOther (k := wc23.heap.size + 1) (by omega) (widL Sg Ng))
          replace k14 := Lib.hid ((((k14.out.old (.cells wid0 25)).old (.cells wid0 25)).rowOther (k := wc23.heap.size) (by omega) (widL Tg Mg)).rowOther (k := wc23.heap.size + 1) (by omega) (widL Sg Ng))
          replace k15 := Lib.hid ((((k15.out.old (.cells wid0 25)).old (.cells wid0 25)).rowOther (k := wc23.heap.size) (by omega) (widL Tg Mg)).rowOther (k := wc23.heap.size + 1) (by omega) (widL Sg Ng))
          replace k17 := Lib.hid ((((k17.out.old (.cells wid0 25)).old (.cells wid0 25)).rowOther (k := wc23.heap.size) (by omega) (widL Tg Mg)).rowOther (k := wc23.heap.size + 1) (by omega) (widL Sg Ng))
          replace k18 := Lib.hid ((((k18.out.old (.cells wid0 25)).old (.cells wid0 25)).rowOther (k := wc23.heap.size) (by omega) (widL Tg Mg)).rowOther (k := wc23.heap.size + 1) (by omega) (widL Sg Ng))
          replace kW := (below_row (below_row ((kW.alloc (by first | exact kW.size | (simp; have := kW.size; omega)) (.cells wid0 25)).alloc (by first | exact kW.size | (simp; have := kW.size; omega)) (.cells wid0 25)) (g := wc23.heap.size) (by have := kW.size; omega) (widL Tg Mg)) (g := wc23.heap.size + 1) (by have := kW.size; omega) (widL Sg Ng))
          go_wp2_with (first | (refine sta 25 (.tmp 20) (.tmp 99) rfl rfl ?_; refine stb (wc23.heap.size) (widL Tg Mg) 25 _ z20.out rfl rfl info_wide rfl (widF_ones _ (wd Mg)) ?_) | (refine sta 25 (.tmp 21) (.tmp 100) rfl rfl ?_; refine stb (wc23.heap.size + 1) (widL Sg Ng) 25 _ z21.out rfl rfl info_wide rfl (widF_ones _ (wd Ng)) ?_) | (refine lda 25 (.tmp 3) rfl rfl ?_; refine ldb q3 25 _ _ k3.out rfl under_wide rfl info_wide ?_) | (refine lda 25 (.tmp 4) rfl rfl ?_; refine ldb q4 25 _ _ k4.out rfl under_wide rfl info_wide ?_) | (refine lda 25 (.tmp 5) rfl rfl ?_; refine ldb q5 25 _ _ k5.out rfl under_wide rfl info_wide ?_) | (refine lda 25 (.tmp 7) rfl rfl ?_; refine ldb q7 25 _ _ k7.out rfl under_wide rfl info_wide ?_) | (refine lda 25 (.tmp 8) rfl rfl ?_; refine ldb q8 25 _ _ k8.out rfl under_wide rfl info_wide ?_) | (refine lda 25 (.tmp 9) rfl rfl ?_; refine ldb q9 25 _ _ k9.out rfl under_wide rfl info_wide ?_) | (refine lda 25 (.tmp 11) rfl rfl ?_; refine ldb q11 25 _ _ k11.out rfl under_wide rfl info_wide ?_) | (refine lda 25 (.tmp 12) rfl rfl ?_; refine ldb q12 25 _ _ k12.out rfl under_wide rfl info_wide ?_) | (refine lda 25 (.tmp 14) rfl rfl ?_; refine ldb q14 25 _ _ k14.out rfl under_wide rfl info_wide ?_) | (refine lda 25 (.tmp 15) rfl rfl ?_; refine ldb q15 25 _ _ k15.out rfl under_wide rfl info_wide ?_) | (refine lda 25 (.tmp 17) rfl rfl ?_; refine ldb q17 25 _ _ k17.out rfl under_wide rfl info_wide ?_) | (refine lda 25 (.tmp 18) rfl rfl ?_; refine ldb q18 25 _ _ k18.out rfl under_wide rfl info_wide ?_) | (refine lda 25 (.tmp 20) rfl rfl ?_; refine ldb (wc23.heap.size) 25 _ _ k20.out rfl under_wide rfl info_wide ?_) | (refine lda 25 (.tmp 21) rfl rfl ?_; refine ldb (wc23.heap.size + 1) 25 _ _ k21.out rfl under_wide rfl info_wide ?_) | (refine ldga 25 (.tmp 3) rfl rfl ?_; refine ldgb q3 25 _ _ k3.out rfl under_wide rfl info_wide ?_) | (refine ldga 25 (.tmp 4) rfl rfl ?_; refine ldgb q4 25 _ _ k4.out rfl under_wide rfl info_wide ?_) | (refine ldga 25 (.tmp 5) rfl rfl ?_; refine ldgb q5 25 _ _ k5.out rfl under_wide rfl info_wide ?_) | (refine ldga 25 (.tmp 7) rfl rfl ?_; refine ldgb q7 25 _ _ k7.out rfl under_wide rfl info_wide ?_) | (refine ldga 25 (.tmp 8) rfl rfl ?_; refine ldgb q8 25 _ _ k8.out rfl under_wide rfl info_wide ?_) | (refine ldga 25 (.tmp 9) rfl rfl ?_; refine ldgb q9 25 _ _ k9.out rfl under_wide rfl info_wide ?_) | (refine ldga 25 (.tmp 11) rfl rfl ?_; refine ldgb q11 25 _ _ k11.out rfl under_wide rfl info_wide ?_) | (refine ldga 25 (.tmp 12) rfl rfl ?_; refine ldgb q12 25 _ _ k12.out rfl under_wide rfl info_wide ?_) | (refine ldga 25 (.tmp 14) rfl rfl ?_; refine ldgb q14 25 _ _ k14.out rfl under_wide rfl info_wide ?_) | (refine ldga 25 (.tmp 15) rfl rfl ?_; refine ldgb q15 25 _ _ k15.out rfl under_wide rfl info_wide ?_) | (refine ldga 25 (.tmp 17) rfl rfl ?_; refine ldgb q17 25 _ _ k17.out rfl under_wide rfl info_wide ?_) | (refine ldga 25 (.tmp 18) rfl rfl ?_; refine ldgb q18 25 _ _ k18.out rfl under_wide rfl info_wide ?_) | (refine ldga 25 (.tmp 20) rfl rfl ?_; refine ldgb (wc23.heap.size) 25 _ _ k20.out rfl under_wide rfl info_wide ?_) | (refine ldga 25 (.tmp 21) rfl rfl ?_; refine ldgb (wc23.heap.size + 1) 25 _ _ k21.out rfl under_wide rfl info_wide ?_))
          clear z20 z21 l3 l4 l5 l7 l8 l9 l11 l12 l14 l15 l17 l18
          generalize wc23.heap.size + 1 = q21 at k3 k4 k5 k7 k8 k9 k11 k12 k14 k15 k17 k18 k20 k21 kW ⊢
          generalize wc23.heap.size = q20 at k3 k4 k5 k7 k8 k9 k11 k12 k14 k15 k17 k18 k20 k21 kW ⊢
          generalize World.setRow _ _ _ = wa28 at k3 k4 k5 k7 k8 k9 k11 k12 k14 k15 k17 k18 k20 k21 kW ⊢
          refine (awake_any _).mono ?_
          rintro e wc29 ⟨rfl, hb⟩
          replace k3 := Lib.hid (k3.out.below hb)
          replace k4 := Lib.hid (k4.out.below hb)
          replace k5 := Lib.hid (k5.out.below hb)
          replace k7 := Lib.hid (k7.out.below hb)
          replace k8 := Lib.hid (k8.out.below hb)
          replace k9 := Lib.hid (k9.out.below hb)
          replace k11 := Lib.hid (k11.out.below hb)
          replace k12 := Lib.hid (k12.out.below hb)
          replace k14 := Lib.hid (k14.out.below hb)
          replace k15 := Lib.hid (k15.out.below hb)
          replace k17 := Lib.hid (k17.out.below hb)
          replace k18 := Lib.hid (k18.out.below hb)
          replace k20 := Lib.hid (k20.out.below hb)
          replace k21 := Lib.hid (k21.out.below hb)
          replace kW := kW.trans (hb.mono kW.size)
          clear hb
          go_wp2_with fail
          go_ret
          exact ⟨rfl, kW⟩

/-! ### The row's step -/
set_option maxRecDepth 100000 in
theorem lifted (os : Os) (started : os.Started) (H : Type) (enc : TypeId × Value → H) :
    ReturnsInHanded {} Try.checked os 11 .any (Rows.wideDivisorsSpec.pre6 enc Try.prog Try.f11 Rows.wideDivisorsRow.domain false) (Rows.wideDivisorsSpec.post enc Try.prog Try.f11 false true false false) := by
  refine returnsInHanded_of_change (C := Try.checked) own started (by kernel_rfl) Try.func11
    (ChangeSpec.witness6 (enc := enc) (C := Try.checked) false ⟨#[], #[.agg #[.bool false, .int .u64 0, .int .u64 0, .int .u64 0, .int .u64 0], .agg #[.bool false, .int .u64 0, .int .u64 0, .int .u64 0, .int .u64 0], .agg #[.bool false, .int .u64 0, .int .u64 0, .int .u64 0, .int .u64 0]], []⟩ 8 (by kernel_rfl) (by kernel_rfl) (by kernel_rfl) (by kernel_rfl)) ?_
  intro W base args ds gs before hval0 hW hcnd _
  have hval : ∀ (j : Nat) t v, Try.f11.params[j]? = some t → args[j]? = some v → Value.okWide Try.prog W .any base t v := hval0
  have hW' := hW
  obtain ⟨p, q, hA0, hV, rfl, hfz, hnd⟩ := hW
  have hA : DataW.TrodAll enc Try.prog W 0 (fun _ => true) true Try.f11.params.toList args.toList ds p := hA0
  rw [Try.params11] at hA hval
  obtain ⟨v0, vs0, d0, ds0, p0, q0, hargs, rfl, rfl, h0, r0⟩ := trodAll_cons hA
  obtain ⟨v1, vs1, d1, ds1, p1, q1, rfl, rfl, rfl, h1, r1⟩ := trodAll_cons r0
  obtain ⟨v2, vs2, d2, ds2, p2, q2, rfl, rfl, rfl, h2, r2⟩ := trodAll_cons r1
  obtain ⟨rfl, rfl, rfl⟩ := trodAll_nil r2
  obtain rfl : args = #[v0, v1, v2] := by cases args; simp_all
  obtain ⟨rfl, rfl⟩ := trodVars_none hV
  obtain ⟨s0, n0, rfl, rfl, rfl, w0⟩ := open_wide (hval 0 25 v0 rfl rfl) h0
  obtain ⟨s1, n1, rfl, rfl, rfl, w1⟩ := open_wide (hval 1 25 v1 rfl rfl) h1
  obtain ⟨s2, n2, rfl, rfl, rfl, w2⟩ := open_wide (hval 2 25 v2 rfl rfl) h2
  clear hA0 hval0
  simp only [List.append_nil] at hW'
  refine (walk s0 n0 w0 s1 n1 w1 s2 n2 w2 W).mono fun e W' ⟨he, hg⟩ => ?_
  subst he
  exact ⟨_, rfl, _, _, _, [], [], [], hW', (trodAll_cons_mk (shut_bool Try.underlying4 _) trodAll_mk0), (trodAll_cons_mk (shut_wide s0 n0) (trodAll_cons_mk (shut_wide s1 n1) (trodAll_cons_mk (shut_wide s2 n2) trodAll_mk0))), rfl, hg.frame _, fun h => by cases h⟩

theorem over : Rows.wideDivisorsRow.holds Try.pinned (OpenSpec.ofChange Rows.wideDivisorsSpec) :=
  OpenClaim.holds_of_wide 11 Try.f11 rfl rfl rfl rfl rfl rfl rfl ⟨rfl, rfl, rfl, rfl, rfl⟩ rfl rfl rfl rfl rfl (by kernel_rfl) Try.func11 (by kernel_rfl)
    (of_decide_eq_true (by kernel_rfl)) (by unfold Func.isWrapper; first | (rw [if_pos (by decide +kernel)]; kernel_rfl) | (rw [if_neg (by decide +kernel)]; exact ⟨rfl, rfl⟩))
    (fun os started H enc _ => lifted os started H enc)

/-- The statement. -/
theorem proved : Rows.WideDivisorsSaid :=
  over
#print axioms proved
end Go.Proofs.Ytnpgikjahfhaoaa.wideDivisors
