/-
  For any two wide numbers the law WideQuotients (P2.3) returns true and leaves its arguments alone: Div and Gcd agree with the reference, and the chapter's numbers come out. No condition.
-/
import Derived.Test.YtnpgikjahfhaoaaRows
import Derived.WalkKit
import Derived.ProofKit
import Derived.OpenShut
import Derived.ShutString
import Derived.ChangeOld
import Derived.Below
import Derived.Test.YtnpgikjahfhaoaaWOpen
import Derived.Test.YtnpgikjahfhaoaaWLaw
import Derived.Test.YtnpgikjahfhaoaaWPlain
import Derived.Test.YtnpgikjahfhaoaaWRef4
import Derived.Test.YtnpgikjahfhaoaaWRef5
import Derived.Test.YtnpgikjahfhaoaaWRef6
import Derived.Test.YtnpgikjahfhaoaaWRef8
import Derived.Test.YtnpgikjahfhaoaaWRef9
import Derived.Test.YtnpgikjahfhaoaaWRText
import Derived.Test.YtnpgikjahfhaoaaWRParse
import Derived.Test.YtnpgikjahfhaoaaWOps2
import Derived.Test.YtnpgikjahfhaoaaWRef2
namespace Go.Proofs.Ytnpgikjahfhaoaa.wideQuotients
open Go.ChangeShapes Go.WideShapes Go.ChangeAt Go.RowKit Go.Proofs.WM Go.Proofs.WD Go.Proofs.Reg
open Go.ChangeMaps (open_string shut_string)
set_option linter.unusedVariables false

theorem own : ownKnob Try.prog.godebug = none := by kernel_rfl

theorem gcd_small (n m : Nat) (hn : n < M256) (hm : m < M256) : Nat.gcd n m < M256 := by
  rcases Nat.eq_zero_or_pos n with h | h
  · subst h; rw [Nat.gcd_zero_left]; exact hm
  · exact Nat.lt_of_le_of_lt (Nat.gcd_le_left m h) hn

/-! ### The walk: the law returns true, and writes nothing that was there. -/
set_option maxRecDepth 100000 in
set_option maxHeartbeats 4000000 in
theorem walk (s0 : Bool) (n0 : Nat) (w0 : n0 < M256) (s1 : Bool) (n1 : Nat) (w1 : n1 < M256) (w : World) :
    Calls Try.prog 7 #[.agg (widL s0 n0), .agg (widL s1 n1)] w (Gives (.bool true) w) := by
  obtain ⟨S1, N1, T1, M1, E1, h1, l1N, l1M⟩ := divV_ex s0 n0 s1 n1 w0 w1
  have p1 := fun w => pdiv_wide s0 s1 n0 n1 w w0 w1
  have r1 := fun w => rdiv_any s0 s1 n0 n1 w w0 w1
  rw [h1] at p1 r1
  clear h1
  have e1 := fun wx => eq_self S1 N1 l1N wx
  have e2 := fun wx => eq_self T1 M1 l1M wx
  obtain ⟨G, pg, rg, lG⟩ : ∃ G : Nat, (∀ w, Calls Try.prog 32 #[.agg (widL s0 n0), .agg (widL s1 n1)] w (Gives (.agg (widL false G)) w)) ∧ (∀ w, Calls Try.prog 33 #[.agg (widL s0 n0), .agg (widL s1 n1)] w (Gives (.agg (widL false G)) w)) ∧ G < M256 :=
    ⟨_, fun w => pgcd_wide s0 s1 n0 n1 w w0 w1, fun w => rgcd_any s0 s1 n0 n1 w w0 w1, gcd_small n0 n1 w0 w1⟩
  have e3 := fun wx => eq_self false G lG wx
  clear w0 w1 l1N l1M lG
  go_enter Try.func7, Try.ntmps7
  go_upto_region 1 with fail
  have k2 : Hid (Blk ((w.alloc (.cells (widL s0 n0) 25)).alloc (.cells (widL s1 n1) 25)) (w.heap.size) 25 (widL s0 n0)) := (Blk.new _ _ _).old _
  have k3 : Hid (Blk ((w.alloc (.cells (widL s0 n0) 25)).alloc (.cells (widL s1 n1) 25)) (w.heap.size + 1) 25 (widL s1 n1)) := Blk.newAt (by simp) _ _
  have kW : Below w.heap.size w ((w.alloc (.cells (widL s0 n0) 25)).alloc (.cells (widL s1 n1) 25)) := (((Below.refl _ _).alloc (by simp) _).alloc (by simp <;> omega) _)
  obtain ⟨q2, hg2⟩ : ∃ g, g = w.heap.size := ⟨_, rfl⟩
  obtain ⟨q3, hg3⟩ : ∃ g, g = w.heap.size + 1 := ⟨_, rfl⟩
  rw [← hg3] at k3 ⊢
  rw [← hg2] at k2 ⊢
  have hlow : w.heap.size ≤ q2 := by omega
  have o3 : q2 < q3 := by omega
  clear hg2 hg3
  generalize World.alloc _ _ = wa1 at k2 k3 kW ⊢
  go_wp2_with (first | (refine lda 25 (.tmp 2) rfl rfl ?_; refine ldb q2 25 _ _ k2.out rfl under_wide rfl info_wide ?_) | (refine lda 25 (.tmp 3) rfl rfl ?_; refine ldb q3 25 _ _ k3.out rfl under_wide rfl info_wide ?_) | (refine ldga 25 (.tmp 2) rfl rfl ?_; refine ldgb q2 25 _ _ k2.out rfl under_wide rfl info_wide ?_) | (refine ldga 25 (.tmp 3) rfl rfl ?_; refine ldgb q3 25 _ _ k3.out rfl under_wide rfl info_wide ?_))
  refine (p1 _).mono ?_
  rintro e wc2 ⟨rfl, hb⟩
  replace k2 := Lib.hid (k2.out.below hb)
  replace k3 := Lib.hid (k3.out.below hb)
  replace kW := kW.trans (hb.mono kW.size)
  clear hb
  have l2 := k2.out.lt
  have l3 := k3.out.lt
  have z5 : Hid (Blk ((wc2.alloc (.cells wid0 25)).alloc (.cells wid0 25)) (wc2.heap.size) 25 wid0) := ((Blk.new _ _ _ : Blk (wc2.alloc (.cells wid0 25)) wc2.heap.size 25 wid0).old _)
  have z6 : Hid (Blk (((wc2.alloc (.cells wid0 25)).alloc (.cells wid0 25)).setRow (wc2.heap.size) (widL S1 N1)) (wc2.heap.size + 1) 25 wid0) := ((Blk.newAt (by simp) _ _).rowOther (k := wc2.heap.size) (by omega) (widL S1 N1))
  have k5 : Hid (Blk ((((wc2.alloc (.cells wid0 25)).alloc (.cells wid0 25)).setRow (wc2.heap.size) (widL S1 N1)).setRow (wc2.heap.size + 1) (widL T1 M1)) (wc2.heap.size) 25 (widL S1 N1)) := ((z5.out.row (widL S1 N1)).rowOther (k := wc2.heap.size + 1) (by omega) (widL T1 M1))
  have k6 : Hid (Blk ((((wc2.alloc (.cells wid0 25)).alloc (.cells wid0 25)).setRow (wc2.heap.size) (widL S1 N1)).setRow (wc2.heap.size + 1) (widL T1 M1)) (wc2.heap.size + 1) 25 (widL T1 M1)) := (z6.out.row (widL T1 M1))
  replace k2 := Lib.hid ((((k2.out.old (.cells wid0 25)).old (.cells wid0 25)).rowOther (k := wc2.heap.size) (by omega) (widL S1 N1)).rowOther (k := wc2.heap.size + 1) (by omega) (widL T1 M1))
  replace k3 := Lib.hid ((((k3.out.old (.cells wid0 25)).old (.cells wid0 25)).rowOther (k := wc2.heap.size) (by omega) (widL S1 N1)).rowOther (k := wc2.heap.size + 1) (by omega) (widL T1 M1))
  replace kW := (below_row (below_row ((kW.alloc (by first | exact kW.size | (simp; have := kW.size; omega)) (.cells wid0 25)).alloc (by first | exact kW.size | (simp; have := kW.size; omega)) (.cells wid0 25)) (g := wc2.heap.size) (by have := kW.size; omega) (widL S1 N1)) (g := wc2.heap.size + 1) (by have := kW.size; omega) (widL T1 M1))
  go_wp2_with (first | (refine sta 25 (.tmp 5) (.tmp 15) rfl rfl ?_; refine stb (wc2.heap.size) (widL S1 N1) 25 _ z5.out rfl rfl info_wide rfl (widF_ones _ (wd N1)) ?_) | (refine sta 25 (.tmp 6) (.tmp 16) rfl rfl ?_; refine stb (wc2.heap.size + 1) (widL T1 M1) 25 _ z6.out rfl rfl info_wide rfl (widF_ones _ (wd M1)) ?_) | (refine lda 25 (.tmp 2) rfl rfl ?_; refine ldb q2 25 _ _ k2.out rfl under_wide rfl info_wide ?_) | (refine lda 25 (.tmp 3) rfl rfl ?_; refine ldb q3 25 _ _ k3.out rfl under_wide rfl info_wide ?_) | (refine lda 25 (.tmp 5) rfl rfl ?_; refine ldb (wc2.heap.size) 25 _ _ k5.out rfl under_wide rfl info_wide ?_) | (refine lda 25 (.tmp 6) rfl rfl ?_; refine ldb (wc2.heap.size + 1) 25 _ _ k6.out rfl under_wide rfl info_wide ?_) | (refine ldga 25 (.tmp 2) rfl rfl ?_; refine ldgb q2 25 _ _ k2.out rfl under_wide rfl info_wide ?_) | (refine ldga 25 (.tmp 3) rfl rfl ?_; refine ldgb q3 25 _ _ k3.out rfl under_wide rfl info_wide ?_) | (refine ldga 25 (.tmp 5) rfl rfl ?_; refine ldgb (wc2.heap.size) 25 _ _ k5.out rfl under_wide rfl info_wide ?_) | (refine ldga 25 (.tmp 6) rfl rfl ?_; refine ldgb (wc2.heap.size + 1) 25 _ _ k6.out rfl under_wide rfl info_wide ?_))
  clear z5 z6 l2 l3
  generalize wc2.heap.size + 1 = q6 at k2 k3 k5 k6 kW ⊢
  generalize wc2.heap.size = q5 at k2 k3 k5 k6 kW ⊢
  generalize World.setRow _ _ _ = wa3 at k2 k3 k5 k6 kW ⊢
  refine (r1 _).mono ?_
  rintro e wc4 ⟨rfl, hb⟩
  replace k2 := Lib.hid (k2.out.below hb)
  replace k3 := Lib.hid (k3.out.below hb)
  replace k5 := Lib.hid (k5.out.below hb)
  replace k6 := Lib.hid (k6.out.below hb)
  replace kW := kW.trans (hb.mono kW.size)
  clear hb
  have l2 := k2.out.lt
  have l3 := k3.out.lt
  have l5 := k5.out.lt
  have l6 := k6.out.lt
  have z8 : Hid (Blk ((wc4.alloc (.cells wid0 25)).alloc (.cells wid0 25)) (wc4.heap.size) 25 wid0) := ((Blk.new _ _ _ : Blk (wc4.alloc (.cells wid0 25)) wc4.heap.size 25 wid0).old _)
  have z9 : Hid (Blk (((wc4.alloc (.cells wid0 25)).alloc (.cells wid0 25)).setRow (wc4.heap.size) (widL S1 N1)) (wc4.heap.size + 1) 25 wid0) := ((Blk.newAt (by simp) _ _).rowOther (k := wc4.heap.size) (by omega) (widL S1 N1))
  have k8 : Hid (Blk ((((wc4.alloc (.cells wid0 25)).alloc (.cells wid0 25)).setRow (wc4.heap.size) (widL S1 N1)).setRow (wc4.heap.size + 1) (widL T1 M1)) (wc4.heap.size) 25 (widL S1 N1)) := ((z8.out.row (widL S1 N1)).rowOther (k := wc4.heap.size + 1) (by omega) (widL T1 M1))
  have k9 : Hid (Blk ((((wc4.alloc (.cells wid0 25)).alloc (.cells wid0 25)).setRow (wc4.heap.size) (widL S1 N1)).setRow (wc4.heap.size + 1) (widL T1 M1)) (wc4.heap.size + 1) 25 (widL T1 M1)) := (z9.out.row (widL T1 M1))
  replace k2 := Lib.hid ((((k2.out.old (.cells wid0 25)).old (.cells wid0 25)).rowOther (k := wc4.heap.size) (by omega) (widL S1 N1)).rowOther (k := wc4.heap.size + 1) (by omega) (widL T1 M1))
  replace k3 := Lib.hid ((((k3.out.old (.cells wid0 25)).old (.cells wid0 25)).rowOther (k := wc4.heap.size) (by omega) (widL S1 N1)).rowOther (k := wc4.heap.size + 1) (by omega) (widL T1 M1))
  replace k5 := Lib.hid ((((k5.out.old (.cells wid0 25)).old (.cells wid0 25)).rowOther (k := wc4.heap.size) (by omega) (widL S1 N1)).rowOther (k := wc4.heap.size + 1) (by omega) (widL T1 M1))
  replace k6 := Lib.hid ((((k6.out.old (.cells wid0 25)).old (.cells wid0 25)).rowOther (k := wc4.heap.size) (by omega) (widL S1 N1)).rowOther (k := wc4.heap.size + 1) (by omega) (widL T1 M1))
  replace kW := (below_row (below_row ((kW.alloc (by first | exact kW.size | (simp; have := kW.size; omega)) (.cells wid0 25)).alloc (by first | exact kW.size | (simp; have := kW.size; omega)) (.cells wid0 25)) (g := wc4.heap.size) (by have := kW.size; omega) (widL S1 N1)) (g := wc4.heap.size + 1) (by have := kW.size; omega) (widL T1 M1))
  go_wp2_with (first | (refine sta 25 (.tmp 8) (.tmp 22) rfl rfl ?_; refine stb (wc4.heap.size) (widL S1 N1) 25 _ z8.out rfl rfl info_wide rfl (widF_ones _ (wd N1)) ?_) | (refine sta 25 (.tmp 9) (.tmp 23) rfl rfl ?_; refine stb (wc4.heap.size + 1) (widL T1 M1) 25 _ z9.out rfl rfl info_wide rfl (widF_ones _ (wd M1)) ?_) | (refine lda 25 (.tmp 2) rfl rfl ?_; refine ldb q2 25 _ _ k2.out rfl under_wide rfl info_wide ?_) | (refine lda 25 (.tmp 3) rfl rfl ?_; refine ldb q3 25 _ _ k3.out rfl under_wide rfl info_wide ?_) | (refine lda 25 (.tmp 5) rfl rfl ?_; refine ldb q5 25 _ _ k5.out rfl under_wide rfl info_wide ?_) | (refine lda 25 (.tmp 6) rfl rfl ?_; refine ldb q6 25 _ _ k6.out rfl under_wide rfl info_wide ?_) | (refine lda 25 (.tmp 8) rfl rfl ?_; refine ldb (wc4.heap.size) 25 _ _ k8.out rfl under_wide rfl info_wide ?_) | (refine lda 25 (.tmp 9) rfl rfl ?_; refine ldb (wc4.heap.size + 1) 25 _ _ k9.out rfl under_wide rfl info_wide ?_) | (refine ldga 25 (.tmp 2) rfl rfl ?_; refine ldgb q2 25 _ _ k2.out rfl under_wide rfl info_wide ?_) | (refine ldga 25 (.tmp 3) rfl rfl ?_; refine ldgb q3 25 _ _ k3.out rfl under_wide rfl info_wide ?_) | (refine ldga 25 (.tmp 5) rfl rfl ?_; refine ldgb q5 25 _ _ k5.out rfl under_wide rfl info_wide ?_) | (refine ldga 25 (.tmp 6) rfl rfl ?_; refine ldgb q6 25 _ _ k6.out rfl under_wide rfl info_wide ?_) | (refine ldga 25 (.tmp 8) rfl rfl ?_; refine ldgb (wc4.heap.size) 25 _ _ k8.out rfl under_wide rfl info_wide ?_) | (refine ldga 25 (.tmp 9) rfl rfl ?_; refine ldgb (wc4.heap.size + 1) 25 _ _ k9.out rfl under_wide rfl info_wide ?_))
  clear z8 z9 l2 l3 l5 l6
  generalize wc4.heap.size + 1 = q9 at k2 k3 k5 k6 k8 k9 kW ⊢
  generalize wc4.heap.size = q8 at k2 k3 k5 k6 k8 k9 kW ⊢
  generalize World.setRow _ _ _ = wa5 at k2 k3 k5 k6 k8 k9 kW ⊢
  have hG : Keep [(q2, 25, (widL s0 n0)), (q3, 25, (widL s1 n1)), (q5, 25, (widL S1 N1)), (q6, 25, (widL T1 M1)), (q8, 25, (widL S1 N1)), (q9, 25, (widL T1 M1))] q2 25 (widL s0 n0) (widL s0 n0) w wa5.drew := by
    refine ⟨?_, .inl k2.out.drew, kW.drew⟩
    intro k hk
    simp only [List.mem_cons, List.mem_nil_iff, or_false] at hk
    rcases hk with rfl | rfl | rfl | rfl | rfl | rfl
    · exact k2.out.drew
    · exact k3.out.drew
    · exact k5.out.drew
    · exact k6.out.drew
    · exact k8.out.drew
    · exact k9.out.drew
  clear k2 k3 k5 k6 k8 k9 kW
  refine region_kitG (ds := [some 25, some 26, some 27, some 28, some 29, some 30, some 31, some 32, some 33, some 34, some 35, some 36, some 37, some 38, some 39, some 40, some 41, some 42, some 43, some 44, some 45, some 46, some 47, some 48, some 49]) [] [[], [], [0, 1], [2], [], [], [4, 5], [3, 6], [7], [], [], [9, 10], [8, 11], [12], [], [], [14, 15], [], [], [17, 18], [16, 19], [13, 20], [21], [], [22, 23]] (fun i => false) [.is _ 0 (.agg (widL S1 N1)), .is _ 1 (.agg (widL S1 N1)), .is _ 2 (.bool true), .is _ 3 (.bool true), .is _ 4 (.agg (widL T1 M1)), .is _ 5 (.agg (widL T1 M1)), .is _ 6 (.bool true), .is _ 7 (.bool true), .is _ 8 (.bool true), .is _ 9 (.int .i64 E1), .is _ 10 (.int .i64 E1), .is _ 11 (.bool true), .is _ 12 (.bool true), .is _ 13 (.bool true), .is _ 14 (.agg (widL s0 n0)), .is _ 15 (.agg (widL s1 n1)), .is _ 16 (.agg (widL false G)), .is _ 17 (.agg (widL s0 n0)), .is _ 18 (.agg (widL s1 n1)), .is _ 19 (.agg (widL false G)), .is _ 20 (.bool true), .is _ 21 (.bool true), .is _ 22 (.bool true), .is _ 23 (.bool true), .is _ 24 (.bool true)] (Keep [(q2, 25, (widL s0 n0)), (q3, 25, (widL s1 n1)), (q5, 25, (widL S1 N1)), (q6, 25, (widL T1 M1)), (q8, 25, (widL S1 N1)), (q9, 25, (widL T1 M1))] (q2) 25 (widL s0 n0) (widL s0 n0) w) follows_mixed (by kernel_rfl) (by kernel_rfl) (by kernel_rfl) (fun _ _ h he => h.ext he (by intro r hr; simp at hr) (by intro r hr; simp at hr) (by intro r hr; simp at hr)) hG ?_ [none, none, none, some true, none, none, none, none, some true, none, none, none, none, some true, none, none, none, none, none, none, none, none, some true, none, none] ⟨fun _ _ h => h, ⟨fun _ _ h => h, ⟨fun _ _ h => h, ⟨fun _ _ h => h, trivial⟩⟩⟩⟩ (Nat.le_of_ble_eq_true rfl) (by kernel_rfl) rfl ?_
  · refine steps_cons ?_ (steps_cons ?_ (steps_cons ?_ (steps_cons ?_ (steps_cons ?_ (steps_cons ?_ (steps_cons ?_ (steps_cons ?_ (steps_cons ?_ (steps_cons ?_ (steps_cons ?_ (steps_cons ?_ (steps_cons ?_ (steps_cons ?_ (steps_cons ?_ (steps_cons ?_ (steps_cons ?_ (steps_cons ?_ (steps_cons ?_ (steps_cons ?_ (steps_cons ?_ (steps_cons ?_ (steps_cons ?_ (steps_cons ?_ (steps_cons ?_ (steps_nil)))))))))))))))))))))))))
    · exact fun xs wx hG _ => step_row 25 (.tmp 5) rfl (q5) (eval_old (by decide)) 25 (widL S1 N1) _ (hG.rows _ (List.mem_cons_of_mem _ (List.mem_cons_of_mem _ (List.mem_cons_self ..)))) under_wide rfl info_wide rfl
    · exact fun xs wx hG _ => step_row 25 (.tmp 8) rfl (q8) (eval_old (by decide)) 25 (widL S1 N1) _ (hG.rows _ (List.mem_cons_of_mem _ (List.mem_cons_of_mem _ (List.mem_cons_of_mem _ (List.mem_cons_of_mem _ (List.mem_cons_self ..)))))) under_wide rfl info_wide rfl
    · intro xs wx hG hF
      have f0 : xs 0 = (.agg (widL S1 N1)) := hF.1
      have f1 : xs 1 = (.agg (widL S1 N1)) := hF.2.1
      exact step_value (.bool true) (w' := wx) (by simp only [fillIn, Act.put, List.setIfInBounds_toArray, List.set_cons_zero, List.set_cons_succ, f0, f1]; go_simp) rfl (Below.refl _ _)
    · intro xs wx hG hF
      have f2 : xs 2 = (.bool true) := hF.1
      exact step_value (.bool true) (w' := wx) (by simp only [fillIn, Act.put, List.setIfInBounds_toArray, List.set_cons_zero, List.set_cons_succ, f2]; go_simp) rfl (Below.refl _ _)
    · exact fun xs wx hG _ => step_row 25 (.tmp 6) rfl (q6) (eval_old (by decide)) 25 (widL T1 M1) _ (hG.rows _ (List.mem_cons_of_mem _ (List.mem_cons_of_mem _ (List.mem_cons_of_mem _ (List.mem_cons_self ..))))) under_wide rfl info_wide rfl
    · exact fun xs wx hG _ => step_row 25 (.tmp 9) rfl (q9) (eval_old (by decide)) 25 (widL T1 M1) _ (hG.rows _ (List.mem_cons_of_mem _ (List.mem_cons_of_mem _ (List.mem_cons_of_mem _ (List.mem_cons_of_mem _ (List.mem_cons_of_mem _ (List.mem_cons_self ..))))))) under_wide rfl info_wide rfl
    · intro xs wx hG hF
      have f4 : xs 4 = (.agg (widL T1 M1)) := hF.1
      have f5 : xs 5 = (.agg (widL T1 M1)) := hF.2.1
      exact step_value (.bool true) (w' := wx) (by simp only [fillIn, Act.put, List.setIfInBounds_toArray, List.set_cons_zero, List.set_cons_succ, f4, f5]; go_simp) rfl (Below.refl _ _)
    · intro xs wx hG hF
      have f3 : xs 3 = (.bool true) := hF.1
      have f6 : xs 6 = (.bool true) := hF.2.1
      exact step_value (.bool true) (w' := wx) (by simp only [fillIn, Act.put, List.setIfInBounds_toArray, List.set_cons_zero, List.set_cons_succ, f3, f6]; go_simp) rfl (Below.refl _ _)
    · intro xs wx hG hF
      have f7 : xs 7 = (.bool true) := hF.1
      exact step_value (.bool true) (w' := wx) (by simp only [fillIn, Act.put, List.setIfInBounds_toArray, List.set_cons_zero, List.set_cons_succ, f7]; go_simp) rfl (Below.refl _ _)
    · exact fun xs wx hG _ => step_value (.int .i64 E1) (w' := wx) (by simp only [fillIn, Act.put, List.setIfInBounds_toArray, List.set_cons_zero, List.set_cons_succ]; go_simp) rfl (Below.refl _ _)
    · exact fun xs wx hG _ => step_value (.int .i64 E1) (w' := wx) (by simp only [fillIn, Act.put, List.setIfInBounds_toArray, List.set_cons_zero, List.set_cons_succ]; go_simp) rfl (Below.refl _ _)
    · intro xs wx hG hF
      have f9 : xs 9 = (.int .i64 E1) := hF.1
      have f10 : xs 10 = (.int .i64 E1) := hF.2.1
      exact step_value (.bool true) (w' := wx) (by simp only [fillIn, Act.put, List.setIfInBounds_toArray, List.set_cons_zero, List.set_cons_succ, f9, f10]; go_simp) rfl (Below.refl _ _)
    · intro xs wx hG hF
      have f8 : xs 8 = (.bool true) := hF.1
      have f11 : xs 11 = (.bool true) := hF.2.1
      exact step_value (.bool true) (w' := wx) (by simp only [fillIn, Act.put, List.setIfInBounds_toArray, List.set_cons_zero, List.set_cons_succ, f8, f11]; go_simp) rfl (Below.refl _ _)
    · intro xs wx hG hF
      have f12 : xs 12 = (.bool true) := hF.1
      exact step_value (.bool true) (w' := wx) (by simp only [fillIn, Act.put, List.setIfInBounds_toArray, List.set_cons_zero, List.set_cons_succ, f12]; go_simp) rfl (Below.refl _ _)
    · exact fun xs wx hG _ => step_row 25 (.tmp 2) rfl (q2) (eval_old (by decide)) 25 (widL s0 n0) _ (hG.rows _ (List.mem_cons_self ..)) under_wide rfl info_wide rfl
    · exact fun xs wx hG _ => step_row 25 (.tmp 3) rfl (q3) (eval_old (by decide)) 25 (widL s1 n1) _ (hG.rows _ (List.mem_cons_of_mem _ (List.mem_cons_self ..))) under_wide rfl info_wide rfl
    · exact fun xs wx hG hF => step_call2 32 (.tmp 39) (.tmp 40) #[25, 25] (.agg (widL s0 n0)) (.agg (widL s1 n1)) rfl ((eval_new (i := 14) (by decide) rfl (by simp)).trans hF.1) ((eval_new (i := 15) (by decide) rfl (by simp)).trans hF.2.1) (by kernel_rfl) (pg wx) (fun e w' h => ⟨_, h.1, rfl, h.2⟩)
    · exact fun xs wx hG _ => step_row 25 (.tmp 2) rfl (q2) (eval_old (by decide)) 25 (widL s0 n0) _ (hG.rows _ (List.mem_cons_self ..)) under_wide rfl info_wide rfl
    · exact fun xs wx hG _ => step_row 25 (.tmp 3) rfl (q3) (eval_old (by decide)) 25 (widL s1 n1) _ (hG.rows _ (List.mem_cons_of_mem _ (List.mem_cons_self ..))) under_wide rfl info_wide rfl
    · exact fun xs wx hG hF => step_call2 33 (.tmp 42) (.tmp 43) #[25, 25] (.agg (widL s0 n0)) (.agg (widL s1 n1)) rfl ((eval_new (i := 17) (by decide) rfl (by simp)).trans hF.1) ((eval_new (i := 18) (by decide) rfl (by simp)).trans hF.2.1) (by kernel_rfl) (rg wx) (fun e w' h => ⟨_, h.1, rfl, h.2⟩)
    · intro xs wx hG hF
      have f16 : xs 16 = (.agg (widL false G)) := hF.1
      have f19 : xs 19 = (.agg (widL false G)) := hF.2.1
      exact step_value (.bool true) (w' := wx) (by simp only [fillIn, Act.put, List.setIfInBounds_toArray, List.set_cons_zero, List.set_cons_succ, f16, f19]; go_simp) rfl (Below.refl _ _)
    · intro xs wx hG hF
      have f13 : xs 13 = (.bool true) := hF.1
      have f20 : xs 20 = (.bool true) := hF.2.1
      exact step_value (.bool true) (w' := wx) (by simp only [fillIn, Act.put, List.setIfInBounds_toArray, List.set_cons_zero, List.set_cons_succ, f13, f20]; go_simp) rfl (Below.refl _ _)
    · intro xs wx hG hF
      have f21 : xs 21 = (.bool true) := hF.1
      exact step_value (.bool true) (w' := wx) (by simp only [fillIn, Act.put, List.setIfInBounds_toArray, List.set_cons_zero, List.set_cons_succ, f21]; go_simp) rfl (Below.refl _ _)
    · exact fun xs wx hG hF => step_call0 21  #[]  rfl  (by kernel_rfl) (awake_any wx) (fun e w' h => ⟨_, h.1, rfl, h.2⟩)
    · intro xs wx hG hF
      have f22 : xs 22 = (.bool true) := hF.1
      have f23 : xs 23 = (.bool true) := hF.2.1
      exact step_value (.bool true) (w' := wx) (by simp only [fillIn, Act.put, List.setIfInBounds_toArray, List.set_cons_zero, List.set_cons_succ, f22, f23]; go_simp) rfl (Below.refl _ _)
  intro xs wx hG hA hF
  obtain ⟨f0, f1, f2, f3, f4, f5, f6, f7, f8, f9, f10, f11, f12, f13, f14, f15, f16, f17, f18, f19, f20, f21, f22, f23, f24, _⟩ := hF
  have f0 : xs 0 = (.agg (widL S1 N1)) := f0
  have f1 : xs 1 = (.agg (widL S1 N1)) := f1
  have f2 : xs 2 = (.bool true) := f2
  have f3 : xs 3 = (.bool true) := f3
  have f4 : xs 4 = (.agg (widL T1 M1)) := f4
  have f5 : xs 5 = (.agg (widL T1 M1)) := f5
  have f6 : xs 6 = (.bool true) := f6
  have f7 : xs 7 = (.bool true) := f7
  have f8 : xs 8 = (.bool true) := f8
  have f9 : xs 9 = (.int .i64 E1) := f9
  have f10 : xs 10 = (.int .i64 E1) := f10
  have f11 : xs 11 = (.bool true) := f11
  have f12 : xs 12 = (.bool true) := f12
  have f13 : xs 13 = (.bool true) := f13
  have f14 : xs 14 = (.agg (widL s0 n0)) := f14
  have f15 : xs 15 = (.agg (widL s1 n1)) := f15
  have f16 : xs 16 = (.agg (widL false G)) := f16
  have f17 : xs 17 = (.agg (widL s0 n0)) := f17
  have f18 : xs 18 = (.agg (widL s1 n1)) := f18
  have f19 : xs 19 = (.agg (widL false G)) := f19
  have f20 : xs 20 = (.bool true) := f20
  have f21 : xs 21 = (.bool true) := f21
  have f22 : xs 22 = (.bool true) := f22
  have f23 : xs 23 = (.bool true) := f23
  have f24 : xs 24 = (.bool true) := f24
  simp only [fillIn, Act.put, List.setIfInBounds_toArray, List.set_cons_zero, List.set_cons_succ, f0, f1, f2, f3, f4, f5, f6, f7, f8, f9, f10, f11, f12, f13, f14, f15, f16, f17, f18, f19, f20, f21, f22, f23, f24, List.drop_succ_cons, List.drop_zero, List.length_cons, List.length_nil]
  obtain ⟨_, _, kW⟩ := hG
  go_wp2
  go_ret
  exact ⟨rfl, kW⟩

/-! ### The row's step -/
set_option maxRecDepth 100000 in
theorem lifted (os : Os) (started : os.Started) (H : Type) (enc : TypeId × Value → H) :
    ReturnsInHanded {} Try.checked os 7 .any (Rows.wideQuotientsSpec.pre6 enc Try.prog Try.f7 Rows.wideQuotientsRow.domain false) (Rows.wideQuotientsSpec.post enc Try.prog Try.f7 false true false false) := by
  refine returnsInHanded_of_change (C := Try.checked) own started (by kernel_rfl) Try.func7
    (ChangeSpec.witness6 (enc := enc) (C := Try.checked) false ⟨#[], #[.agg #[.bool false, .int .u64 0, .int .u64 0, .int .u64 0, .int .u64 0], .agg #[.bool false, .int .u64 0, .int .u64 0, .int .u64 0, .int .u64 0]], []⟩ 8 (by kernel_rfl) (by kernel_rfl) (by kernel_rfl) (by kernel_rfl)) ?_
  intro W base args ds gs before hval0 hW hcnd _
  have hval : ∀ (j : Nat) t v, Try.f7.params[j]? = some t → args[j]? = some v → Value.okWide Try.prog W .any base t v := hval0
  have hW' := hW
  obtain ⟨p, q, hA0, hV, rfl, hfz, hnd⟩ := hW
  have hA : DataW.TrodAll enc Try.prog W 0 (fun _ => true) true Try.f7.params.toList args.toList ds p := hA0
  rw [Try.params7] at hA hval
  obtain ⟨v0, vs0, d0, ds0, p0, q0, hargs, rfl, rfl, h0, r0⟩ := trodAll_cons hA
  obtain ⟨v1, vs1, d1, ds1, p1, q1, rfl, rfl, rfl, h1, r1⟩ := trodAll_cons r0
  obtain ⟨rfl, rfl, rfl⟩ := trodAll_nil r1
  obtain rfl : args = #[v0, v1] := by cases args; simp_all
  obtain ⟨rfl, rfl⟩ := trodVars_none hV
  obtain ⟨s0, n0, rfl, rfl, rfl, w0⟩ := open_wide (hval 0 25 v0 rfl rfl) h0
  obtain ⟨s1, n1, rfl, rfl, rfl, w1⟩ := open_wide (hval 1 25 v1 rfl rfl) h1
  clear hA0 hval0
  simp only [List.append_nil] at hW'
  refine (walk s0 n0 w0 s1 n1 w1 W).mono fun e W' ⟨he, hg⟩ => ?_
  subst he
  exact ⟨_, rfl, _, _, _, [], [], [], hW', (trodAll_cons_mk (shut_bool Try.underlying4 _) trodAll_mk0), (trodAll_cons_mk (shut_wide s0 n0) (trodAll_cons_mk (shut_wide s1 n1) trodAll_mk0)), rfl, hg.frame _, fun h => by cases h⟩

theorem over : Rows.wideQuotientsRow.holds Try.pinned (OpenSpec.ofChange Rows.wideQuotientsSpec) :=
  OpenClaim.holds_of_wide 7 Try.f7 rfl rfl rfl rfl rfl rfl rfl ⟨rfl, rfl, rfl, rfl, rfl⟩ rfl rfl rfl rfl rfl (by kernel_rfl) Try.func7 (by kernel_rfl)
    (of_decide_eq_true (by kernel_rfl)) (by unfold Func.isWrapper; first | (rw [if_pos (by decide +kernel)]; kernel_rfl) | (rw [if_neg (by decide +kernel)]; exact ⟨rfl, rfl⟩))
    (fun os started H enc _ => lifted os started H enc)

/-- The statement. -/
theorem proved : Rows.WideQuotientsSaid :=
  over
#print axioms proved
end Go.Proofs.Ytnpgikjahfhaoaa.wideQuotients
