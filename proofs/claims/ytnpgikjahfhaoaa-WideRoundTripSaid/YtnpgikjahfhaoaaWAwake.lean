/-
  The chapter's numbers.
-/
import Derived.Test.YtnpgikjahfhaoaaWParse
import Derived.Test.YtnpgikjahfhaoaaWText
import Derived.Test.YtnpgikjahfhaoaaWOps2
import Derived.Test.YtnpgikjahfhaoaaWOps5
import Derived.Test.YtnpgikjahfhaoaaWOps6
import Derived.Test.YtnpgikjahfhaoaaWOps7
import Derived.Test.YtnpgikjahfhaoaaRegG
namespace Go.Proofs.Ytnpgikjahfhaoaa
open Go.RowKit Go.Proofs.WM Go.Proofs.WD Go.Proofs.Reg

theorem of4 (w : World) : Calls Try.prog 15 #[.int .i64 (-4)] w (Gives (.agg (widL true 4)) w) := pof_any (-4) w (by decide) (by decide)
theorem of1 (w : World) : Calls Try.prog 15 #[.int .i64 1] w (Gives (.agg (widL false 1)) w) := pof_any 1 w (by decide) (by decide)
theorem of12 (w : World) : Calls Try.prog 15 #[.int .i64 (-12)] w (Gives (.agg (widL true 12)) w) := pof_any (-12) w (by decide) (by decide)
theorem of18 (w : World) : Calls Try.prog 15 #[.int .i64 18] w (Gives (.agg (widL false 18)) w) := pof_any 18 w (by decide) (by decide)
theorem of6 (w : World) : Calls Try.prog 15 #[.int .i64 6] w (Gives (.agg (widL false 6)) w) := pof_any 6 w (by decide) (by decide)
theorem of32 (w : World) : Calls Try.prog 15 #[.int .i64 4294967296] w (Gives (.agg (widL false 4294967296)) w) := pof_any 4294967296 w (by decide) (by decide)
theorem of7 (w : World) : Calls Try.prog 15 #[.int .i64 (-7)] w (Gives (.agg (widL true 7)) w) := pof_any (-7) w (by decide) (by decide)
theorem of2 (w : World) : Calls Try.prog 15 #[.int .i64 2] w (Gives (.agg (widL false 2)) w) := pof_any 2 w (by decide) (by decide)
theorem of5 (w : World) : Calls Try.prog 15 #[.int .i64 (-5)] w (Gives (.agg (widL true 5)) w) := pof_any (-5) w (by decide) (by decide)
theorem in5 (w : World) : Calls Try.prog 13 #[.agg (widL true 5)] w (Gives (.tuple #[.int .i64 (-5), .bool true]) w) := by
  have h := pint_any true 5 w (by decide)
  rw [show intV true 5 = -5 by decide, show intB true 5 = true by decide] at h
  exact h
theorem mu (w : World) : Calls Try.prog 28 #[.agg (widL false 4294967296), .agg (widL false 4294967296)] w (Gives (.tuple #[.agg (widL false 18446744073709551616), .int .i64 0]) w) := by
  have h := pmul_wide false false 4294967296 4294967296 w (by decide) (by decide)
  unfold MulV at h
  rw [show mlS false 4294967296 false 4294967296 = false by decide, show mlN 4294967296 4294967296 = 18446744073709551616 by decide, show mlE 4294967296 4294967296 = 0 by decide] at h
  exact h
theorem dv (w : World) : Calls Try.prog 30 #[.agg (widL true 7), .agg (widL false 2)] w (Gives (.tuple #[.agg (widL true 4), .agg (widL false 1), .int .i64 0]) w) := by
  have h := pdiv_wide true false 7 2 w (by decide) (by decide)
  rw [show DivV true 7 false 2 = .tuple #[.agg (widL true 4), .agg (widL false 1), .int .i64 0] from rfl] at h
  exact h
theorem gc (w : World) : Calls Try.prog 32 #[.agg (widL true 12), .agg (widL false 18)] w (Gives (.agg (widL false 6)) w) := by
  have h := pgcd_wide true false 12 18 w (by decide) (by decide)
  rw [show Nat.gcd 12 18 = 6 by decide] at h
  exact h
theorem tx (w : World) : Calls Try.prog 36 #[.agg (widL false 18446744073709551616)] w (Gives (.string ⟨#[49, 56, 52, 52, 54, 55, 52, 52, 48, 55, 51, 55, 48, 57, 53, 53, 49, 54, 49, 54]⟩) w) := by
  have h := ptext_any false 18446744073709551616 w (by decide)
  rw [show txtB false 18446744073709551616 = ⟨#[49, 56, 52, 52, 54, 55, 52, 52, 48, 55, 51, 55, 48, 57, 53, 53, 49, 54, 49, 54]⟩ by decide] at h
  exact h
theorem pa (w : World) : Calls Try.prog 34 #[.string ⟨#[49, 56, 52, 52, 54, 55, 52, 52, 48, 55, 51, 55, 48, 57, 53, 53, 49, 54, 49, 54]⟩] w (Gives (.tuple #[.agg (widL false 18446744073709551616), .int .i64 0]) w) := by
  have h := pparse_any ⟨#[49, 56, 52, 52, 54, 55, 52, 52, 48, 55, 51, 55, 48, 57, 53, 53, 49, 54, 49, 54]⟩ w (by decide)
  unfold ParV at h
  rw [show ParW (⟨#[49, 56, 52, 52, 54, 55, 52, 52, 48, 55, 51, 55, 48, 57, 53, 53, 49, 54, 49, 54]⟩ : ByteArray).data.toList = (false, 18446744073709551616, 0) by decide] at h
  exact h
theorem litX : (#[.bool false, .int .u64 0, .int .u64 1, .int .u64 0, .int .u64 0] : Array Value) = widL false 18446744073709551616 := by
  unfold widL
  rw [show wd 18446744073709551616 0 = 0 by decide, show wd 18446744073709551616 1 = 1 by decide, show wd 18446744073709551616 2 = 0 by decide, show wd 18446744073709551616 3 = 0 by decide]
  rfl

set_option maxRecDepth 4000 in
set_option maxHeartbeats 2000000 in
theorem awake_any (w : World) : Calls Try.prog 21 #[] w (Gives (.bool true) w) := by
  obtain ⟨A, mu, pa, tx, litX, hAM⟩ : ∃ A : Nat, (∀ w, Calls Try.prog 28 #[.agg (widL false 4294967296), .agg (widL false 4294967296)] w (Gives (.tuple #[.agg (widL false A), .int .i64 0]) w)) ∧ (∀ w, Calls Try.prog 34 #[.string ⟨#[49, 56, 52, 52, 54, 55, 52, 52, 48, 55, 51, 55, 48, 57, 53, 53, 49, 54, 49, 54]⟩] w (Gives (.tuple #[.agg (widL false A), .int .i64 0]) w)) ∧ (∀ w, Calls Try.prog 36 #[.agg (widL false A)] w (Gives (.string ⟨#[49, 56, 52, 52, 54, 55, 52, 52, 48, 55, 51, 55, 48, 57, 53, 53, 49, 54, 49, 54]⟩) w)) ∧ (#[.bool false, .int .u64 0, .int .u64 1, .int .u64 0, .int .u64 0] : Array Value) = widL false A ∧ A < M256 :=
    ⟨18446744073709551616, mu, pa, tx, litX, by decide⟩
  have LX := Lib.hid litX
  have HAM := Lib.hid hAM
  clear litX hAM
  go_enter Try.func21, Try.ntmps21
  go_wp2_with fail
  refine (of32 _).mono ?_
  rintro e w1 ⟨rfl, hb⟩
  have kW := hb
  clear hb
  go_wp2_with fail
  refine (of32 _).mono ?_
  rintro e w2 ⟨rfl, hb⟩
  have kW := kW.trans (hb.mono kW.size)
  clear hb
  go_wp2_with fail
  refine (mu _).mono ?_
  rintro e w3 ⟨rfl, hb⟩
  have kW := kW.trans (hb.mono kW.size)
  clear hb
  have k1 : Hid (Blk ((w3.alloc (.cells wid0 25)).setRow w3.heap.size (widL false A)) w3.heap.size 25 (widL false A)) := (Blk.new _ _ _ : Blk (w3.alloc (.cells wid0 25)) w3.heap.size 25 wid0).row _
  have kW := below_row (kW.alloc kW.size (.cells wid0 25)) (g := w3.heap.size) kW.size (widL false A)
  go_wp2_with (refine wpList_store_row rfl 25 (.tmp 1) (.tmp 14) rfl w3.heap.size (widL false A) rfl rfl 25 _ (Blk.new _ _ _) info_wide rfl (widF_ones _ (wd A)) ?_)
  generalize g1h : w3.heap.size = g1 at k1 kW ⊢
  generalize World.setRow _ _ _ = w4 at k1 kW ⊢
  clear g1h
  refine (of7 _).mono ?_
  rintro e w5 ⟨rfl, hb⟩
  have k1 := Lib.hid (k1.out.below hb)
  have kW := kW.trans (hb.mono kW.size)
  clear hb
  go_wp2_with fail
  refine (of2 _).mono ?_
  rintro e w6 ⟨rfl, hb⟩
  have k1 := Lib.hid (k1.out.below hb)
  have kW := kW.trans (hb.mono kW.size)
  clear hb
  go_wp2_with fail
  refine (dv _).mono ?_
  rintro e w7 ⟨rfl, hb⟩
  have k1 := Lib.hid (k1.out.below hb)
  have kW := kW.trans (hb.mono kW.size)
  clear hb
  have l1 := k1.out.lt
  have k3 : Hid (Blk (((w7.alloc (.cells wid0 25)).alloc (.cells wid0 25)).setRow w7.heap.size (widL true 4)) w7.heap.size 25 (widL true 4)) := ((Blk.new _ _ _ : Blk (w7.alloc (.cells wid0 25)) w7.heap.size 25 wid0).old _).row _
  have z4 : Hid (Blk (((w7.alloc (.cells wid0 25)).alloc (.cells wid0 25)).setRow w7.heap.size (widL true 4)) (w7.heap.size + 1) 25 wid0) := (Blk.newAt (by simp) _ _).rowOther (by omega) _
  have z3 : Hid (Blk ((w7.alloc (.cells wid0 25)).alloc (.cells wid0 25)) w7.heap.size 25 wid0) := (Blk.new _ _ _ : Blk (w7.alloc (.cells wid0 25)) w7.heap.size 25 wid0).old _
  have k3 := Lib.hid (k3.out.rowOther (k := w7.heap.size + 1) (by omega) (widL false 1))
  have k4 := Lib.hid (z4.out.row (widL false 1))
  have k1 := Lib.hid ((((k1.out.old (.cells wid0 25)).old (.cells wid0 25)).rowOther (k := w7.heap.size) (by omega) (widL true 4)).rowOther (k := w7.heap.size + 1) (by omega) (widL false 1))
  have kW := below_row (below_row ((kW.alloc kW.size (.cells wid0 25)).alloc (by simp; have := kW.size; omega) (.cells wid0 25)) (g := w7.heap.size) kW.size (widL true 4)) (g := w7.heap.size + 1) (by have := kW.size; omega) (widL false 1)
  go_wp2_with (first | (refine wpList_store_row rfl 25 (.tmp 3) (.tmp 20) rfl w7.heap.size (widL true 4) rfl rfl 25 _ z3.out info_wide rfl (widF_ones _ (wd 4)) ?_) | (refine wpList_store_row rfl 25 (.tmp 4) (.tmp 21) rfl (w7.heap.size + 1) (widL false 1) rfl rfl 25 _ z4.out info_wide rfl (widF_ones _ (wd 1)) ?_))
  generalize g3h : w7.heap.size = g3 at k1 k3 k4 kW ⊢
  generalize World.setRow _ _ _ = w8 at k1 k3 k4 kW ⊢
  clear g3h z3 z4 l1
  refine (pa _).mono ?_
  rintro e w9 ⟨rfl, hb⟩
  have k1 := Lib.hid (k1.out.below hb)
  have k3 := Lib.hid (k3.out.below hb)
  have k4 := Lib.hid (k4.out.below hb)
  have kW := kW.trans (hb.mono kW.size)
  clear hb
  have l1 := k1.out.lt
  have l3 := k3.out.lt
  have l4 := k4.out.lt
  have k6 : Hid (Blk ((w9.alloc (.cells wid0 25)).setRow w9.heap.size (widL false A)) w9.heap.size 25 (widL false A)) := (Blk.new _ _ _ : Blk (w9.alloc (.cells wid0 25)) w9.heap.size 25 wid0).row _
  have k1 := Lib.hid ((k1.out.old (.cells wid0 25)).rowOther (k := w9.heap.size) (by omega) (widL false A))
  have k3 := Lib.hid ((k3.out.old (.cells wid0 25)).rowOther (k := w9.heap.size) (by omega) (widL false A))
  have k4 := Lib.hid ((k4.out.old (.cells wid0 25)).rowOther (k := w9.heap.size) (by omega) (widL false A))
  have kW := below_row (kW.alloc kW.size (.cells wid0 25)) (g := w9.heap.size) kW.size (widL false A)
  go_wp2_with (refine wpList_store_row rfl 25 (.tmp 6) (.tmp 25) rfl w9.heap.size (widL false A) rfl rfl 25 _ (Blk.new _ _ _) info_wide rfl (widF_ones _ (wd A)) ?_)
  generalize g6h : w9.heap.size = g6 at k1 k3 k4 k6 kW ⊢
  generalize World.setRow _ _ _ = w10 at k1 k3 k4 k6 kW ⊢
  clear g6h l1 l3 l4
  refine (of5 _).mono ?_
  rintro e w11 ⟨rfl, hb⟩
  have k1 := Lib.hid (k1.out.below hb)
  have k3 := Lib.hid (k3.out.below hb)
  have k4 := Lib.hid (k4.out.below hb)
  have k6 := Lib.hid (k6.out.below hb)
  have kW := kW.trans (hb.mono kW.size)
  clear hb
  go_wp2_with fail
  refine (in5 _).mono ?_
  rintro e w12 ⟨rfl, hb⟩
  have k1 := Lib.hid (k1.out.below hb)
  have k3 := Lib.hid (k3.out.below hb)
  have k4 := Lib.hid (k4.out.below hb)
  have k6 := Lib.hid (k6.out.below hb)
  have kW := kW.trans (hb.mono kW.size)
  clear hb
  go_wp2_with fail
  generalize g3 + 1 = g4 at k4 ⊢
  have e0 : ∀ wx, (Op.equalIn 10000 25 (.agg (widL false A)) (.agg (widL false A))).run Try.prog wx = .ok true wx := fun wx => by rw [eq_wide false false A A HAM.out HAM.out wx]; simp
  have e1 : ∀ wx, (Op.equalIn 10000 25 (.agg (widL false A)) (.agg #[.bool false, .int .u64 0, .int .u64 1, .int .u64 0, .int .u64 0])).run Try.prog wx = .ok true wx := fun wx => by rw [LX.out]; exact e0 wx
  have e4 := fun wx => eq_wide true true 4 4 (by decide) (by decide) wx
  have e2 := fun wx => eq_wide false false 1 1 (by decide) (by decide) wx
  have e6 := fun wx => eq_wide false false 6 6 (by decide) (by decide) wx
  have hG : Keep [(g1, 25, (widL false A)), (g3, 25, (widL true 4)), (g4, 25, (widL false 1)), (g6, 25, (widL false A))] g1 25 (widL false A) (widL false A) w w12.drew := by
    refine ⟨?_, .inl k1.out.drew, kW.drew⟩
    intro k hk
    simp only [List.mem_cons, List.mem_nil_iff, or_false] at hk
    rcases hk with rfl | rfl | rfl | rfl
    · exact k1.out.drew
    · exact k3.out.drew
    · exact k4.out.drew
    · exact k6.out.drew
  clear k1 k3 k4 k6 kW
  refine region_kitG (ds := [some 32, some 33, some 34, some 35, some 36, some 37, some 38, some 39, some 40, some 41, some 42, some 43, some 44, some 45, some 46, some 47, some 48, some 49, some 50, some 51, some 52, some 53, some 54, some 55, some 56, some 57, some 58, some 59, some 60, some 61, some 62, some 63, some 64, some 65, some 66, some 67, some 68, some 69, some 70, some 71, some 72, some 73, some 74, some 75, some 76, some 77, some 78, some 79, some 80, some 81]) [] [[], [0], [1], [], [3], [2, 4], [5], [], [7], [6, 8], [9], [], [10, 11], [12], [], [14], [13, 15], [16], [], [], [18, 19], [17, 20], [21], [], [], [24], [23, 25], [22, 26], [27], [], [], [29, 30], [28, 31], [32], [], [], [34, 35], [33, 36], [37], [], [], [39, 40], [], [41, 42], [38, 43], [44], [], [46], [47], [45, 48]] (fun i => false) [.is _ 0 (.int .i64 0), .is _ 1 (.bool true), .is _ 2 (.bool true), .is _ 3 (.int .i64 0), .is _ 4 (.bool true), .is _ 5 (.bool true), .is _ 6 (.bool true), .is _ 7 (.int .i64 0), .is _ 8 (.bool true), .is _ 9 (.bool true), .is _ 10 (.bool true), .is _ 11 (.bool true), .is _ 12 (.bool true), .is _ 13 (.bool true), .is _ 14 (.int .i64 (-5)), .is _ 15 (.bool true), .is _ 16 (.bool true), .is _ 17 (.bool true), .is _ 18 (.agg (widL false A)), .is _ 19 (.agg (widL false A)), .is _ 20 (.bool true), .is _ 21 (.bool true), .is _ 22 (.bool true), .is _ 23 (.agg (widL false A)), .is _ 24 (.agg #[.int .u64 0, .int .u64 1, .int .u64 0, .int .u64 0]), .is _ 25 (.agg #[.bool false, .int .u64 0, .int .u64 1, .int .u64 0, .int .u64 0]), .is _ 26 (.bool true), .is _ 27 (.bool true), .is _ 28 (.bool true), .is _ 29 (.agg (widL true 4)), .is _ 30 (.agg (widL true 4)), .is _ 31 (.bool true), .is _ 32 (.bool true), .is _ 33 (.bool true), .is _ 34 (.agg (widL false 1)), .is _ 35 (.agg (widL false 1)), .is _ 36 (.bool true), .is _ 37 (.bool true), .is _ 38 (.bool true), .is _ 39 (.agg (widL true 12)), .is _ 40 (.agg (widL false 18)), .is _ 41 (.agg (widL false 6)), .is _ 42 (.agg (widL false 6)), .is _ 43 (.bool true), .is _ 44 (.bool true), .is _ 45 (.bool true), .is _ 46 (.agg (widL false A)), .is _ 47 (.string ⟨#[49, 56, 52, 52, 54, 55, 52, 52, 48, 55, 51, 55, 48, 57, 53, 53, 49, 54, 49, 54]⟩), .is _ 48 (.bool true), .is _ 49 (.bool true)] (Keep [(g1, 25, (widL false A)), (g3, 25, (widL true 4)), (g4, 25, (widL false 1)), (g6, 25, (widL false A))] (g1) 25 (widL false A) (widL false A) w) follows_mixed (by kernel_rfl) (by kernel_rfl) (by kernel_rfl) (fun _ _ h he => h.ext he (by intro r hr; simp at hr) (by intro r hr; simp at hr) (by intro r hr; simp at hr)) hG ?_ [none, none, some true, none, none, none, some true, none, none, none, some true, none, none, some true, none, none, none, some true, none, none, none, none, some true, none, none, none, none, none, some true, none, none, none, none, some true, none, none, none, none, some true, none, none, none, none, none, none, some true, none, none, none, none] ⟨fun _ _ h => h, ⟨fun _ _ h => h, ⟨fun _ _ h => h, ⟨fun _ _ h => h, ⟨fun _ _ h => h, ⟨fun _ _ h => h, ⟨fun _ _ h => h, ⟨fun _ _ h => h, ⟨fun _ _ h => h, ⟨fun _ _ h => h, trivial⟩⟩⟩⟩⟩⟩⟩⟩⟩⟩ (Nat.le_of_ble_eq_true rfl) (by kernel_rfl) rfl ?_
  · refine steps_cons ?_ (steps_cons ?_ (steps_cons ?_ (steps_cons ?_ (steps_cons ?_ (steps_cons ?_ (steps_cons ?_ (steps_cons ?_ (steps_cons ?_ (steps_cons ?_ (steps_cons ?_ (steps_cons ?_ (steps_cons ?_ (steps_cons ?_ (steps_cons ?_ (steps_cons ?_ (steps_cons ?_ (steps_cons ?_ (steps_cons ?_ (steps_cons ?_ (steps_cons ?_ (steps_cons ?_ (steps_cons ?_ (steps_cons ?_ (steps_cons ?_ (steps_cons ?_ (steps_cons ?_ (steps_cons ?_ (steps_cons ?_ (steps_cons ?_ (steps_cons ?_ (steps_cons ?_ (steps_cons ?_ (steps_cons ?_ (steps_cons ?_ (steps_cons ?_ (steps_cons ?_ (steps_cons ?_ (steps_cons ?_ (steps_cons ?_ (steps_cons ?_ (steps_cons ?_ (steps_cons ?_ (steps_cons ?_ (steps_cons ?_ (steps_cons ?_ (steps_cons ?_ (steps_cons ?_ (steps_cons ?_ (steps_cons ?_ (steps_nil))))))))))))))))))))))))))))))))))))))))))))))))))
    · exact fun xs wx hG _ => step_value (.int .i64 0) (w' := wx) (by simp only [fillIn, Act.put, List.setIfInBounds_toArray, List.set_cons_zero, List.set_cons_succ]; go_simp) rfl (Below.refl _ _)
    · intro xs wx hG hF
      have f0 : xs 0 = (.int .i64 0) := hF.1
      exact step_value (.bool true) (w' := wx) (by simp only [fillIn, Act.put, List.setIfInBounds_toArray, List.set_cons_zero, List.set_cons_succ, f0]; go_simp) rfl (Below.refl _ _)
    · intro xs wx hG hF
      have f1 : xs 1 = (.bool true) := hF.1
      exact step_value (.bool true) (w' := wx) (by simp only [fillIn, Act.put, List.setIfInBounds_toArray, List.set_cons_zero, List.set_cons_succ, f1]; go_simp) rfl (Below.refl _ _)
    · exact fun xs wx hG _ => step_value (.int .i64 0) (w' := wx) (by simp only [fillIn, Act.put, List.setIfInBounds_toArray, List.set_cons_zero, List.set_cons_succ]; go_simp) rfl (Below.refl _ _)
    · intro xs wx hG hF
      have f3 : xs 3 = (.int .i64 0) := hF.1
      exact step_value (.bool true) (w' := wx) (by simp only [fillIn, Act.put, List.setIfInBounds_toArray, List.set_cons_zero, List.set_cons_succ, f3]; go_simp) rfl (Below.refl _ _)
    · intro xs wx hG hF
      have f2 : xs 2 = (.bool true) := hF.1
      have f4 : xs 4 = (.bool true) := hF.2.1
      exact step_value (.bool true) (w' := wx) (by simp only [fillIn, Act.put, List.setIfInBounds_toArray, List.set_cons_zero, List.set_cons_succ, f2, f4]; go_simp) rfl (Below.refl _ _)
    · intro xs wx hG hF
      have f5 : xs 5 = (.bool true) := hF.1
      exact step_value (.bool true) (w' := wx) (by simp only [fillIn, Act.put, List.setIfInBounds_toArray, List.set_cons_zero, List.set_cons_succ, f5]; go_simp) rfl (Below.refl _ _)
    · exact fun xs wx hG _ => step_value (.int .i64 0) (w' := wx) (by simp only [fillIn, Act.put, List.setIfInBounds_toArray, List.set_cons_zero, List.set_cons_succ]; go_simp) rfl (Below.refl _ _)
    · intro xs wx hG hF
      have f7 : xs 7 = (.int .i64 0) := hF.1
      exact step_value (.bool true) (w' := wx) (by simp only [fillIn, Act.put, List.setIfInBounds_toArray, List.set_cons_zero, List.set_cons_succ, f7]; go_simp) rfl (Below.refl _ _)
    · intro xs wx hG hF
      have f6 : xs 6 = (.bool true) := hF.1
      have f8 : xs 8 = (.bool true) := hF.2.1
      exact step_value (.bool true) (w' := wx) (by simp only [fillIn, Act.put, List.setIfInBounds_toArray, List.set_cons_zero, List.set_cons_succ, f6, f8]; go_simp) rfl (Below.refl _ _)
    · intro xs wx hG hF
      have f9 : xs 9 = (.bool true) := hF.1
      exact step_value (.bool true) (w' := wx) (by simp only [fillIn, Act.put, List.setIfInBounds_toArray, List.set_cons_zero, List.set_cons_succ, f9]; go_simp) rfl (Below.refl _ _)
    · exact fun xs wx hG _ => step_value (.bool true) (w' := wx) (by simp only [fillIn, Act.put, List.setIfInBounds_toArray, List.set_cons_zero, List.set_cons_succ]; go_simp) rfl (Below.refl _ _)
    · intro xs wx hG hF
      have f10 : xs 10 = (.bool true) := hF.1
      have f11 : xs 11 = (.bool true) := hF.2.1
      exact step_value (.bool true) (w' := wx) (by simp only [fillIn, Act.put, List.setIfInBounds_toArray, List.set_cons_zero, List.set_cons_succ, f10, f11]; go_simp) rfl (Below.refl _ _)
    · intro xs wx hG hF
      have f12 : xs 12 = (.bool true) := hF.1
      exact step_value (.bool true) (w' := wx) (by simp only [fillIn, Act.put, List.setIfInBounds_toArray, List.set_cons_zero, List.set_cons_succ, f12]; go_simp) rfl (Below.refl _ _)
    · exact fun xs wx hG _ => step_value (.int .i64 (-5)) (w' := wx) (by simp only [fillIn, Act.put, List.setIfInBounds_toArray, List.set_cons_zero, List.set_cons_succ]; go_simp) rfl (Below.refl _ _)
    · intro xs wx hG hF
      have f14 : xs 14 = (.int .i64 (-5)) := hF.1
      exact step_value (.bool true) (w' := wx) (by simp only [fillIn, Act.put, List.setIfInBounds_toArray, List.set_cons_zero, List.set_cons_succ, f14]; go_simp) rfl (Below.refl _ _)
    · intro xs wx hG hF
      have f13 : xs 13 = (.bool true) := hF.1
      have f15 : xs 15 = (.bool true) := hF.2.1
      exact step_value (.bool true) (w' := wx) (by simp only [fillIn, Act.put, List.setIfInBounds_toArray, List.set_cons_zero, List.set_cons_succ, f13, f15]; go_simp) rfl (Below.refl _ _)
    · intro xs wx hG hF
      have f16 : xs 16 = (.bool true) := hF.1
      exact step_value (.bool true) (w' := wx) (by simp only [fillIn, Act.put, List.setIfInBounds_toArray, List.set_cons_zero, List.set_cons_succ, f16]; go_simp) rfl (Below.refl _ _)
    · exact fun xs wx hG _ => step_row 25 (.tmp 1) rfl (g1) (eval_old (by decide)) 25 (widL false A) _ (hG.rows _ (List.mem_cons_self ..)) under_wide rfl info_wide rfl
    · exact fun xs wx hG _ => step_row 25 (.tmp 6) rfl (g6) (eval_old (by decide)) 25 (widL false A) _ (hG.rows _ (List.mem_cons_of_mem _ (List.mem_cons_of_mem _ (List.mem_cons_of_mem _ (List.mem_cons_self ..))))) under_wide rfl info_wide rfl
    · intro xs wx hG hF
      have f18 : xs 18 = (.agg (widL false A)) := hF.1
      have f19 : xs 19 = (.agg (widL false A)) := hF.2.1
      exact step_value (.bool true) (w' := wx) (by simp only [fillIn, Act.put, List.setIfInBounds_toArray, List.set_cons_zero, List.set_cons_succ, f18, f19]; go_simp) rfl (Below.refl _ _)
    · intro xs wx hG hF
      have f17 : xs 17 = (.bool true) := hF.1
      have f20 : xs 20 = (.bool true) := hF.2.1
      exact step_value (.bool true) (w' := wx) (by simp only [fillIn, Act.put, List.setIfInBounds_toArray, List.set_cons_zero, List.set_cons_succ, f17, f20]; go_simp) rfl (Below.refl _ _)
    · intro xs wx hG hF
      have f21 : xs 21 = (.bool true) := hF.1
      exact step_value (.bool true) (w' := wx) (by simp only [fillIn, Act.put, List.setIfInBounds_toArray, List.set_cons_zero, List.set_cons_succ, f21]; go_simp) rfl (Below.refl _ _)
    · exact fun xs wx hG _ => step_row 25 (.tmp 1) rfl (g1) (eval_old (by decide)) 25 (widL false A) _ (hG.rows _ (List.mem_cons_self ..)) under_wide rfl info_wide rfl
    · exact fun xs wx hG _ => step_value (.agg #[.int .u64 0, .int .u64 1, .int .u64 0, .int .u64 0]) (w' := wx) (by simp only [fillIn, Act.put, List.setIfInBounds_toArray, List.set_cons_zero, List.set_cons_succ]; go_simp) rfl (Below.refl _ _)
    · intro xs wx hG hF
      have f24 : xs 24 = (.agg #[.int .u64 0, .int .u64 1, .int .u64 0, .int .u64 0]) := hF.1
      exact step_value (.agg #[.bool false, .int .u64 0, .int .u64 1, .int .u64 0, .int .u64 0]) (w' := wx) (by simp only [fillIn, Act.put, List.setIfInBounds_toArray, List.set_cons_zero, List.set_cons_succ, f24]; go_simp) rfl (Below.refl _ _)
    · intro xs wx hG hF
      have f23 : xs 23 = (.agg (widL false A)) := hF.1
      have f25 : xs 25 = (.agg #[.bool false, .int .u64 0, .int .u64 1, .int .u64 0, .int .u64 0]) := hF.2.1
      exact step_value (.bool true) (w' := wx) (by simp only [fillIn, Act.put, List.setIfInBounds_toArray, List.set_cons_zero, List.set_cons_succ, f23, f25]; go_simp) rfl (Below.refl _ _)
    · intro xs wx hG hF
      have f22 : xs 22 = (.bool true) := hF.1
      have f26 : xs 26 = (.bool true) := hF.2.1
      exact step_value (.bool true) (w' := wx) (by simp only [fillIn, Act.put, List.setIfInBounds_toArray, List.set_cons_zero, List.set_cons_succ, f22, f26]; go_simp) rfl (Below.refl _ _)
    · intro xs wx hG hF
      have f27 : xs 27 = (.bool true) := hF.1
      exact step_value (.bool true) (w' := wx) (by simp only [fillIn, Act.put, List.setIfInBounds_toArray, List.set_cons_zero, List.set_cons_succ, f27]; go_simp) rfl (Below.refl _ _)
    · exact fun xs wx hG _ => step_row 25 (.tmp 3) rfl (g3) (eval_old (by decide)) 25 (widL true 4) _ (hG.rows _ (List.mem_cons_of_mem _ (List.mem_cons_self ..))) under_wide rfl info_wide rfl
    · exact fun xs wx hG hF => step_call1 15 (.const (.int .i64 (-4))) #[3] (.int .i64 (-4)) rfl rfl (by kernel_rfl) (of4 wx) (fun e w' h => ⟨_, h.1, rfl, h.2⟩)
    · intro xs wx hG hF
      have f29 : xs 29 = (.agg (widL true 4)) := hF.1
      have f30 : xs 30 = (.agg (widL true 4)) := hF.2.1
      exact step_value (.bool true) (w' := wx) (by simp only [fillIn, Act.put, List.setIfInBounds_toArray, List.set_cons_zero, List.set_cons_succ, f29, f30]; go_simp) rfl (Below.refl _ _)
    · intro xs wx hG hF
      have f28 : xs 28 = (.bool true) := hF.1
      have f31 : xs 31 = (.bool true) := hF.2.1
      exact step_value (.bool true) (w' := wx) (by simp only [fillIn, Act.put, List.setIfInBounds_toArray, List.set_cons_zero, List.set_cons_succ, f28, f31]; go_simp) rfl (Below.refl _ _)
    · intro xs wx hG hF
      have f32 : xs 32 = (.bool true) := hF.1
      exact step_value (.bool true) (w' := wx) (by simp only [fillIn, Act.put, List.setIfInBounds_toArray, List.set_cons_zero, List.set_cons_succ, f32]; go_simp) rfl (Below.refl _ _)
    · exact fun xs wx hG _ => step_row 25 (.tmp 4) rfl (g4) (eval_old (by decide)) 25 (widL false 1) _ (hG.rows _ (List.mem_cons_of_mem _ (List.mem_cons_of_mem _ (List.mem_cons_self ..)))) under_wide rfl info_wide rfl
    · exact fun xs wx hG hF => step_call1 15 (.const (.int .i64 (1))) #[3] (.int .i64 (1)) rfl rfl (by kernel_rfl) (of1 wx) (fun e w' h => ⟨_, h.1, rfl, h.2⟩)
    · intro xs wx hG hF
      have f34 : xs 34 = (.agg (widL false 1)) := hF.1
      have f35 : xs 35 = (.agg (widL false 1)) := hF.2.1
      exact step_value (.bool true) (w' := wx) (by simp only [fillIn, Act.put, List.setIfInBounds_toArray, List.set_cons_zero, List.set_cons_succ, f34, f35]; go_simp) rfl (Below.refl _ _)
    · intro xs wx hG hF
      have f33 : xs 33 = (.bool true) := hF.1
      have f36 : xs 36 = (.bool true) := hF.2.1
      exact step_value (.bool true) (w' := wx) (by simp only [fillIn, Act.put, List.setIfInBounds_toArray, List.set_cons_zero, List.set_cons_succ, f33, f36]; go_simp) rfl (Below.refl _ _)
    · intro xs wx hG hF
      have f37 : xs 37 = (.bool true) := hF.1
      exact step_value (.bool true) (w' := wx) (by simp only [fillIn, Act.put, List.setIfInBounds_toArray, List.set_cons_zero, List.set_cons_succ, f37]; go_simp) rfl (Below.refl _ _)
    · exact fun xs wx hG hF => step_call1 15 (.const (.int .i64 (-12))) #[3] (.int .i64 (-12)) rfl rfl (by kernel_rfl) (of12 wx) (fun e w' h => ⟨_, h.1, rfl, h.2⟩)
    · exact fun xs wx hG hF => step_call1 15 (.const (.int .i64 (18))) #[3] (.int .i64 (18)) rfl rfl (by kernel_rfl) (of18 wx) (fun e w' h => ⟨_, h.1, rfl, h.2⟩)
    · exact fun xs wx hG hF => step_call2 32 (.tmp 71) (.tmp 72) #[25, 25] (.agg (widL true 12)) (.agg (widL false 18)) rfl ((eval_new (i := 39) (by decide) rfl (by simp)).trans hF.1) ((eval_new (i := 40) (by decide) rfl (by simp)).trans hF.2.1) (by kernel_rfl) (gc wx) (fun e w' h => ⟨_, h.1, rfl, h.2⟩)
    · exact fun xs wx hG hF => step_call1 15 (.const (.int .i64 (6))) #[3] (.int .i64 (6)) rfl rfl (by kernel_rfl) (of6 wx) (fun e w' h => ⟨_, h.1, rfl, h.2⟩)
    · intro xs wx hG hF
      have f41 : xs 41 = (.agg (widL false 6)) := hF.1
      have f42 : xs 42 = (.agg (widL false 6)) := hF.2.1
      exact step_value (.bool true) (w' := wx) (by simp only [fillIn, Act.put, List.setIfInBounds_toArray, List.set_cons_zero, List.set_cons_succ, f41, f42]; go_simp) rfl (Below.refl _ _)
    · intro xs wx hG hF
      have f38 : xs 38 = (.bool true) := hF.1
      have f43 : xs 43 = (.bool true) := hF.2.1
      exact step_value (.bool true) (w' := wx) (by simp only [fillIn, Act.put, List.setIfInBounds_toArray, List.set_cons_zero, List.set_cons_succ, f38, f43]; go_simp) rfl (Below.refl _ _)
    · intro xs wx hG hF
      have f44 : xs 44 = (.bool true) := hF.1
      exact step_value (.bool true) (w' := wx) (by simp only [fillIn, Act.put, List.setIfInBounds_toArray, List.set_cons_zero, List.set_cons_succ, f44]; go_simp) rfl (Below.refl _ _)
    · exact fun xs wx hG _ => step_row 25 (.tmp 1) rfl (g1) (eval_old (by decide)) 25 (widL false A) _ (hG.rows _ (List.mem_cons_self ..)) under_wide rfl info_wide rfl
    · exact fun xs wx hG hF => step_call1 36 (.tmp 78) #[25] (.agg (widL false A)) rfl ((eval_new (i := 46) (by decide) rfl (by simp)).trans hF.1) (by kernel_rfl) (tx wx) (fun e w' h => ⟨_, h.1, rfl, h.2⟩)
    · intro xs wx hG hF
      have f47 : xs 47 = (.string ⟨#[49, 56, 52, 52, 54, 55, 52, 52, 48, 55, 51, 55, 48, 57, 53, 53, 49, 54, 49, 54]⟩) := hF.1
      exact step_value (.bool true) (w' := wx) (by simp only [fillIn, Act.put, List.setIfInBounds_toArray, List.set_cons_zero, List.set_cons_succ, f47]; go_simp) rfl (Below.refl _ _)
    · intro xs wx hG hF
      have f45 : xs 45 = (.bool true) := hF.1
      have f48 : xs 48 = (.bool true) := hF.2.1
      exact step_value (.bool true) (w' := wx) (by simp only [fillIn, Act.put, List.setIfInBounds_toArray, List.set_cons_zero, List.set_cons_succ, f45, f48]; go_simp) rfl (Below.refl _ _)
  intro xs wx hG hA hF
  obtain ⟨f0, f1, f2, f3, f4, f5, f6, f7, f8, f9, f10, f11, f12, f13, f14, f15, f16, f17, f18, f19, f20, f21, f22, f23, f24, f25, f26, f27, f28, f29, f30, f31, f32, f33, f34, f35, f36, f37, f38, f39, f40, f41, f42, f43, f44, f45, f46, f47, f48, f49, _⟩ := hF
  have f0 : xs 0 = (.int .i64 0) := f0
  have f1 : xs 1 = (.bool true) := f1
  have f2 : xs 2 = (.bool true) := f2
  have f3 : xs 3 = (.int .i64 0) := f3
  have f4 : xs 4 = (.bool true) := f4
  have f5 : xs 5 = (.bool true) := f5
  have f6 : xs 6 = (.bool true) := f6
  have f7 : xs 7 = (.int .i64 0) := f7
  have f8 : xs 8 = (.bool true) := f8
  have f9 : xs 9 = (.bool true) := f9
  have f10 : xs 10 = (.bool true) := f10
  have f11 : xs 11 = (.bool true) := f11
  have f12 : xs 12 = (.bool true) := f12
  have f13 : xs 13 = (.bool true) := f13
  have f14 : xs 14 = (.int .i64 (-5)) := f14
  have f15 : xs 15 = (.bool true) := f15
  have f16 : xs 16 = (.bool true) := f16
  have f17 : xs 17 = (.bool true) := f17
  have f18 : xs 18 = (.agg (widL false A)) := f18
  have f19 : xs 19 = (.agg (widL false A)) := f19
  have f20 : xs 20 = (.bool true) := f20
  have f21 : xs 21 = (.bool true) := f21
  have f22 : xs 22 = (.bool true) := f22
  have f23 : xs 23 = (.agg (widL false A)) := f23
  have f24 : xs 24 = (.agg #[.int .u64 0, .int .u64 1, .int .u64 0, .int .u64 0]) := f24
  have f25 : xs 25 = (.agg #[.bool false, .int .u64 0, .int .u64 1, .int .u64 0, .int .u64 0]) := f25
  have f26 : xs 26 = (.bool true) := f26
  have f27 : xs 27 = (.bool true) := f27
  have f28 : xs 28 = (.bool true) := f28
  have f29 : xs 29 = (.agg (widL true 4)) := f29
  have f30 : xs 30 = (.agg (widL true 4)) := f30
  have f31 : xs 31 = (.bool true) := f31
  have f32 : xs 32 = (.bool true) := f32
  have f33 : xs 33 = (.bool true) := f33
  have f34 : xs 34 = (.agg (widL false 1)) := f34
  have f35 : xs 35 = (.agg (widL false 1)) := f35
  have f36 : xs 36 = (.bool true) := f36
  have f37 : xs 37 = (.bool true) := f37
  have f38 : xs 38 = (.bool true) := f38
  have f39 : xs 39 = (.agg (widL true 12)) := f39
  have f40 : xs 40 = (.agg (widL false 18)) := f40
  have f41 : xs 41 = (.agg (widL false 6)) := f41
  have f42 : xs 42 = (.agg (widL false 6)) := f42
  have f43 : xs 43 = (.bool true) := f43
  have f44 : xs 44 = (.bool true) := f44
  have f45 : xs 45 = (.bool true) := f45
  have f46 : xs 46 = (.agg (widL false A)) := f46
  have f47 : xs 47 = (.string ⟨#[49, 56, 52, 52, 54, 55, 52, 52, 48, 55, 51, 55, 48, 57, 53, 53, 49, 54, 49, 54]⟩) := f47
  have f48 : xs 48 = (.bool true) := f48
  have f49 : xs 49 = (.bool true) := f49
  simp only [fillIn, Act.put, List.setIfInBounds_toArray, List.set_cons_zero, List.set_cons_succ, f0, f1, f2, f3, f4, f5, f6, f7, f8, f9, f10, f11, f12, f13, f14, f15, f16, f17, f18, f19, f20, f21, f22, f23, f24, f25, f26, f27, f28, f29, f30, f31, f32, f33, f34, f35, f36, f37, f38, f39, f40, f41, f42, f43, f44, f45, f46, f47, f48, f49, List.drop_succ_cons, List.drop_zero, List.length_cons, List.length_nil]
  obtain ⟨_, _, kW⟩ := hG
  go_wp2
  go_ret
  exact ⟨rfl, kW⟩
end Go.Proofs.Ytnpgikjahfhaoaa
