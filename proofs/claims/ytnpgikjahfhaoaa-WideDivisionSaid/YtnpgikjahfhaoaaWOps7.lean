/-
  The program's Gcd.
-/
import Derived.Test.YtnpgikjahfhaoaaWOps1
import Derived.Test.YtnpgikjahfhaoaaWDivide
import Derived.Test.YtnpgikjahfhaoaaKit
import Derived.Deep.LoopGhost
namespace Go.Proofs.Ytnpgikjahfhaoaa
open Go.RowKit Go.Proofs.WM Go.Proofs.Reg

set_option maxHeartbeats 2000000 in
theorem pgcd_wide (s t : Bool) (n m : Nat) (w : World) (hn : n < M256) (hm : m < M256) :
    Calls Try.prog 32 #[.agg (widL s n), .agg (widL t m)] w (Gives (.agg (widL false (Nat.gcd n m))) w) := by
  have HN := Lib.hid hn
  have HM := Lib.hid hm
  clear hn hm
  go_enter Try.func32, Try.ntmps32
  go_wp2_with fail
  have hG : Keep [(w.heap.size, 25, widL s n), (w.heap.size + 1, 25, widL t m)] (w.heap.size + 1 + 1) 25 wid0 wid0 w ((((w.alloc (.cells (widL s n) 25)).alloc (.cells (widL t m) 25)).alloc (.cells wid0 25)).drew) := by
    refine ⟨?_, .inl (Blk.newAt (by simp) _ _).drew, (below3 _ _ _ _).drew⟩
    intro k hk
    simp only [List.mem_cons, List.mem_nil_iff, or_false] at hk
    rcases hk with rfl | rfl
    · exact (((Blk.new _ _ _).old _).old _).drew
    · exact ((Blk.newAt (by simp) _ _).old _).drew
  refine region_kit (ds := [some 9, some 10, some 11, some 12, some 5, some 6, none]) [((· == w.heap.size + 1 + 1), 25, wid0), ((fun k => decide (w.heap.size + 1 + 1 + 1 ≤ k)), 45, (magL n))] [[], [0], [], [2], [], [], [1, 4]] (fun i => i == 4 || i == 5) [.is _ 0 (.pointer (some ⟨w.heap.size, 1, none⟩)), .is _ 1 (.agg (magL n)), .is _ 2 (.pointer (some ⟨w.heap.size + 1, 1, none⟩)), .is _ 3 (.agg (magL m)), .ptr2 _ 4 (w.heap.size + 1 + 1 + 1) 45 mag0 (magL n) (by intro r hr k hk hx; simp only [List.mem_cons, List.mem_nil_iff, or_false] at hr; rcases hr with rfl | rfl <;> simp at hx ⊢ <;> omega), .ptr2 _ 5 (w.heap.size + 1 + 1 + 1) 45 mag0 (magL n) (by intro r hr k hk hx; simp only [List.mem_cons, List.mem_nil_iff, or_false] at hr; rcases hr with rfl | rfl <;> simp at hx ⊢ <;> omega), .own _ 4 (w.heap.size + 1 + 1 + 1) 45 (magL n) (by intro r hr k hk hx; simp only [List.mem_cons, List.mem_nil_iff, or_false] at hr; rcases hr with rfl | rfl <;> simp at hx ⊢ <;> omega)] (Keep [(w.heap.size, 25, (widL s n)), (w.heap.size + 1, 25, (widL t m))] (w.heap.size + 1 + 1) 25 wid0 wid0 w) follows_mixed (by kernel_rfl) (by kernel_rfl) (by kernel_rfl) (fun _ _ h he => h.ext he (by intro r hr k hk; simp only [List.mem_cons, List.mem_nil_iff, or_false] at hr hk; rcases hr with rfl | rfl <;> rcases hk with rfl | rfl <;> simp <;> omega) (by intro r hr hx; simp only [List.mem_cons, List.mem_nil_iff, or_false] at hr; rcases hr with rfl | rfl <;> simp at hx ⊢ <;> omega) (by intro r hr k hk; simp only [List.mem_cons, List.mem_nil_iff, or_false] at hr; rcases hr with rfl | rfl <;> simp <;> omega)) hG ?_ ?_
  · refine steps_cons ?_ (steps_cons ?_ (steps_cons ?_ (steps_cons ?_ (steps_cons ?_ (steps_cons ?_ (steps_cons ?_ (steps_nil)))))))
    · exact fun xs wx hG _ => step_value (.pointer (some ⟨w.heap.size, 1, none⟩)) (w' := wx) (by simp only [fillIn, Act.put, List.setIfInBounds_toArray, List.set_cons_zero, List.set_cons_succ]; go_simp) rfl (Below.refl _ _)
    · intro xs wx hG hF
      have f1 : xs 0 = .pointer (some ⟨w.heap.size, 1, none⟩) := hF.1
      obtain ⟨c0, c1, c2, c3, c4⟩ := wide_cells (hG.rows _ (List.mem_cons_self ..))
      exact step_value (.agg (magL n)) (w' := wx) (by simp only [fillIn, Act.put, List.setIfInBounds_toArray, List.set_cons_zero, List.set_cons_succ, f1]; go_simp) rfl (Below.refl _ _)
    · exact fun xs wx hG _ => step_value (.pointer (some ⟨w.heap.size + 1, 1, none⟩)) (w' := wx) (by simp only [fillIn, Act.put, List.setIfInBounds_toArray, List.set_cons_zero, List.set_cons_succ]; go_simp) rfl (Below.refl _ _)
    · intro xs wx hG hF
      have f1 : xs 2 = .pointer (some ⟨w.heap.size + 1, 1, none⟩) := hF.1
      obtain ⟨c0, c1, c2, c3, c4⟩ := wide_cells (hG.rows _ (List.mem_cons_of_mem _ (List.mem_cons_self ..)))
      exact step_value (.agg (magL m)) (w' := wx) (by simp only [fillIn, Act.put, List.setIfInBounds_toArray, List.set_cons_zero, List.set_cons_succ, f1]; go_simp) rfl (Below.refl _ _)
    · exact fun xs wx hG _ => step_alloc (.cells mag0 45) (by go_simp) ⟨_, (by have := (hG.res.elim Blk.lt Blk.lt); omega), rfl, .inl (Blk.new _ _ _)⟩
    · exact fun xs wx hG _ => step_alloc (.cells mag0 45) (by go_simp) ⟨_, (by have := (hG.res.elim Blk.lt Blk.lt); omega), rfl, .inl (Blk.new _ _ _)⟩
    · intro xs wx hG hF
      obtain ⟨g, hg, hx, hr | hr⟩ := hF.2.1
      · exact step_store 45 (.tmp 5) (.tmp 10) rfl g (magL n) ((eval_new (i := 4) (by decide) rfl (by simp)).trans hx) ((eval_new (i := 1) (by decide) rfl (by simp)).trans hF.1) _ _ hr info_mag rfl (rowF_ones 4 (wd n)) ⟨_, (List.mem_cons_of_mem _ (List.mem_cons_self ..)), by simp <;> omega, rfl, rfl⟩ ⟨g, hg, hx, Blk.row hr _⟩
      · exact step_store 45 (.tmp 5) (.tmp 10) rfl g (magL n) ((eval_new (i := 4) (by decide) rfl (by simp)).trans hx) ((eval_new (i := 1) (by decide) rfl (by simp)).trans hF.1) _ _ hr info_mag rfl (rowF_ones 4 (wd n)) ⟨_, (List.mem_cons_of_mem _ (List.mem_cons_self ..)), by simp <;> omega, rfl, rfl⟩ ⟨g, hg, hx, Blk.row hr _⟩
  intro xs wx hG hA hF
  obtain ⟨f0, f1, f2, f3, f4, f5, f6, _⟩ := hF
  have f0 : xs 0 = (.pointer (some ⟨w.heap.size, 1, none⟩)) := f0
  have f1 : xs 1 = (.agg (magL n)) := f1
  have f2 : xs 2 = (.pointer (some ⟨w.heap.size + 1, 1, none⟩)) := f2
  have f3 : xs 3 = (.agg (magL m)) := f3
  obtain ⟨g4, l4, x4, r4⟩ := f4
  obtain ⟨g5, l5, x5, r5⟩ := f5
  obtain ⟨g6, l6, x6, r6⟩ := f6
  simp only [fillIn, Act.put, List.setIfInBounds_toArray, List.set_cons_zero, List.set_cons_succ, f0, f1, f2, f3, x4, x5, List.drop_succ_cons, List.drop_zero, List.length_cons, List.length_nil]
  have hne := hA 4 5 (by decide) (by decide) rfl rfl (by decide)
  rw [x4, x5] at hne
  have h45 : g4 ≠ g5 := fun e => hne (by rw [e])
  obtain ⟨kk, kres, kW⟩ := hG
  have kR : Hid (Blk wx (w.heap.size + 1 + 1) 25 wid0) := kres.elim id id
  have e46 : g4 = g6 := by
    have := x4.symm.trans x6
    simp at this
    exact this
  subst e46
  have R4 : Hid (Blk wx g4 45 (magL n)) := r6
  obtain ⟨yv, hyv, R5⟩ : ∃ yv : Nat, (magL yv).size = 4 ∧ Hid (Blk wx g5 45 (magL yv)) := by
    rcases r5 with h | h
    · exact ⟨0, rfl, magL0 ▸ h⟩
    · exact ⟨n, rfl, h⟩
  have lt4 := R4.out.lt
  have lt5 := R5.out.lt
  clear kk kres hne r4 r5 r6 x4 x5 x6 hyv
  go_wp2_with (refine wpList_store_row rfl 45 (.tmp 6) (.tmp 12) rfl g5 (magL m) rfl rfl 45 _ R5.out info_mag rfl (rowF_ones 4 (wd m)) ?_)
  have kX := Lib.hid (R4.out.rowOther (k := g5) h45 (magL m))
  have kY := Lib.hid (R5.out.row (magL m))
  have kR := Lib.hid (kR.out.rowOther (k := g5) (by omega) (magL m))
  have kW := below_row kW (g := g5) (by omega) (magL m)
  generalize World.setRow _ _ _ = W1 at kX kY kR kW ⊢
  clear R4 R5 lt4 lt5
  generalize g4 = gx at *
  generalize g5 = gy at *
  go_loopg [13] m (fun k s13 wr => ∃ X, X < M256 ∧ k < M256 ∧ Nat.gcd X k = Nat.gcd n m ∧ Hid (Blk wr gx 45 (magL X)) ∧ Hid (Blk wr gy 45 (magL k)) ∧ Hid (Blk wr (w.heap.size + 1 + 1) 25 wid0) ∧ Below w.heap.size w wr)
  case atStart => exact ⟨n, HN.out, HM.out, rfl, kX.out, kY.out, kR.out, kW⟩
  case round =>
    clear kX kY kR kW
    obtain ⟨X, hX, hk, hgcd, kX, kY, kR, kW⟩ := hrel
    have eY := fun wx => eq_mag0 gk hk wx
    have HX := Lib.hid hX
    have HY := Lib.hid hk
    have HG := Lib.hid hgcd
    clear hX hk hgcd
    generalize gk = Y at *
    by_cases h0 : Y = 0
    · subst h0
      rw [show ((0 : Nat) == 0) = true from rfl] at eY
      unfold magL mag0 at eY
      have HV := Lib.hid (show widL (sg false X) X = widL false (Nat.gcd n m) by rw [sg_false, ← HG.out, Nat.gcd_zero_right])
      go_wp2_with (first | (refine wpList_load_row rfl 45 (.tmp 6) rfl gy rfl 45 _ (0, 0) _ kY.out under_mag rfl info_mag ?_) | (refine wpList_load_row rfl 45 (.tmp 5) rfl gx rfl 45 _ (0, 0) _ kX.out under_mag rfl info_mag ?_))
      refine (signed_any false X _ HX.out).mono ?_
      rintro e w2 ⟨rfl, hb⟩
      have kR := Lib.hid (kR.out.below hb)
      have kW := kW.trans (hb.mono kW.size)
      clear hb
      go_wp2_with (refine wpList_store_row rfl 25 (.tmp 4) (.tmp 25) rfl (w.heap.size + 1 + 1) (widL (sg false X) X) rfl rfl 25 _ kR.out info_wide rfl (widF_ones _ (wd X)) ?_)
      exact gives_row rfl (w.heap.size + 1 + 1) 25 (widL (sg false X) X) _ rfl (kR.out.row _) under_wide rfl info_wide rfl ⟨by rw [HV.out], below_row kW (by omega) _⟩
    · rw [show (Y == 0) = false by simpa using h0] at eY
      unfold magL mag0 at eY
      have H0 := Lib.hid (show 0 < Y by omega)
      have HGG := Lib.hid (show Nat.gcd Y (X % Y) = Nat.gcd n m by rw [← HG.out, Nat.gcd_comm Y (X % Y), ← Nat.gcd_rec, Nat.gcd_comm])
      clear h0
      go_wp2_with (first | (refine wpList_load_row rfl 45 (.tmp 6) rfl gy rfl 45 _ (0, 0) _ kY.out under_mag rfl info_mag ?_) | (refine wpList_load_row rfl 45 (.tmp 5) rfl gx rfl 45 _ (0, 0) _ kX.out under_mag rfl info_mag ?_))
      refine (pdivide_any X Y _ HX.out HY.out H0.out).mono ?_
      rintro e w2 ⟨rfl, hb⟩
      have kX := Lib.hid (kX.out.below hb)
      have kY := Lib.hid (kY.out.below hb)
      have kR := Lib.hid (kR.out.below hb)
      have kW := kW.trans (hb.mono kW.size)
      have lX := kX.out.lt
      have lY := kY.out.lt
      have lR := kR.out.lt
      clear hb
      have kq0 : Hid (Blk ((w2.alloc (.cells mag0 45)).alloc (.cells mag0 45)) w2.heap.size 45 mag0) := (Blk.new _ _ _).old _
      have kr0 : Hid (Blk (((w2.alloc (.cells mag0 45)).alloc (.cells mag0 45)).setRow w2.heap.size (magL (X / Y))) (w2.heap.size + 1) 45 mag0) := (Blk.newAt (by simp) _ _).rowOther (by omega) _
      go_wp2_with (first | (refine wpList_store_row rfl 45 (.tmp 7) (.tmp 20) rfl w2.heap.size (magL (X / Y)) rfl rfl 45 _ kq0.out info_mag rfl (rowF_ones 4 (wd (X / Y))) ?_) | (refine wpList_store_row rfl 45 (.tmp 8) (.tmp 21) rfl (w2.heap.size + 1) (magL (X % Y)) rfl rfl 45 _ kr0.out info_mag rfl (rowF_ones 4 (wd (X % Y))) ?_))
      have kX := Lib.hid ((((kX.out.old (.cells mag0 45)).old (.cells mag0 45)).rowOther (k := w2.heap.size) (by omega) (magL (X / Y))).rowOther (k := w2.heap.size + 1) (by omega) (magL (X % Y)))
      have kY := Lib.hid ((((kY.out.old (.cells mag0 45)).old (.cells mag0 45)).rowOther (k := w2.heap.size) (by omega) (magL (X / Y))).rowOther (k := w2.heap.size + 1) (by omega) (magL (X % Y)))
      have kR := Lib.hid ((((kR.out.old (.cells mag0 45)).old (.cells mag0 45)).rowOther (k := w2.heap.size) (by omega) (magL (X / Y))).rowOther (k := w2.heap.size + 1) (by omega) (magL (X % Y)))
      have kM := Lib.hid (kr0.out.row (magL (X % Y)))
      have kW := below_row (below_row ((kW.alloc kW.size (.cells mag0 45)).alloc (by simp; have := kW.size; omega) (.cells mag0 45)) (g := w2.heap.size) kW.size (magL (X / Y))) (g := w2.heap.size + 1) (by have := kW.size; omega) (magL (X % Y))
      obtain ⟨L, hL⟩ : ∃ L, L = w2.heap.size := ⟨_, rfl⟩
      rw [← hL] at kX kY kR kM kW lX lY lR ⊢
      clear hL kq0 kr0
      generalize World.setRow _ _ _ = W4 at kX kY kR kM kW ⊢
      have hK : Keep [(gy, 45, magL Y), (L + 1, 45, magL (X % Y)), (w.heap.size + 1 + 1, 25, wid0)] gx 45 (magL X) (magL Y) w W4.drew := by
        refine ⟨?_, .inl kX.out.drew, kW.drew⟩
        intro k hk
        simp only [List.mem_cons, List.mem_nil_iff, or_false] at hk
        rcases hk with rfl | rfl | rfl
        · exact kY.out.drew
        · exact kM.out.drew
        · exact kR.out.drew
      clear kX kY kR kM kW
      simp only [Act.put]
      refine region_kit (ds := [some 22, some 23, none]) [((· == gx), 45, (magL Y))] [[], [], [0]] (fun i => false) [.is _ 0 (.agg (magL Y)), .is _ 1 (.agg (magL (X % Y))), .row _ (gx) 45 (magL Y) (by intro r hr hx; simp only [List.mem_cons, List.mem_nil_iff, or_false] at hr; rcases hr with rfl <;> simp at hx ⊢ <;> omega)] (Keep [(gy, 45, (magL Y)), ((L + 1), 45, (magL (X % Y))), (w.heap.size + 1 + 1, 25, wid0)] (gx) 45 (magL X) (magL Y) w) follows_mixed (by kernel_rfl) (by kernel_rfl) (by kernel_rfl) (fun _ _ h he => h.ext he (by intro r hr k hk; simp only [List.mem_cons, List.mem_nil_iff, or_false] at hr hk; rcases hr with rfl <;> rcases hk with rfl | rfl | rfl <;> simp <;> omega) (by intro r hr hx; simp only [List.mem_cons, List.mem_nil_iff, or_false] at hr; rcases hr with rfl <;> simp at hx ⊢ <;> omega) (by intro r hr k hk; simp only [List.mem_cons, List.mem_nil_iff, or_false] at hr; rcases hr with rfl <;> simp <;> omega)) hK ?_ ?_
      · refine steps_cons ?_ (steps_cons ?_ (steps_cons ?_ (steps_nil)))
        · exact fun xs wx hG _ => step_row 45 (.tmp 6) rfl (gy) (eval_old (by decide)) 45 (magL Y) _ (hG.rows _ (List.mem_cons_self ..)) under_mag rfl info_mag rfl
        · exact fun xs wx hG _ => step_row 45 (.tmp 8) rfl ((L + 1)) (eval_old (by decide)) 45 (magL (X % Y)) _ (hG.rows _ (List.mem_cons_of_mem _ (List.mem_cons_self ..))) under_mag rfl info_mag rfl
        · intro xs wx hG hF
          rcases hG.res with hr | hr
          · exact step_store 45 (.tmp 5) (.tmp 22) rfl (gx) (magL Y) (eval_old (by decide)) ((eval_new (i := 0) (by decide) rfl (by simp)).trans hF.1) _ _ hr info_mag rfl (rowF_ones 4 (wd Y)) ⟨_, (List.mem_cons_self ..), by simp, rfl, rfl⟩ (Blk.row hr _)
          · exact step_store 45 (.tmp 5) (.tmp 22) rfl (gx) (magL Y) (eval_old (by decide)) ((eval_new (i := 0) (by decide) rfl (by simp)).trans hF.1) _ _ hr info_mag rfl (rowF_ones 4 (wd Y)) ⟨_, (List.mem_cons_self ..), by simp, rfl, rfl⟩ (Blk.row hr _)
      intro xs wx hG hA hF
      obtain ⟨f0, f1, f2, _⟩ := hF
      have f0 : xs 0 = (.agg (magL Y)) := f0
      have f1 : xs 1 = (.agg (magL (X % Y))) := f1
      simp only [fillIn, Act.put, List.setIfInBounds_toArray, List.set_cons_zero, List.set_cons_succ, f0, f1, List.drop_succ_cons, List.drop_zero, List.length_cons, List.length_nil]
      obtain ⟨kk, kres, kW⟩ := hG
      have kY : Hid (Blk wx gy 45 (magL Y)) := kk _ (List.mem_cons_self ..)
      have kR : Hid (Blk wx (w.heap.size + 1 + 1) 25 wid0) := kk _ (List.mem_cons_of_mem _ (List.mem_cons_of_mem _ (List.mem_cons_self ..)))
      have kX : Hid (Blk wx gx 45 (magL Y)) := f2
      clear kk kres f2
      go_wp2_with (refine wpList_store_row rfl 45 (.tmp 6) (.tmp 23) rfl gy (magL (X % Y)) rfl rfl 45 _ kY.out info_mag rfl (rowF_ones 4 (wd (X % Y))) ?_)
      have hlt := Nat.mod_lt X H0.out
      go_roundg (X % Y)
      case measure => exact hlt
      case rel => exact ⟨Y, HY.out, Nat.lt_trans hlt HY.out, HGG.out, kX.out.rowOther h45 _, kY.out.row _, kR.out.rowOther (by omega) _, below_row kW (by omega) _⟩
end Go.Proofs.Ytnpgikjahfhaoaa
