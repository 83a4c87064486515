/-
  The reference's Neg, Valid, Of and Int.
-/
import Derived.Test.YtnpgikjahfhaoaaWOps2
import Derived.Test.YtnpgikjahfhaoaaWJoin
import Derived.Test.YtnpgikjahfhaoaaKit
namespace Go.Proofs.Ytnpgikjahfhaoaa
open Go.RowKit Go.Proofs.WM Go.Proofs.Reg

theorem rneg_any (s : Bool) (n : Nat) (w : World) (hn : n < M256) :
    Calls Try.prog 20 #[.agg (widL s n)] w (Gives (.agg (widL (sg (!s) n) n)) w) := by
  have HN := Lib.hid hn
  clear hn
  go_enter Try.func20, Try.ntmps20
  go_wp2_with fail
  have hG : Keep [(w.heap.size, 25, widL s n), (w.heap.size + 1, 25, wid0)] w.heap.size 25 (widL s n) (widL s n) w (((w.alloc (.cells (widL s n) 25)).alloc (.cells wid0 25)).drew) := by
    refine ⟨?_, .inl ((Blk.new _ _ _).old _).drew, (below2 _ _ _).drew⟩
    intro k hk
    simp only [List.mem_cons, List.mem_nil_iff, or_false] at hk
    rcases hk with rfl | rfl
    · exact ((Blk.new _ _ _).old _).drew
    · exact (Blk.newAt (by simp) _ _).drew
  refine region_kit (ds := [some 3, some 4, some 5, some 6, some 7, some 8]) [] [[], [0], [1], [], [3], [2, 4]] (fun i => false) [.is _ 0 (.pointer (some ⟨w.heap.size, 0, none⟩)), .is _ 1 (.bool s), .is _ 2 (.bool (!s)), .is _ 3 (.agg (widL s n)), .is _ 4 (.agg (halL n)), .is _ 5 (.agg (widL (sg (!s) n) n))] (Keep [(w.heap.size, 25, (widL s n)), (w.heap.size + 1, 25, wid0)] (w.heap.size) 25 (widL s n) (widL s n) w) follows_mixed (by kernel_rfl) (by kernel_rfl) (by kernel_rfl) (fun _ _ h he => h.ext he (by intro r hr; simp at hr) (by intro r hr; simp at hr) (by intro r hr; simp at hr)) hG ?_ ?_
  · refine steps_cons ?_ (steps_cons ?_ (steps_cons ?_ (steps_cons ?_ (steps_cons ?_ (steps_cons ?_ (steps_nil))))))
    · exact fun xs wx hG _ => step_value (.pointer (some ⟨w.heap.size, 0, none⟩)) (w' := wx) (by simp only [fillIn, Act.put, List.setIfInBounds_toArray, List.set_cons_zero, List.set_cons_succ]; go_simp) rfl (Below.refl _ _)
    · intro xs wx hG hF
      have f1 : xs 0 = .pointer (some ⟨w.heap.size, 0, none⟩) := hF.1
      obtain ⟨c0, c1, c2, c3, c4⟩ := wide_cells (hG.rows _ (List.mem_cons_self ..))
      exact step_value (.bool s) (w' := wx) (by simp only [fillIn, Act.put, List.setIfInBounds_toArray, List.set_cons_zero, List.set_cons_succ, f1]; go_simp) rfl (Below.refl _ _)
    · intro xs wx hG hF
      have f1 : xs 1 = (.bool s) := hF.1
      exact step_value (.bool (!s)) (w' := wx) (by simp only [fillIn, Act.put, List.setIfInBounds_toArray, List.set_cons_zero, List.set_cons_succ, f1]; go_simp) rfl (Below.refl _ _)
    · exact fun xs wx hG _ => step_row 25 (.tmp 1) rfl (w.heap.size) (eval_old (by decide)) 25 (widL s n) _ (hG.rows _ (List.mem_cons_self ..)) under_wide rfl info_wide rfl
    · exact fun xs wx hG hF => step_call1 41 (.tmp 6) #[25] (.agg (widL s n)) rfl ((eval_new (i := 3) (by decide) rfl (by simp)).trans hF.1) (by kernel_rfl) (rsplit_any s n wx) (fun e w' h => ⟨_, h.1, rfl, h.2⟩)
    · exact fun xs wx hG hF => step_call2 42 (.tmp 5) (.tmp 7) #[4, 48] (.bool (!s)) (.agg (halL n)) rfl ((eval_new (i := 2) (by decide) rfl (by simp)).trans hF.1) ((eval_new (i := 4) (by decide) rfl (by simp)).trans hF.2.1) (by kernel_rfl) (rjoin_any (!s) n wx HN.out) (fun e w' h => ⟨_, h.1, rfl, h.2⟩)
  intro xs wx hG hA hF
  obtain ⟨f0, f1, f2, f3, f4, f5, _⟩ := hF
  have f0 : xs 0 = (.pointer (some ⟨w.heap.size, 0, none⟩)) := f0
  have f1 : xs 1 = (.bool s) := f1
  have f2 : xs 2 = (.bool (!s)) := f2
  have f3 : xs 3 = (.agg (widL s n)) := f3
  have f4 : xs 4 = (.agg (halL n)) := f4
  have f5 : xs 5 = (.agg (widL (sg (!s) n) n)) := f5
  simp only [fillIn, Act.put, List.setIfInBounds_toArray, List.set_cons_zero, List.set_cons_succ, f0, f1, f2, f3, f4, f5, List.drop_succ_cons, List.drop_zero, List.length_cons, List.length_nil]
  obtain ⟨kk, _, kW⟩ := hG
  have kR : Blk wx (w.heap.size + 1) 25 wid0 := kk _ (List.mem_cons_of_mem _ (List.mem_cons_self ..))
  refine wpList_store_row rfl 25 (.tmp 2) (.tmp 8) rfl (w.heap.size + 1) (widL (sg (!s) n) n) rfl rfl 25 _ kR info_wide rfl (widF_ones _ (wd n)) ?_
  have KR := Lib.hid (kR.row (widL (sg (!s) n) n))
  have kW := below_row kW (g := w.heap.size + 1) (by omega) (widL (sg (!s) n) n)
  clear kk kR f0 f1 f2 f3 f4 f5
  generalize World.setRow _ _ _ = W4 at KR kW ⊢
  go_wp2
  exact gives_row rfl (w.heap.size + 1) 25 (widL (sg (!s) n) n) _ rfl KR.out under_wide rfl info_wide rfl ⟨rfl, kW⟩

theorem rvalid_any (s : Bool) (n : Nat) (w : World) (hn : n < M256) :
    Calls Try.prog 18 #[.agg (widL s n)] w (Gives (.bool (validB s n)) w) := by
  have HN := Lib.hid hn
  clear hn
  unfold widL
  cases s
  · have E := Lib.hid (show true = validB false n by simp [validB, sg])
    go_enter Try.func18, Try.ntmps18
    go_wp2
    go_ret
    exact ⟨by rw [← E.out]; rfl, below1 _ _⟩
  · have E := Lib.hid (show (!(n == 0)) = validB true n by unfold validB sg; by_cases h : n = 0 <;> simp [h, bne])
    go_enter Try.func18, Try.ntmps18
    go_wp2_with fail
    refine (rsplit_any true n _).mono ?_
    rintro e w1 ⟨rfl, hb⟩
    have kW := (below1 w _).trans (hb.mono (by simp))
    clear hb
    go_wp2_with fail
    refine (zero_any n _ HN.out).mono ?_
    rintro e w2 ⟨rfl, hb⟩
    have kW := kW.trans (hb.mono kW.size)
    clear hb
    go_wp2
    go_ret
    exact ⟨by rw [← E.out]; rfl, kW⟩

theorem rof_any (n : Int) (w : World) (h1 : -9223372036854775808 ≤ n) (h2 : n ≤ 9223372036854775807) :
    Calls Try.prog 16 #[.int .i64 n] w (Gives (.agg (widL (ngB n) n.natAbs)) w) := by
  have hm : n.natAbs < 18446744073709551616 := by omega
  have EL := Lib.hid (magL_small _ hm)
  by_cases h : n < 0
  · have E := Lib.hid (show true = ngB n by simp [ngB, h])
    have e : IntKind.u64.wrap (IntKind.u64.wrap (IntKind.i64.wrap (-(IntKind.i64.wrap (n + 1)))) + 1) = ((n.natAbs : Nat) : Int) := by
      rw [IntKind.wrap_u64, IntKind.wrap_u64, IntKind.wrap_i64, IntKind.wrap_i64]; omega
    have s1 : IntKind.i64.wrap (n + 1) = n + 1 := by rw [IntKind.wrap_i64]; omega
    have s2 : IntKind.i64.wrap (-(n + 1)) = -(n + 1) := by rw [IntKind.wrap_i64]; omega
    have s3 : IntKind.u64.wrap (-(n + 1)) = -(n + 1) := wrap_in _ (by omega) (by omega)
    have s4 : IntKind.u64.wrap (-(n + 1) + 1) = ((n.natAbs : Nat) : Int) := by rw [IntKind.wrap_u64]; omega
    generalize n.natAbs = m at *
    obtain ⟨x0, x1, x2, x3⟩ := wd_small m hm
    have EW := Lib.hid (show (#[.bool true, .int .u64 (m : Int), .int .u64 0, .int .u64 0, .int .u64 0] : Array Value) = widL (ngB n) m by rw [← E.out]; unfold widL; rw [x0, x1, x2, x3]; rfl)
    clear hm x0 x1 x2 x3 e
    go_enter Try.func16, Try.ntmps16
    go_wp2
    exact bodyPost_ret (v := .agg #[.bool true, .int .u64 (m : Int), .int .u64 0, .int .u64 0, .int .u64 0]) (by simp [results, Try.results16, go_sem]) rfl ⟨by rw [EW.out], below1 _ _⟩
  · have E := Lib.hid (show false = ngB n by simp [ngB, h])
    have e : IntKind.u64.wrap n = ((n.natAbs : Nat) : Int) := by rw [IntKind.wrap_u64]; omega
    generalize n.natAbs = m at *
    obtain ⟨x0, x1, x2, x3⟩ := wd_small m hm
    have EW := Lib.hid (show (#[.bool false, .int .u64 (m : Int), .int .u64 0, .int .u64 0, .int .u64 0] : Array Value) = widL (ngB n) m by rw [← E.out]; unfold widL; rw [x0, x1, x2, x3]; rfl)
    clear hm x0 x1 x2 x3
    go_enter Try.func16, Try.ntmps16
    go_wp2
    exact bodyPost_ret (v := .agg #[.bool false, .int .u64 (m : Int), .int .u64 0, .int .u64 0, .int .u64 0]) (by simp [results, Try.results16, go_sem]) rfl ⟨by rw [EW.out], below1 _ _⟩
end Go.Proofs.Ytnpgikjahfhaoaa
