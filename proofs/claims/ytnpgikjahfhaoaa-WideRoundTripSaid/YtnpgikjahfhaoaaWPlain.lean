/-
  plain: a number in its valid form.
-/
import Derived.Test.YtnpgikjahfhaoaaWOps1
import Derived.Test.YtnpgikjahfhaoaaWDig
namespace Go.Proofs.Ytnpgikjahfhaoaa
open Go.RowKit Go.Proofs.WM Go.Proofs.WD

theorem eq_zero (w : World) : (Op.equalIn 10000 25 (.agg (widL false 0)) (.agg wid0)).run Try.prog w = .ok true w := by
  rw [widL0, eq_wide false false 0 0 m_pos m_pos w]; rfl
theorem eq_zero_ne (s : Bool) (n : Nat) (hn : n < M256) (h : n ≠ 0) (w : World) : (Op.equalIn 10000 25 (.agg (widL s n)) (.agg wid0)).run Try.prog w = .ok false w := by
  rw [widL0, eq_wide s false n 0 hn m_pos w, show (n == 0) = false by simpa using h, Bool.and_false]
theorem parW_else (l : List UInt8) : (ParW l).2.2 ≠ 0 → (ParW l).1 = false ∧ (ParW l).2.1 = 0 := by
  unfold ParW
  split
  · exact fun _ => ⟨rfl, rfl⟩
  · split
    · split
      · exact fun h => absurd rfl h
      · exact fun _ => ⟨rfl, rfl⟩
    · exact fun _ => ⟨rfl, rfl⟩

theorem plain_any (s : Bool) (n : Nat) (w : World) (hn : n < M256) :
    Calls Try.prog 38 #[.agg (widL s n)] w (Gives (.agg (widL (sg s n) n)) w) := by
  have e0 := fun wx => eq_arr0 n hn wx
  have k1 : Hid (Blk ((w.alloc (.cells (widL s n) 25)).alloc (.cells wid0 25)) w.heap.size 25 (widL s n)) := (Blk.new _ _ _).old _
  have k2 : Hid (Blk ((w.alloc (.cells (widL s n) 25)).alloc (.cells wid0 25)) (w.heap.size + 1) 25 wid0) := Blk.newAt (by simp) _ _
  have kW := below2 w (.cells (widL s n) 25) (.cells wid0 25)
  by_cases h : n = 0
  · subst h
    have E := Lib.hid (show widL false 0 = widL (sg s 0) 0 by rw [sg_zero])
    rw [show ((0 : Nat) == 0) = true from rfl] at e0
    unfold magL mag0 at e0
    clear hn
    go_enter Try.func38, Try.ntmps38
    go_wp2_with (refine wpList_store_row rfl 25 (.tmp 2) (.tmp 7) rfl (w.heap.size + 1) wid0 rfl rfl 25 _ k2.out info_wide rfl (widF_ones false (fun _ => 0)) ?_)
    exact gives_row rfl (w.heap.size + 1) 25 (widL false 0) _ rfl ((k2.out.row _).of_eq widL0) under_wide rfl info_wide rfl ⟨by rw [E.out], below_row kW (by omega) _⟩
  · have E := Lib.hid (sg_pos s h)
    rw [show (n == 0) = false by simpa using h] at e0
    unfold magL mag0 at e0
    clear hn h
    go_enter Try.func38, Try.ntmps38
    go_wp2_with (first | (refine wpList_load_row rfl 25 (.tmp 1) rfl w.heap.size rfl 25 _ (0, 0) _ k1.out under_wide rfl info_wide ?_) | (refine wpList_store_row rfl 25 (.tmp 2) (.tmp 8) rfl (w.heap.size + 1) (widL s n) rfl rfl 25 _ k2.out info_wide rfl (widF_ones _ (wd n)) ?_))
    exact gives_row rfl (w.heap.size + 1) 25 (widL s n) _ rfl (k2.out.row _) under_wide rfl info_wide rfl ⟨by rw [E.out], below_row kW (by omega) _⟩
end Go.Proofs.Ytnpgikjahfhaoaa
