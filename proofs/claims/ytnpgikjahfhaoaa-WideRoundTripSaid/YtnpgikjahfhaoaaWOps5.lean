/-
  The program's Mul.
-/
import Derived.Test.YtnpgikjahfhaoaaWOps3
namespace Go.Proofs.Ytnpgikjahfhaoaa
open Go.RowKit Go.Proofs.WM Go.Proofs.Reg

def mlN (n m : Nat) : Nat := if M256 ≤ n * m then 0 else n * m
def mlS (s : Bool) (n : Nat) (t : Bool) (m : Nat) : Bool := if M256 ≤ n * m then false else sg (s != t) (n * m)
def mlE (n m : Nat) : Int := if M256 ≤ n * m then 21 else 0
def MulV (s : Bool) (n : Nat) (t : Bool) (m : Nat) : Value := .tuple #[.agg (widL (mlS s n t m) (mlN n m)), .int .i64 (mlE n m)]
theorem mulV_in {s t : Bool} {n m : Nat} (h : n * m < M256) : MulV s n t m = .tuple #[.agg (widL (sg (s != t) (n * m)) (n * m)), .int .i64 0] := by
  unfold MulV mlS mlN mlE
  rw [if_neg (by omega), if_neg (by omega), if_neg (by omega)]
theorem mulV_over {s t : Bool} {n m : Nat} (h : M256 ≤ n * m) : MulV s n t m = .tuple #[.agg (widL false 0), .int .i64 21] := by
  unfold MulV mlS mlN mlE
  rw [if_pos h, if_pos h, if_pos h]

theorem pmul_wide (s t : Bool) (n m : Nat) (w : World) (hn : n < M256) (hm : m < M256) :
    Calls Try.prog 28 #[.agg (widL s n), .agg (widL t m)] w (Gives (MulV s n t m) w) := by
  obtain ⟨k, o, v, q, c, hV, hc, hE⟩ : ∃ (k : Nat) (o v : Bool) (q : Nat) (c : Int), MulV s n t m = .tuple #[.agg (widL v q), .int .i64 c] ∧ (∀ w, Calls Try.prog 50 #[.agg (magL n), .agg (magL m)] w (Gives (.tuple #[.agg (magL k), .bool o]) w)) ∧ (∀ w, Calls Try.prog 46 #[.bool (s != t), .agg (magL k), .bool o] w (Gives (.tuple #[.agg (widL v q), .int .i64 c]) w)) := by
    by_cases h : M256 ≤ n * m
    · refine ⟨mulN n m, true, false, 0, 21, mulV_over h, fun w => ?_, fun w => checked_over _ _ w⟩
      have := pmultiply_any n m w hn hm
      rwa [show mulB n m = true from decide_eq_true h] at this
    · refine ⟨n * m, false, sg (s != t) (n * m), n * m, 0, mulV_in (by omega), fun w => ?_, fun w => checked_ok _ (n * m) w (by omega)⟩
      have := pmultiply_any n m w hn hm
      rwa [show mulB n m = false from decide_eq_false h, show mulN n m = n * m from Nat.mod_eq_of_lt (by omega)] at this
  have HV := Lib.hid hV
  have HC := Lib.hid hc
  have HE := Lib.hid hE
  clear hn hm hV hc hE
  unfold widL
  go_enter Try.func28, Try.ntmps28
  go_wp2_with fail
  refine (HC.out _).mono ?_
  rintro e w1 ⟨rfl, hb⟩
  have kA : Hid (Blk w1 w.heap.size 25 (widL s n)) := Blk.below (((Blk.new _ _ _).old _).old _) hb
  have kB : Hid (Blk w1 (w.heap.size + 1) 25 (widL t m)) := Blk.below ((Blk.newAt (by simp) _ _).old _) hb
  have kR : Hid (Blk w1 (w.heap.size + 1 + 1) 25 wid0) := Blk.below (Blk.newAt (by simp) _ _) hb
  have kW : Below w.heap.size w w1 := (below3 _ _ _ _).trans (hb.mono (by simp; omega))
  have lR := kR.out.lt
  clear hb
  have c0 : ((w1.alloc (.cells mag0 45)).setRow w1.heap.size (magL k)).cell? ⟨w.heap.size, 0, none⟩ = some (.bool s) := by
    rw [((kA.out.old _).rowOther (by omega) _).cell]; rfl
  have c1 : ((w1.alloc (.cells mag0 45)).setRow w1.heap.size (magL k)).cell? ⟨w.heap.size + 1, 0, none⟩ = some (.bool t) := by
    rw [((kB.out.old _).rowOther (by omega) _).cell]; rfl
  go_wp2_with (first | (refine wpList_store_row rfl 45 (.tmp 6) (.tmp 14) rfl w1.heap.size (magL k) rfl rfl 45 _ (Blk.new _ _ _) info_mag rfl (rowF_ones 4 (wd k)) ?_) | (refine wpList_load_row rfl 45 (.tmp 6) rfl w1.heap.size rfl 45 _ (0, 0) _ ((Blk.new _ _ _).row _) under_mag rfl info_mag ?_))
  refine (HE.out _).mono ?_
  rintro e w2 ⟨rfl, hb⟩
  have kR := Lib.hid (((kR.out.old _).rowOther (by omega) _).below hb)
  have kW := (below_row (kW.alloc (by omega) _) (by omega) _).trans (hb.mono (by simp; omega))
  clear hb c0 c1
  go_wp2_with (refine wpList_store_row rfl 25 (.tmp 4) (.tmp 24) rfl (w.heap.size + 1 + 1) (widL v q) rfl rfl 25 _ kR.out info_wide rfl (widF_ones v (wd q)) ?_)
  exact gives_row_tmp rfl (w.heap.size + 1 + 1) 25 (widL v q) _ (.int .i64 c) rfl rfl (kR.out.row _) under_wide rfl info_wide rfl ⟨by rw [HV.out], below_row kW (by omega) _⟩
end Go.Proofs.Ytnpgikjahfhaoaa
