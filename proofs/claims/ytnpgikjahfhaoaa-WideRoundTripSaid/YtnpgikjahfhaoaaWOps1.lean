/-
  The program's small functions on wide integers.
-/
import Derived.Test.YtnpgikjahfhaoaaWTool
namespace Go.Proofs.Ytnpgikjahfhaoaa
open Go.RowKit Go.Proofs.WM Go.Proofs.Reg

theorem below3 (w : World) (a b c : Obj) : Below w.heap.size w (((w.alloc a).alloc b).alloc c) := (((Below.refl _ _).alloc (Nat.le_refl _) _).alloc (by simp) _).alloc (by simp; omega) _
theorem below2 (w : World) (a b : Obj) : Below w.heap.size w ((w.alloc a).alloc b) := ((Below.refl _ _).alloc (Nat.le_refl _) _).alloc (by simp) _
theorem below1 (w : World) (a : Obj) : Below w.heap.size w (w.alloc a) := (Below.refl _ _).alloc (Nat.le_refl _) _
abbrev wid0 : Array Value := #[.bool false, .int .u64 0, .int .u64 0, .int .u64 0, .int .u64 0]
theorem widL0 : wid0 = widL false 0 := by simp [wd_zero]

theorem checked_over (neg : Bool) (n : Nat) (w : World) :
    Calls Try.prog 46 #[.bool neg, .agg (magL n), .bool true] w (Gives (.tuple #[.agg (widL false 0), .int .i64 21]) w) := by
  have E := Lib.hid widL0
  go_enter Try.func46, Try.ntmps46
  go_wp2
  exact bodyPost_ret (v := .tuple #[.agg wid0, .int .i64 21]) (by simp [results, Try.results46, go_sem]) rfl ⟨by rw [E.out], below2 _ _ _⟩

theorem checked_ok (neg : Bool) (n : Nat) (w : World) (hn : n < M256) :
    Calls Try.prog 46 #[.bool neg, .agg (magL n), .bool false] w (Gives (.tuple #[.agg (widL (sg neg n) n), .int .i64 0]) w) := by
  have HN := Lib.hid hn
  clear hn
  unfold magL
  go_enter Try.func46, Try.ntmps46
  go_wp2_with fail
  refine (signed_any neg n _ HN.out).mono ?_
  rintro e w1 ⟨rfl, hb⟩
  have kR : Hid (Blk w1 (w.heap.size + 1) 25 wid0) := Blk.below (Blk.newAt (by simp) _ _) hb
  have kW : Below w.heap.size w w1 := (below2 _ _ _).trans (hb.mono (by simp; omega))
  clear hb
  go_wp2_with (refine wpList_store_row rfl 25 _ _ rfl (w.heap.size + 1) (widL (sg neg n) n) rfl rfl 25 _ kR.out info_wide rfl (widF_ones _ (wd n)) ?_)
  refine gives_row_tmp rfl (w.heap.size + 1) 25 (widL (sg neg n) n) _ (.int .i64 0) rfl rfl (kR.out.row _) under_wide rfl info_wide rfl ⟨rfl, below_row kW (by omega) _⟩

theorem pneg_any (s : Bool) (n : Nat) (w : World) (hn : n < M256) :
    Calls Try.prog 19 #[.agg (widL s n)] w (Gives (.agg (widL (sg (!s) n) n)) w) := by
  have HN := Lib.hid hn
  clear hn
  unfold widL
  go_enter Try.func19, Try.ntmps19
  go_wp2_with fail
  refine (signed_any (!s) n _ HN.out).mono ?_
  rintro e w1 ⟨rfl, hb⟩
  have kR : Hid (Blk w1 (w.heap.size + 1) 25 wid0) := Blk.below (Blk.newAt (by simp) _ _) hb
  have kW : Below w.heap.size w w1 := (below2 _ _ _).trans (hb.mono (by simp; omega))
  clear hb
  go_wp2_with (refine wpList_store_row rfl 25 _ _ rfl (w.heap.size + 1) (widL (sg (!s) n) n) rfl rfl 25 _ kR.out info_wide rfl (widF_ones _ (wd n)) ?_)
  refine gives_row rfl (w.heap.size + 1) 25 (widL (sg (!s) n) n) _ rfl (kR.out.row _) under_wide rfl info_wide rfl ⟨rfl, below_row kW (by omega) _⟩

theorem signed_low (neg : Bool) (x : Nat) (w : World) (hx : x < 18446744073709551616) :
    Calls Try.prog 39 #[.bool neg, .agg #[.int .u64 (x : Int), .int .u64 0, .int .u64 0, .int .u64 0]] w (Gives (.agg (widL (sg neg x) x)) w) := by
  rw [magL_small x hx]
  exact signed_any neg x w (by unfold M256; omega)

def ngB (n : Int) : Bool := decide (n < 0)
theorem pof_any (n : Int) (w : World) (h1 : -9223372036854775808 ≤ n) (h2 : n ≤ 9223372036854775807) :
    Calls Try.prog 15 #[.int .i64 n] w (Gives (.agg (widL (ngB n) n.natAbs)) w) := by
  have hm : n.natAbs < 18446744073709551616 := by omega
  by_cases h : n < 0
  · have e : IntKind.u64.wrap (-IntKind.u64.wrap n) = ((n.natAbs : Nat) : Int) := by rw [IntKind.wrap_u64, IntKind.wrap_u64]; omega
    have E := Lib.hid (show sg true n.natAbs = ngB n by rw [sg_pos true (by omega)]; simp [ngB, h])
    generalize n.natAbs = m at *
    have HM := Lib.hid hm
    clear hm
    go_enter Try.func15, Try.ntmps15
    go_wp2_with fail
    refine (signed_low true m _ HM.out).mono ?_
    rintro e w1 ⟨rfl, hb⟩
    have kR : Hid (Blk w1 w.heap.size 25 wid0) := Blk.below (Blk.newAt (by simp) _ _) hb
    have kW : Below w.heap.size w w1 := (below1 _ _).trans (hb.mono (by simp))
    clear hb
    go_wp2_with (refine wpList_store_row rfl 25 _ _ rfl w.heap.size (widL (sg true m) m) rfl rfl 25 _ kR.out info_wide rfl (widF_ones _ (wd m)) ?_)
    refine gives_row rfl w.heap.size 25 (widL (sg true m) m) _ rfl (kR.out.row _) under_wide rfl info_wide rfl ⟨by rw [E.out], below_row kW (by omega) _⟩
  · have e : IntKind.u64.wrap n = ((n.natAbs : Nat) : Int) := by rw [IntKind.wrap_u64]; omega
    have E := Lib.hid (show sg false n.natAbs = ngB n by rw [sg_false]; simp [ngB, h])
    generalize n.natAbs = m at *
    have HM := Lib.hid hm
    clear hm
    go_enter Try.func15, Try.ntmps15
    go_wp2_with fail
    refine (signed_low false m _ HM.out).mono ?_
    rintro e w1 ⟨rfl, hb⟩
    have kR : Hid (Blk w1 w.heap.size 25 wid0) := Blk.below (Blk.newAt (by simp) _ _) hb
    have kW : Below w.heap.size w w1 := (below1 _ _).trans (hb.mono (by simp))
    clear hb
    go_wp2_with (refine wpList_store_row rfl 25 _ _ rfl w.heap.size (widL (sg false m) m) rfl rfl 25 _ kR.out info_wide rfl (widF_ones _ (wd m)) ?_)
    refine gives_row rfl w.heap.size 25 (widL (sg false m) m) _ rfl (kR.out.row _) under_wide rfl info_wide rfl ⟨by rw [E.out], below_row kW (by omega) _⟩

/-- The int of a wide integer, and whether there is one. -/
def intV (s : Bool) (n : Nat) : Int := if s = true ∧ n ≤ 9223372036854775808 then -(n : Int) else if s = false ∧ n ≤ 9223372036854775807 then (n : Int) else 0
def intB (s : Bool) (n : Nat) : Bool := (s && decide (n ≤ 9223372036854775808)) || (!s && decide (n ≤ 9223372036854775807))

end Go.Proofs.Ytnpgikjahfhaoaa
