/-
  Regions of this program by facts: what all of them share.
-/
import Derived.Test.YtnpgikjahfhaoaaWSplit
import Derived.Test.YtnpgikjahfhaoaaWCmp
import Derived.Test.YtnpgikjahfhaoaaRegion
namespace Go.Proofs.Ytnpgikjahfhaoaa
open Go.RowKit Go.Proofs.WM Go.Proofs.Reg

theorem follows_mixed : Try.prog.follows .mixedOrders = true := by kernel_rfl
/-- A pointer to a block from B on, which holds a row. -/
def PtrTo (B : Nat) (t : TypeId) (cs : Array Value) (v : Value) (w : World) : Prop := ∃ g, v = .pointer (some ⟨g, 0, none⟩) ∧ B ≤ g ∧ Blk w g t cs
theorem PtrTo.ext {B : Nat} {t : TypeId} {cs : Array Value} {v : Value} {w w' : World} (h : PtrTo B t cs v w) (hb : Ext [] w w') : PtrTo B t cs v w' := by
  obtain ⟨g, e, hg, hk⟩ := h
  exact ⟨g, e, hg, hk.below hb.to⟩

/-- Constant results. -/
def constF (l : List Value) : Nat → Value → World → Prop := fun i v _ => v = l.getD i undef
theorem constF_ext {rs : List ((Nat → Bool) × TypeId × Array Value)} (l : List Value) (i : Nat) (v : Value) (wa wb : World) (h : constF l i v wa) (_ : Ext rs wa wb) : constF l i v wb := h

theorem cmpN_le {a b : Nat} (h : a ≤ b) : cmpN a b ≤ 0 := by unfold cmpN; split <;> (try split) <;> omega
theorem cmpN_ge {a b : Nat} (h : b ≤ a) : 0 ≤ cmpN a b := by unfold cmpN; split <;> (try split) <;> omega
/-- A call returns an int of which C holds, and leaves what was there as it was. -/
def GivesInt (C : Int → Prop) (w : World) (e : Ending) (w' : World) : Prop := ∃ c : Int, C c ∧ e = .returned (.int .i64 c) ∧ Below w.heap.size w w'
theorem pcompare_le (n m : Nat) (w : World) (hn : n < M256) (hm : m < M256) (h : n ≤ m) : Calls Try.prog 43 #[.agg (magL n), .agg (magL m)] w (GivesInt (· ≤ 0) w) :=
  (pcompare_any n m w hn hm).mono fun _ _ ⟨h1, h2⟩ => ⟨_, cmpN_le h, h1, h2⟩
theorem pcompare_gt (n m : Nat) (w : World) (hn : n < M256) (hm : m < M256) (h : m < n) : Calls Try.prog 43 #[.agg (magL n), .agg (magL m)] w (GivesInt (0 < ·) w) :=
  (pcompare_any n m w hn hm).mono fun _ _ ⟨h1, h2⟩ => ⟨_, by rw [cmpN_gt h]; decide, h1, h2⟩
theorem pcompare_ge (n m : Nat) (w : World) (hn : n < M256) (hm : m < M256) (h : m ≤ n) : Calls Try.prog 43 #[.agg (magL n), .agg (magL m)] w (GivesInt (0 ≤ ·) w) :=
  (pcompare_any n m w hn hm).mono fun _ _ ⟨h1, h2⟩ => ⟨_, cmpN_ge h, h1, h2⟩
theorem pcompare_lt (n m : Nat) (w : World) (hn : n < M256) (hm : m < M256) (h : n < m) : Calls Try.prog 43 #[.agg (magL n), .agg (magL m)] w (GivesInt (· < 0) w) :=
  (pcompare_any n m w hn hm).mono fun _ _ ⟨h1, h2⟩ => ⟨_, by rw [cmpN_lt h]; decide, h1, h2⟩
theorem rcompare_ge (n m : Nat) (w : World) (hn : n < M256) (hm : m < M256) (h : m ≤ n) : Calls Try.prog 44 #[.agg (halL n), .agg (halL m)] w (GivesInt (0 ≤ ·) w) :=
  (rcompare_any n m w hn hm).mono fun _ _ ⟨h1, h2⟩ => ⟨_, cmpN_ge h, h1, h2⟩
theorem rcompare_lt (n m : Nat) (w : World) (hn : n < M256) (hm : m < M256) (h : n < m) : Calls Try.prog 44 #[.agg (halL n), .agg (halL m)] w (GivesInt (· < 0) w) :=
  (rcompare_any n m w hn hm).mono fun _ _ ⟨h1, h2⟩ => ⟨_, by rw [cmpN_lt h]; decide, h1, h2⟩
/-- A wide number in a block, and what was there as it was. -/
def WideAt (s : Bool) (n : Nat) (g : Nat) (w0 w : World) : Prop := Blk w g 25 (widL s n) ∧ Below w0.heap.size w0 w
theorem WideAt.ext {s : Bool} {n g : Nat} {w0 wa wb : World} (h : WideAt s n g w0 wa) (he : Ext [] wa wb) : WideAt s n g w0 wb := ⟨h.1.below he.to, h.2.trans (he.to.mono h.2.size)⟩
theorem wide_cells {s : Bool} {n g : Nat} {w : World} (h : Blk w g 25 (widL s n)) : w.cell? ⟨g, 0, none⟩ = some (.bool s) ∧ w.cell? ⟨g, 1, none⟩ = some (.int .u64 ((wd n 0 : Nat) : Int)) ∧ w.cell? ⟨g, 2, none⟩ = some (.int .u64 ((wd n 1 : Nat) : Int)) ∧ w.cell? ⟨g, 3, none⟩ = some (.int .u64 ((wd n 2 : Nat) : Int)) ∧ w.cell? ⟨g, 4, none⟩ = some (.int .u64 ((wd n 3 : Nat) : Int)) :=
  ⟨h.cell 0, h.cell 1, h.cell 2, h.cell 3, h.cell 4⟩
theorem callFunc_enter {P : Program} {f : FuncId} {args : Array Value} {w : World} (h : (callFunc f args).run P w = .ok (.enter f args) w) : (callFunc f args).run P w = .ok (.enter f args) w := h
/-- Two result cells hold rows, the third result lies in a slot. -/
theorem gives_rows_tmp {P : Program} {fn : Func} {p q u : Tmp} {ty tz : TypeId} (h : fn.results = #[.cell p ty, .cell q tz, .tmp u]) {a : Act} {w : World} (g k : Nat) (t s : TypeId) (cs ds : Array Value) (d e : TypeDesc) (v : Value)
    (hp : a.tmps.getD p undef = .pointer (some ⟨g, 0, none⟩)) (hq : a.tmps.getD q undef = .pointer (some ⟨k, 0, none⟩)) (hv : a.tmps.getD u undef = v) (hg : Blk w g t cs) (hk : Blk w k s ds)
    (hu : P.underlying ty = some d) (hd : (match d with | .struct _ | .array _ _ => true | _ => false) = true) (hi : (P.info? ty).map (·.size) = some cs.size)
    (hu2 : P.underlying tz = some e) (hd2 : (match e with | .struct _ | .array _ _ => true | _ => false) = true) (hi2 : (P.info? tz).map (·.size) = some ds.size)
    (hdf : a.defers = []) {R : Ending → World → Prop} (hR : R (.returned (.tuple #[.agg cs, .agg ds, v])) w) : bodyPost P fn R .ret a w := by
  refine bodyPost_ret (v := .tuple #[.agg cs, .agg ds, v]) ?_ hdf hR
  have hl := run_loadVar_row (P := P) w g t ty cs (0, 0) d hg hu hd hi
  have hm := run_loadVar_row (P := P) w k s tz ds (0, 0) e hk hu2 hd2 hi2
  have hp' : a.tmps[p]?.getD undef = .pointer (some ⟨g, 0, none⟩) := by simpa using hp
  have hq' : a.tmps[q]?.getD undef = .pointer (some ⟨k, 0, none⟩) := by simpa using hq
  have hv' : a.tmps[u]?.getD undef = v := by simpa using hv
  simp only [results, h]
  simp [Sem.run_bind, Result.andThen, asAddr, hp', hq', hv', hl, hm]
end Go.Proofs.Ytnpgikjahfhaoaa
