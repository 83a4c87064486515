/-
  What the laws of wide numbers share.
-/
import Derived.Test.YtnpgikjahfhaoaaWAwake
import Derived.Test.YtnpgikjahfhaoaaWGuard
import Derived.Test.YtnpgikjahfhaoaaWOps3
import Derived.Test.YtnpgikjahfhaoaaWOps4
import Derived.Test.YtnpgikjahfhaoaaWOps5
import Derived.Test.YtnpgikjahfhaoaaWOps6
import Derived.Test.YtnpgikjahfhaoaaWOps7
import Derived.Test.YtnpgikjahfhaoaaWOps8
import Derived.Test.YtnpgikjahfhaoaaRegG
import Derived.Deep.CutRange
import Derived.Deep.DeepCutAuto
namespace Go.Proofs.Reg
open Go.RowKit
theorem step_call0 {P : Program} {Q : Exit → Act → World → Prop} {rs : List ((Nat → Bool) × TypeId × Array Value)} {o : Oper} {a : Act} {w : World} {F : Value → World → Prop} {R : Ending → World → Prop} (f : FuncId) (ats : Array TypeId) (ho : o.op = .call { callee := .value (.func f), args := #[], argTypes := ats })
    (hrun : (callFunc f #[]).run P w = .ok (.enter f #[]) w) (hc : Calls P f #[] w R) (hR : ∀ e w', R e w' → ∃ v, e = .returned v ∧ F v w' ∧ Below w.heap.size w w') : StepTo rs P Q o a w F false :=
  step_call f #[] ats #[] ho (by simp) hrun hc hR
end Go.Proofs.Reg
namespace Go.Proofs.Ytnpgikjahfhaoaa
open Go.RowKit Go.Proofs.WM Go.Proofs.WD Go.Proofs.Reg

/-! A row's load and store in two steps: the operation is looked at first. -/
def RowAt (P : Program) (ops : Array Oper) (Q : Exit → Act → World → Prop) (o : Oper) (rest : List Oper) (_ty : TypeId) (_x : Operand) (a : Act) (w : World) : Prop := wpList P ops Q (o :: rest) a w
def RowTo (P : Program) (ops : Array Oper) (Q : Exit → Act → World → Prop) (o : Oper) (rest : List Oper) (_ty : TypeId) (_x _y : Operand) (a : Act) (w : World) : Prop := wpList P ops Q (o :: rest) a w
section
variable {P : Program} {ops : Array Oper} {Q : Exit → Act → World → Prop} {o : Oper} {rest : List Oper} {a : Act} {w : World} {ty : TypeId} {x y : Operand}
theorem lda (ty : TypeId) (x : Operand) (hgd : o.guard = none) (ho : o.op = .load ty x) (h : (o.guard = none ∧ o.op = .load ty x) → RowAt P ops Q o rest ty x a w) : wpList P ops Q (o :: rest) a w := h ⟨hgd, ho⟩
theorem ldb (g : Nat) (t : TypeId) (cs : Array Value) (d : TypeDesc) (hg : Blk w g t cs) (hx : a.eval x = .pointer (some ⟨g, 0, none⟩))
    (hu : P.underlying ty = some d) (hd : (match d with | .struct _ | .array _ _ => true | _ => false) = true) (hi : (P.info? ty).map (·.size) = some cs.size)
    (h : wpList P ops Q rest (a.put o.dst (.agg cs)) w) : (o.guard = none ∧ o.op = .load ty x) → RowAt P ops Q o rest ty x a w :=
  fun hh => wpList_load_row hh.1 ty x hh.2 g hx t cs (0, 0) d hg hu hd hi h
theorem ldga (ty : TypeId) (x : Operand) (ho : o.op = .load ty x) (hgd : Region.wanted o (yielded ops a.tmps) = true) (h : (Region.wanted o (yielded ops a.tmps) = true ∧ o.op = .load ty x) → RowAt P ops Q o rest ty x a w) : wpList P ops Q (o :: rest) a w := h ⟨hgd, ho⟩
theorem ldgb (g : Nat) (t : TypeId) (cs : Array Value) (d : TypeDesc) (hg : Blk w g t cs) (hx : a.eval x = .pointer (some ⟨g, 0, none⟩))
    (hu : P.underlying ty = some d) (hd : (match d with | .struct _ | .array _ _ => true | _ => false) = true) (hi : (P.info? ty).map (·.size) = some cs.size)
    (h : wpList P ops Q rest (a.put o.dst (.agg cs)) w) : (Region.wanted o (yielded ops a.tmps) = true ∧ o.op = .load ty x) → RowAt P ops Q o rest ty x a w :=
  fun hh => wpList_load_rowG hh.1 ty x hh.2 g hx t cs (0, 0) d hg hu hd hi h
theorem sta (ty : TypeId) (x y : Operand) (hgd : o.guard = none) (ho : o.op = .store ty x y) (h : (o.guard = none ∧ o.op = .store ty x y) → RowTo P ops Q o rest ty x y a w) : wpList P ops Q (o :: rest) a w := h ⟨hgd, ho⟩
theorem stb (g : Nat) (cells : Array Value) (t : TypeId) (old : Array Value) (hg : Blk w g t old) (hx : a.eval x = .pointer (some ⟨g, 0, none⟩)) (hy : a.eval y = .agg cells)
    (hi : (P.info? ty).map (·.size) = some cells.size) (hold : old.size = cells.size) (h1 : cells.all (·.oneCell') = true)
    (h : wpList P ops Q rest (a.put o.dst undef) (w.setRow g cells)) : (o.guard = none ∧ o.op = .store ty x y) → RowTo P ops Q o rest ty x y a w :=
  fun hh => wpList_store_row hh.1 ty x y hh.2 g cells hx hy t old hg hi hold h1 h
end
theorem eq_self (s : Bool) (n : Nat) (hn : n < M256) (w : World) : (Op.equalIn 10000 25 (.agg (widL s n)) (.agg (widL s n))).run Try.prog w = .ok true w := by
  rw [eq_wide s s n n hn hn w]; simp
theorem addV_ex (s : Bool) (n : Nat) (t : Bool) (m : Nat) (hn : n < M256) (hm : m < M256) : ∃ (S : Bool) (N : Nat) (E : Int), AddV s n t m = .tuple #[.agg (widL S N), .int .i64 E] ∧ N < M256 ∧ S = addS s n t m ∧ N = addN s n t m ∧ E = addE s n t m := by
  refine ⟨_, _, _, rfl, ?_, rfl, rfl, rfl⟩
  have := m_pos
  unfold addN
  split
  · split <;> omega
  · split <;> omega
theorem mulV_ex (s : Bool) (n : Nat) (t : Bool) (m : Nat) : ∃ (S : Bool) (N : Nat) (E : Int), MulV s n t m = .tuple #[.agg (widL S N), .int .i64 E] ∧ N < M256 ∧ S = mlS s n t m ∧ N = mlN n m ∧ E = mlE n m := by
  refine ⟨_, _, _, rfl, ?_, rfl, rfl, rfl⟩
  have := m_pos
  unfold mlN
  split <;> omega
theorem dvQ_lt (s : Bool) (n : Nat) (t : Bool) (m : Nat) (hn : n < M256) (hm : m ≠ 0) : dvQ s n t m < M256 := by
  unfold dvQ
  split
  · rename_i h
    have h1 : m ≠ 1 := fun e => h.2 (by rw [e, Nat.mod_one])
    have h2 : n / m ≤ n / 2 := Nat.div_le_div_left (by omega) (by decide)
    have h3 : M256 = 2 * (M256 / 2) := by decide
    omega
  · exact Nat.lt_of_le_of_lt (Nat.div_le_self _ _) hn
theorem dvR_lt (s : Bool) (n : Nat) (t : Bool) (m : Nat) (hm0 : m ≠ 0) : dvR s n t m < m ∨ (dvR s n t m = 0) := by
  unfold dvR
  have := Nat.mod_lt n (show m > 0 by omega)
  split
  · rename_i h
    left; omega
  · left; exact this
theorem divV_ex (s : Bool) (n : Nat) (t : Bool) (m : Nat) (hn : n < M256) (hm : m < M256) : ∃ (S : Bool) (N : Nat) (T : Bool) (M : Nat) (E : Int), DivV s n t m = .tuple #[.agg (widL S N), .agg (widL T M), .int .i64 E] ∧ N < M256 ∧ M < M256 := by
  unfold DivV
  by_cases h : m = 0
  · rw [if_pos h]
    exact ⟨_, _, _, _, _, rfl, m_pos, m_pos⟩
  · rw [if_neg h]
    refine ⟨_, _, _, _, _, rfl, dvQ_lt s n t m hn h, ?_⟩
    rcases dvR_lt s n t m h with x | x
    · omega
    · rw [x]; exact m_pos
end Go.Proofs.Ytnpgikjahfhaoaa
