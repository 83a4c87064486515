/-
  For every int n the law NumRoots (P1.4) returns true and leaves its argument alone: the square of Root is at most n, and that of the next integer is greater. No condition.
-/
import Derived.Test.YthipgmdjjmgppaaRows
import Derived.WalkKit
import Derived.ProofKit
import Derived.OpenShut
import Derived.ChangeOld
import Derived.Below
import Derived.Test.YthipgmdjjmgppaaAlive
import Derived.ShutString
namespace Go.Proofs.Ythipgmdjjmgppaa.numRoots
open Go.ChangeShapes Go.WideShapes Go.ChangeAt Go.RowKit
open Go.ChangeMaps (open_string shut_string)
set_option linter.unusedVariables false      -- a walk need not use every 'w<i>' (that an integer argument fits its kind)

theorem own : ownKnob Try.prog.godebug = none := by kernel_rfl

theorem root_lt (m r : Nat) (hm : m ≤ 9223372036854775807) (h : r * r ≤ m) : r ≤ 3037000499 := by
  rcases Nat.lt_or_ge r 3037000500 with x | x
  · omega
  · have := Nat.mul_le_mul x x; omega
/-! ### The walk: the law returns true, and writes nothing that was there. -/
theorem walk (a0 : Int) (w0 : (Lit.int .i64 a0).wf = true) (w : World) :
    Calls Try.prog 6 #[.int .i64 a0] w fun e w' => e = .returned (.bool true) ∧ Below w.heap.size w w' := by
  obtain ⟨l0, g0⟩ := bounds_i64 w0
  clear w0
  by_cases hn : a0 < 0
  · go_enter Try.func6, Try.ntmps6
    go_wp2_with fail
    refine (root_neg _ _ l0 hn).mono ?_; rintro e w1 ⟨rfl, rfl⟩
    go_wp2_with fail
    refine (alive_any _).mono ?_; rintro e w1 ⟨rfl, hb⟩
    go_wp2_with fail
    go_ret
    exact ⟨rfl, hb⟩
  · obtain ⟨m, rfl⟩ := Int.eq_ofNat_of_zero_le (show 0 ≤ a0 by omega)
    have hm : m ≤ 9223372036854775807 := by omega
    go_enter Try.func6, Try.ntmps6
    go_wp2_with fail
    refine (root_any m _ hm).mono ?_
    rintro e w1 ⟨r, rfl, h1, h2, h3, rfl⟩
    have h4 := root_lt m r hm h2
    have h5 : ((r * r : Nat) : Int) = (r : Int) * (r : Int) := Int.natCast_mul _ _
    have h6 : (((r + 1) * (r + 1) : Nat) : Int) = ((r : Int) + 1) * ((r : Int) + 1) := by rw [Int.natCast_mul, Int.natCast_add]; rfl
    have h7 := Nat.mul_le_mul (show r + 1 ≤ 3037000500 by omega) (show r + 1 ≤ 3037000500 by omega)
    have p1 : 0 ≤ (r : Int) * (r : Int) := by omega
    have p2 : (r : Int) * (r : Int) ≤ (m : Int) := by omega
    have p3 : (m : Int) < ((r : Int) + 1) * ((r : Int) + 1) := by omega
    have p4 : ((r : Int) + 1) * ((r : Int) + 1) ≤ 9223372037000250000 := by omega
    have h4' : (r : Int) ≤ 3037000499 := by omega
    have h4'' : (0 : Int) ≤ r := by omega
    have t1 : decide ((m : Int) < 0) = false := decide_eq_false (by omega)
    have t2 : decide ((r : Int) < 0) = false := decide_eq_false (by omega)
    have t3 : decide ((4294967296 : Int) ≤ (r : Int)) = false := decide_eq_false (by omega)
    have t4 : decide ((r : Int) * (r : Int) ≤ (m : Int)) = true := by simpa using p2
    have t5 : decide ((m : Int) < ((r : Int) + 1) * ((r : Int) + 1)) = true := by simpa using p3
    have p5 : (r : Int) * (r : Int) ≤ 18446744073709551615 := by omega
    have p6 : ((r : Int) + 1) * ((r : Int) + 1) ≤ 18446744073709551615 := by omega
    have p7 : 0 ≤ ((r : Int) + 1) * ((r : Int) + 1) := by omega
    clear h1 h2 h3 h5 h6 h7 h4 hm hn p2 p3 p4
    go_wp2_with fail
    refine (alive_any _).mono ?_; rintro e w1 ⟨rfl, hb⟩
    go_wp2_with fail
    go_ret
    exact ⟨rfl, hb⟩

/-! ### The row's step -/
set_option maxRecDepth 100000 in
theorem lifted (os : Os) (started : os.Started) (H : Type) (enc : TypeId × Value → H) :
    ReturnsInHanded {} Try.checked os 6 .any (Rows.numRootsSpec.pre6 enc Try.prog Try.f6 Rows.numRootsRow.domain false) (Rows.numRootsSpec.post enc Try.prog Try.f6 false true false false) := by
  refine returnsInHanded_of_change (C := Try.checked) own started (by kernel_rfl) Try.func6
    (ChangeSpec.witness6 (enc := enc) (C := Try.checked) false ⟨#[], #[.int .i64 0], []⟩ 8 (by kernel_rfl) (by kernel_rfl) (by kernel_rfl) (by kernel_rfl)) ?_
  intro W base args ds gs before hval0 hW hcnd _
  have hval : ∀ (j : Nat) t v, Try.f6.params[j]? = some t → args[j]? = some v → Value.okWide Try.prog W .any base t v := hval0
  have hW' := hW
  obtain ⟨p, q, hA0, hV, rfl, hfz, hnd⟩ := hW
  have hA : DataW.TrodAll enc Try.prog W 0 (fun _ => true) true Try.f6.params.toList args.toList ds p := hA0
  rw [Try.params6] at hA hval
  obtain ⟨v0, vs0, d0, ds0, p0, q0, hargs, rfl, rfl, h0, r0⟩ := trodAll_cons hA
  obtain ⟨rfl, rfl, rfl⟩ := trodAll_nil r0
  obtain rfl : args = #[v0] := by cases args; simp_all
  obtain ⟨rfl, rfl⟩ := trodVars_none hV
  obtain ⟨a0, rfl, rfl, rfl, w0⟩ := open_int Try.underlying3 (hval 0 3 v0 rfl rfl) h0
  clear hA0 hval0
  simp only [List.append_nil] at hW'
  refine (walk a0 w0 W).mono fun e W' ⟨he, hg⟩ => ?_
  subst he
  exact ⟨_, rfl, _, _, _, [], [], [], hW', (trodAll_cons_mk (shut_bool Try.underlying4 _) trodAll_mk0), (trodAll_cons_mk (shut_int Try.underlying3 w0) trodAll_mk0), rfl, hg.frame _, fun h => by cases h⟩

theorem over : Rows.numRootsRow.holds Try.pinned (OpenSpec.ofChange Rows.numRootsSpec) :=
  OpenClaim.holds_of_wide 6 Try.f6 rfl rfl rfl rfl rfl rfl rfl ⟨rfl, rfl, rfl, rfl, rfl⟩ rfl rfl rfl rfl rfl (by kernel_rfl) Try.func6 (by kernel_rfl)
    (of_decide_eq_true (by kernel_rfl)) (by unfold Func.isWrapper; first | (rw [if_pos (by decide +kernel)]; kernel_rfl) | (rw [if_neg (by decide +kernel)]; exact ⟨rfl, rfl⟩))
    (fun os started H enc _ => lifted os started H enc)

/-- The statement. -/
theorem proved : Rows.NumRootsSaid :=
  over
#print axioms proved
end Go.Proofs.Ythipgmdjjmgppaa.numRoots
