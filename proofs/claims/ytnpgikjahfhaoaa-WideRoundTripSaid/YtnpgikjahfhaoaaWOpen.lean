/-
  A wide number as an argument: opened and shut.
-/
import Derived.Test.YtnpgikjahfhaoaaWRow
import Derived.ChangeShapes
import Derived.OpenShut
namespace Go.Proofs.Ytnpgikjahfhaoaa
open Go.ChangeShapes Go.WideShapes Go.RowKit Go.Proofs.WM

section
variable {H : Type} {enc : TypeId × Value → H} {w : World} {base : Nat} {sp : Nat → Bool} {held : Bool}
/-- How a wide number reads. -/
def wideD (s : Bool) (n : Nat) : DataW H := .agg [.lit (.bool s), .agg [.lit (.int .u64 ((wd n 0 : Nat) : Int)), .lit (.int .u64 ((wd n 1 : Nat) : Int)), .lit (.int .u64 ((wd n 2 : Nat) : Int)), .lit (.int .u64 ((wd n 3 : Nat) : Int))]]
theorem wd_wf (n i : Nat) : (Lit.int .u64 ((wd n i : Nat) : Int)).wf = true := by
  have h := wd_lt n i
  simp [Lit.wf, IntKind.min, IntKind.max, IntKind.signed, IntKind.bits]
  omega
theorem nat_of (x : Int) (h : (Lit.int .u64 x).wf = true) : ∃ n : Nat, n < 18446744073709551616 ∧ x = (n : Int) := by
  obtain ⟨h1, h2⟩ := bounds_u64 h
  exact ⟨x.toNat, by omega, by omega⟩
theorem widL_of (b : Bool) (a0 a1 a2 a3 : Nat) (h0 : a0 < 18446744073709551616) (h1 : a1 < 18446744073709551616) (h2 : a2 < 18446744073709551616) (h3 : a3 < 18446744073709551616) :
    (#[.bool b, .int .u64 (a0 : Int), .int .u64 (a1 : Int), .int .u64 (a2 : Int), .int .u64 (a3 : Int)] : Array Value) = widL b (ofW a0 a1 a2 a3) := by
  obtain ⟨e0, e1, e2, e3⟩ := wd_ofW h0 h1 h2 h3
  unfold widL
  rw [e0, e1, e2, e3]
theorem open_wide {r : Reach} {b0 : Nat} {v : Value} {d : DataW H} {ps : List MemPlace} (hval : Value.okWide Try.prog w r b0 25 v) (hd : DataW.Trod enc Try.prog w base sp held 25 v d ps) :
    ∃ (s : Bool) (n : Nat), v = .agg (widL s n) ∧ d = wideD s n ∧ ps = [] ∧ n < M256 := by
  have hc1 : Try.prog.cellsOf 25 = 5 := by kernel_rfl
  have hc2 : Try.prog.cellsOf 23 = 4 := by kernel_rfl
  have hc3 : Try.prog.cellsOf 22 = 1 := by kernel_rfl
  have hc4 : Try.prog.cellsOf 4 = 1 := by kernel_rfl
  obtain ⟨cs, rfl, hlen⟩ := okWide_struct Try.underlying25 hval
  rw [hc1] at hlen
  obtain ⟨fuel, hy⟩ := hd
  obtain ⟨l, rfl⟩ : ∃ l : List Value, cs = l.toArray := ⟨cs.toList, by simp⟩
  simp only [List.size_toArray] at hlen
  match l, hlen with
  | [c0, c1, c2, c3, c4], _ =>
    simp only [Value.cells] at hy
    obtain ⟨ys, m, _, hx, _, hl, hf⟩ := Go.DataW.trod_struct Try.underlying25 hy
    match ys, hl with
    | [y0, y1], _ =>
      have hy0 := hf 0 _ rfl
      have hy1 := hf 1 _ rfl
      simp [hc4, hc2] at hy0 hy1
      obtain ⟨b, e_b, rfl⟩ := Go.DataW.trod_bool Try.underlying4 hy0
      obtain ⟨zs, m2, _, rfl, _, hl2, hf2⟩ := Go.DataW.trod_array Try.underlying23 hy1
      match zs, hl2 with
      | [z0, z1, z2, z3], _ =>
        have hz0 := hf2 0 (by omega)
        have hz1 := hf2 1 (by omega)
        have hz2 := hf2 2 (by omega)
        have hz3 := hf2 3 (by omega)
        simp [hc3] at hz0 hz1 hz2 hz3
        obtain ⟨x0, e0, rfl, s0⟩ := Go.DataW.trod_int Try.underlying22 hz0
        obtain ⟨x1, e1, rfl, s1⟩ := Go.DataW.trod_int Try.underlying22 hz1
        obtain ⟨x2, e2, rfl, s2⟩ := Go.DataW.trod_int Try.underlying22 hz2
        obtain ⟨x3, e3, rfl, s3⟩ := Go.DataW.trod_int Try.underlying22 hz3
        simp at e_b e0 e1 e2 e3
        subst e_b e0 e1 e2 e3
        obtain ⟨a0, h0, rfl⟩ := nat_of x0 s0
        obtain ⟨a1, h1, rfl⟩ := nat_of x1 s1
        obtain ⟨a2, h2, rfl⟩ := nat_of x2 s2
        obtain ⟨a3, h3, rfl⟩ := nat_of x3 s3
        obtain ⟨w0, w1, w2, w3⟩ := wd_ofW h0 h1 h2 h3
        simp only [Prod.mk.injEq] at hx
        refine ⟨b, ofW a0 a1 a2 a3, by rw [← widL_of b a0 a1 a2 a3 h0 h1 h2 h3], ?_, by simpa using hx.2, ofW_lt h0 h1 h2 h3⟩
        rw [hx.1]
        unfold wideD
        rw [w0, w1, w2, w3]
        rfl
theorem shut_wide (s : Bool) (n : Nat) : DataW.Trod enc Try.prog w base sp held 25 (.agg (widL s n)) (wideD s n) [] := by
  have hc1 : Try.prog.cellsOf 25 = 5 := by kernel_rfl
  have hc2 : Try.prog.cellsOf 23 = 4 := by kernel_rfl
  have hc3 : Try.prog.cellsOf 22 = 1 := by kernel_rfl
  have hc4 : Try.prog.cellsOf 4 = 1 := by kernel_rfl
  have s0 := wd_wf n 0
  have s1 := wd_wf n 1
  have s2 := wd_wf n 2
  have s3 := wd_wf n 3
  refine ⟨3, ?_⟩
  simp [DataW.trod, Value.cells, wideD, Try.underlying25, Try.underlying23, Try.underlying22, Try.underlying4, hc1, hc2, hc3, hc4, s0, s1, s2, s3, List.range, List.range.loop]
end
end Go.Proofs.Ytnpgikjahfhaoaa
