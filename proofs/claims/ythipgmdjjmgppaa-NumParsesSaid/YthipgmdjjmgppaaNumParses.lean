/-
  For every string s the law NumParses (P1.7, P1.10) returns true and leaves its argument alone: Parse agrees with the reference, and what it accepts is the text of its result (the law itself asks this of strings of at most 1000 bytes). No condition.
-/
import Derived.Test.YthipgmdjjmgppaaRows
import Derived.WalkKit
import Derived.ProofKit
import Derived.OpenShut
import Derived.ChangeOld
import Derived.Below
import Derived.Test.YthipgmdjjmgppaaAlive
import Derived.Test.YthipgmdjjmgppaaTextP
import Derived.ShutString
namespace Go.Proofs.Ythipgmdjjmgppaa.numParses
open Go.ChangeShapes Go.WideShapes Go.ChangeAt Go.RowKit
open Go.ChangeMaps (open_string shut_string)
set_option linter.unusedVariables false      -- a walk need not use every 'w<i>' (that an integer argument fits its kind)

theorem own : ownKnob Try.prog.godebug = none := by kernel_rfl

theorem text_par (s : ByteArray) (h : parE s.data.toList = 0) (w : World) :
    Calls Try.prog 26 #[.int .i64 (parQ s.data.toList)] w fun e w' => e = .returned (.string s) ∧ Below w.heap.size w w' := by
  obtain ⟨p1, p2, p3⟩ := par_back s.data.toList h
  have e : textB (parQ s.data.toList) = s := by
    unfold textB
    rw [p1]
  have c := text_any (parQ s.data.toList) w (by omega) (by omega)
  rw [e] at c
  exact c
def pQ (s : ByteArray) : Int := parQ s.data.toList
def pE (s : ByteArray) : Int := parE s.data.toList
/-! ### The walk: the law returns true, and writes nothing that was there. -/
theorem walk (a0 : ByteArray) (w0 : a0.size ≤ maxLen) (w : World) :
    Calls Try.prog 9 #[.string a0] w fun e w' => e = .returned (.bool true) ∧ Below w.heap.size w w' := by
  have hs : a0.size ≤ 9223372036854775806 ∨ 1000 < a0.size := by omega
  by_cases hl : 1000 < a0.size
  · have hl' : (1000 : Int) < (a0.size : Int) := by omega
    clear hs hl
    go_enter Try.func9, Try.ntmps9
    go_wp2_with fail
    refine (alive_any _).mono ?_; rintro e w3 ⟨rfl, b3⟩
    go_wp2_with fail
    go_ret
    exact ⟨rfl, b3⟩
  · have hl' : (a0.size : Int) ≤ 1000 := by omega
    have hs' : a0.size ≤ 9223372036854775806 := by omega
    have c1 : Hid (∀ w, Calls Try.prog 27 #[.string a0] w fun e w' => e = .returned (.tuple #[.int .i64 (pQ a0), .int .i64 (pE a0)]) ∧ w = w') := fun w => parse_any a0 w hs'
    have c2 : Hid (∀ w, Calls Try.prog 29 #[.string a0] w fun e w' => e = .returned (.tuple #[.int .i64 (pQ a0), .int .i64 (pE a0)]) ∧ w = w') := fun w => refParse_any a0 w hs'
    clear hs hl hs'
    by_cases he : pE a0 = 0
    · have c3 : Hid (∀ w, Calls Try.prog 26 #[.int .i64 (pQ a0)] w fun e w' => e = .returned (.string a0) ∧ Below w.heap.size w w') := fun w => text_par a0 he w
      have he' : (pE a0 != 0) = false := by simpa using he
      clear he
      go_enter Try.func9, Try.ntmps9
      go_wp2_with fail
      refine (c1.out _).mono ?_; rintro e w2 ⟨rfl, rfl⟩
      go_wp2_with fail
      refine (c2.out _).mono ?_; rintro e w2 ⟨rfl, rfl⟩
      go_wp2_with fail
      refine (c3.out _).mono ?_; rintro e w2 ⟨rfl, b2⟩
      go_wp2_with fail
      refine (alive_any _).mono ?_; rintro e w3 ⟨rfl, b3⟩
      go_wp2_with fail
      go_ret
      exact ⟨rfl, b2.trans (b3.mono b2.size)⟩
    · have he' : (pE a0 != 0) = true := by simpa using he
      clear he
      go_enter Try.func9, Try.ntmps9
      go_wp2_with fail
      refine (c1.out _).mono ?_; rintro e w2 ⟨rfl, rfl⟩
      go_wp2_with fail
      refine (c2.out _).mono ?_; rintro e w2 ⟨rfl, rfl⟩
      go_wp2_with fail
      refine (alive_any _).mono ?_; rintro e w3 ⟨rfl, b3⟩
      go_wp2_with fail
      go_ret
      exact ⟨rfl, b3⟩

/-! ### The row's step -/
set_option maxRecDepth 100000 in
theorem lifted (os : Os) (started : os.Started) (H : Type) (enc : TypeId × Value → H) :
    ReturnsInHanded {} Try.checked os 9 .any (Rows.numParsesSpec.pre6 enc Try.prog Try.f9 Rows.numParsesRow.domain false) (Rows.numParsesSpec.post enc Try.prog Try.f9 false true false false) := by
  refine returnsInHanded_of_change (C := Try.checked) own started (by kernel_rfl) Try.func9
    (ChangeSpec.witness6 (enc := enc) (C := Try.checked) false ⟨#[], #[.string ByteArray.empty], []⟩ 8 (by kernel_rfl) (by kernel_rfl) (by kernel_rfl) (by kernel_rfl)) ?_
  intro W base args ds gs before hval0 hW hcnd _
  have hval : ∀ (j : Nat) t v, Try.f9.params[j]? = some t → args[j]? = some v → Value.okWide Try.prog W .any base t v := hval0
  have hW' := hW
  obtain ⟨p, q, hA0, hV, rfl, hfz, hnd⟩ := hW
  have hA : DataW.TrodAll enc Try.prog W 0 (fun _ => true) true Try.f9.params.toList args.toList ds p := hA0
  rw [Try.params9] at hA hval
  obtain ⟨v0, vs0, d0, ds0, p0, q0, hargs, rfl, rfl, h0, r0⟩ := trodAll_cons hA
  obtain ⟨rfl, rfl, rfl⟩ := trodAll_nil r0
  obtain rfl : args = #[v0] := by cases args; simp_all
  obtain ⟨rfl, rfl⟩ := trodVars_none hV
  obtain ⟨a0, rfl, rfl, rfl, w0⟩ := open_string Try.underlying9 (hval 0 9 v0 rfl rfl) h0
  clear hA0 hval0
  simp only [List.append_nil] at hW'
  refine (walk a0 w0 W).mono fun e W' ⟨he, hg⟩ => ?_
  subst he
  exact ⟨_, rfl, _, _, _, [], [], [], hW', (trodAll_cons_mk (shut_bool Try.underlying4 _) trodAll_mk0), (trodAll_cons_mk (shut_string Try.underlying9 w0) trodAll_mk0), rfl, hg.frame _, fun h => by cases h⟩

theorem over : Rows.numParsesRow.holds Try.pinned (OpenSpec.ofChange Rows.numParsesSpec) :=
  OpenClaim.holds_of_wide 9 Try.f9 rfl rfl rfl rfl rfl rfl rfl ⟨rfl, rfl, rfl, rfl, rfl⟩ rfl rfl rfl rfl rfl (by kernel_rfl) Try.func9 (by kernel_rfl)
    (of_decide_eq_true (by kernel_rfl)) (by unfold Func.isWrapper; first | (rw [if_pos (by decide +kernel)]; kernel_rfl) | (rw [if_neg (by decide +kernel)]; exact ⟨rfl, rfl⟩))
    (fun os started H enc _ => lifted os started H enc)

/-- The statement. -/
theorem proved : Rows.NumParsesSaid :=
  over
#print axioms proved
end Go.Proofs.Ythipgmdjjmgppaa.numParses
