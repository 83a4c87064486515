/-
  For every list of strings the law DigestRoots (P6.4) returns true and leaves its argument alone: Root agrees with the reference (the law itself asks this of at most 100 strings with at most 3000 bytes in all). No condition.
-/
import Derived.Test.YtandcacobahmbaaDoorRows
import Derived.WalkKit
import Derived.ProofKit
import Derived.OpenShut
import Derived.ShutString
import Derived.ChangeOld
import Derived.Below
import Derived.Carry
import Derived.SizedLaws
import Derived.Test.YtandcacobahmbaaDoorDgCard
import Derived.Test.YtandcacobahmbaaDoorCards
import Derived.Test.YtandcacobahmbaaDoorTie
import Derived.SevenTiedAt
import Derived.Test.YtandcacobahmbaaDoorDgArg
namespace Go.Proofs.YtandcacobahmbaaDoor.digestRoots
open Go.ChangeShapes Go.WideShapes Go.ChangeAt Go.RowKit Go.Proofs.YtandcacobahmbaaDoor.Dg
open Go.ChangeMaps (open_string shut_string)
set_option linter.unusedVariables false

theorem own : ownKnob Tryd.prog.godebug = none := by kernel_rfl
theorem laidOut : laidOutB Tryd.prog = true := by kernel_rfl



/-! ### The walk: the law returns true, and writes nothing that was there. -/
set_option maxRecDepth 100000 in
set_option maxHeartbeats 16000000 in
theorem walk (l0 : List ByteArray) (v0 : Value) (g0 : Fits l0) (w : World) (hT : Halves w) (h0 : Strs w v0 l0) :
    Calls Tryd.prog 5 #[v0] w fun e w' => e = .returned (.bool true) ∧ Below w.heap.size w w' := by
  have HT := Lib.hid hT
  clear hT
  have AWK := Lib.hid (fun W (hB : Below w.heap.size w W) => awake_any W (HT.out.below hB))
  have cL := Lib.hid (light_any l0 v0 w h0 g0)
  have HV := Lib.hid h0
  obtain ⟨p0, c0, rfl, -, -⟩ := h0
  cases hl : lightB l0 with
  | false =>
    rw [hl] at cL
    clear hl g0
    go_enter Tryd.func5, Tryd.ntmps5
    go_wp2_with fail
    refine cL.out.mono ?_; rintro e w1 ⟨rfl, k1⟩
    go_wp2_with fail
    refine (AWK.out _ (k1)).mono ?_; rintro e w9 ⟨rfl, k9⟩
    go_wp2_with fail
    go_ret
    exact ⟨rfl, stepB k1 k9⟩
  | true =>
    rw [hl] at cL
    have hll := light_short hl
    have hsh := hll.2.2
    have hlen : l0.length ≤ 100 := hll.1
    clear hl hll g0
    have c1 := Lib.hid (fun W (hB : Below w.heap.size w W) => qRoot_any l0 _ W (by omega) hsh (HV.out.below hB))
    have c2 := Lib.hid (fun W (hB : Below w.heap.size w W) => rroot_any l0.length l0 _ W rfl (by omega) hsh (HV.out.below hB))
    generalize rootN (bytesL l0) = X at c1 c2
    have hX : ((X : Int) == (X : Int)) = true := beq_self_eq_true _
    clear hsh hlen
    go_enter Tryd.func5, Tryd.ntmps5
    go_wp2_with fail
    refine cL.out.mono ?_; rintro e w1 ⟨rfl, k1⟩
    go_wp2_with fail
    refine (c1.out _ k1).mono ?_; rintro e w2 ⟨rfl, k2⟩
    have m2 := stepB k1 k2
    go_wp2_with fail
    refine (c2.out _ m2).mono ?_; rintro e w3 ⟨rfl, k3⟩
    have m3 := stepB m2 k3
    go_wp2_with fail
    refine (AWK.out _ (m3)).mono ?_; rintro e w9 ⟨rfl, k9⟩
    go_wp2_with fail
    go_ret
    exact ⟨rfl, stepB m3 k9⟩

/-! ### The row's step -/
set_option maxRecDepth 100000 in
theorem lifted (os : Os) (started : os.Started) (H : Type) (enc : TypeId × Value → H) :
    ReturnsInHanded {} Tryd.checked os 5 .any (fun w args => (Rows.digestRootsSpec.pre enc Tryd.prog Tryd.f5 [] false w args ∧ laidMetH Tryd.prog Dg.laidL w) ∧ sizedMet enc Tryd.prog Tryd.f5 (OpenSpec.ofChange Rows.digestRootsSpec) false w args)
      (Rows.digestRootsSpec.post enc Tryd.prog Tryd.f5 false true false false) := by
  refine returnsInHanded_of_change_and (C := Tryd.checked) (X := fun w _ => laidMetH Tryd.prog Dg.laidL w) (fun _ _ _ hh h => h.of_heap hh) own started (by kernel_rfl) Tryd.func5
    (ChangeSpec.witness_shaped (enc := enc) (C := Tryd.checked) (os := os) (X := fun w _ => laidMetH Tryd.prog Dg.laidL w) false (World.doorLaid Tryd.prog 400 os) #[.slice none 0 0] 8 rfl (World.shaped_of_RefB (by kernel_rfl) (by kernel_rfl)) (by kernel_rfl) (by kernel_rfl) (by kernel_rfl) (Dg.door_met os _)) ?_
  intro W base args ds gs before hval0 hW hcnd hsz0 hL _
  have hT := Dg.halves_of_laid hL
  clear hL
  have hsz : (DataW.weightsEach Tryd.prog (Tryd.f5.params.toList ++ Rows.digestRootsSpec.plain.varTypes Tryd.prog) (ds ++ gs)).all (· ≤ reachBytes) = true := hsz0
  have hval : ∀ (j : Nat) t v, Tryd.f5.params[j]? = some t → args[j]? = some v → Value.okWide Tryd.prog W .any base t v := hval0
  have hW' := hW
  obtain ⟨p, q, hA0, hV, rfl, hfz, hnd⟩ := hW
  have hA : DataW.TrodAll enc Tryd.prog W 0 (fun _ => true) true Tryd.f5.params.toList args.toList ds p := hA0
  rw [Tryd.params5] at hA hval hsz
  obtain ⟨v0, vs0, d0, ds0, p0, q0, hargs, rfl, rfl, h0, r0⟩ := trodAll_cons hA
  obtain ⟨rfl, rfl, rfl⟩ := trodAll_nil r0
  obtain rfl : args = #[v0] := by cases args; simp_all
  obtain ⟨rfl, rfl⟩ := trodVars_none hV
  obtain ⟨a0, len0, cap0, rfl⟩ := okWide_slice Tryd.underlying30 (hval 0 30 v0 rfl rfl)
  have k0 := h0
  have lt0 : ∀ x ∈ p0, x.block < W.heap.size := by obtain ⟨m, hm⟩ := k0; exact DataW.trod_lt m _ _ _ hm
  have hz0 : ∀ n ∈ d0.weights Tryd.prog 30, n ≤ reachBytes := fun n hn => by have := List.all_eq_true.1 hsz n (DataW.weights_mem_each (j := 0) rfl rfl n hn); simpa using this
  obtain ⟨l0, s0, g0⟩ := strs_arg h0 hz0
  clear hA0 hval0
  simp only [List.append_nil] at hW'
  refine (walk l0 _ g0 W hT s0).mono fun e W' ⟨he, hg⟩ => ?_
  subst he
  exact ⟨_, rfl, _, _, _, [], _, [], hW', trodAll_mk1 (shut_bool Tryd.underlying4 _), (trodAll_cons_mk (Below.trod laidOut (by kernel_rfl) (of_decide_eq_true (by kernel_rfl)) k0 hg lt0) trodAll_mk0), rfl, hg.frame _, fun h => by cases h⟩

theorem over : Rows.digestRootsRow.holds Tryd.pinned (OpenSpec.ofChange Rows.digestRootsSpec) :=
  OpenClaim.holds_of_wide 5 Tryd.f5 rfl rfl rfl rfl rfl rfl rfl ⟨rfl, rfl, rfl, rfl, rfl⟩ rfl rfl rfl rfl rfl (by kernel_rfl) Tryd.func5 (by kernel_rfl)
    (of_decide_eq_true (by kernel_rfl)) (by unfold Func.isWrapper; first | (rw [if_pos (by decide +kernel)]; kernel_rfl) | (rw [if_neg (by decide +kernel)]; exact ⟨rfl, rfl⟩))
    (fun os started H enc _ => lifted os started H enc)

/-- The statement: the card: the row, and what it lists tied to the program's text. -/
theorem proved : Rows.DigestRootsCardSaid :=
  Claim7.holds_tied_plain_at .later [] [.data] true _ _
    over (fun _ h => by cases h) (by kernel_rfl) (fun _ h => by cases h) digestRoots_row_tie rfl ⟨rfl, rfl⟩ (by kernel_rfl) rfl
    (fun f fn hf hfn => by
      obtain rfl : f = 5 := Option.some.inj ((show Tryd.prog.funcNamed "shipyard/shipyardlaw06.DigestRoots" = some 5 by kernel_rfl).symm.trans hf) |>.symm
      obtain rfl : fn = Tryd.f5 := (Option.some.inj (Tryd.func5.symm.trans hfn)).symm
      exact ⟨by kernel_rfl, fun j t ht => by
        rw [Tryd.params5] at ht
        have hm : t ∈ ([30] : List Nat) := by simpa using Array.mem_of_getElem? ht
        have hall : (([30] : List Nat).all fun u => !Tryd.prog.wantsStandIn u) = true := by kernel_rfl
        exact (show Tryd.prog.wantsStandIn t = false by simpa using List.all_eq_true.1 hall t hm)⟩)
    (by kernel_rfl)
#print axioms proved
end Go.Proofs.YtandcacobahmbaaDoor.digestRoots
