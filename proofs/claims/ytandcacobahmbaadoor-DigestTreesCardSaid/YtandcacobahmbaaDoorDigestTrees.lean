/-
  For every list of strings and every byte the law DigestTrees (P6.8) returns true and leaves its arguments alone: the root of two lists together, the first one of 2^k strings and the second one of at least one and at most as many, is the pair of their roots (the law itself asks this of at most 100 strings with at most 3000 bytes in all). No condition.
-/
import Derived.Test.YtandcacobahmbaaDoorRows
import Derived.WalkKit
import Derived.ProofKit
import Derived.OpenShut
import Derived.ShutString
import Derived.ChangeOld
import Derived.Below
import Derived.Carry
import Derived.SizedLaws
import Derived.Test.YtandcacobahmbaaDoorDgCard
import Derived.Test.YtandcacobahmbaaDoorCards
import Derived.Test.YtandcacobahmbaaDoorTie
import Derived.SevenTiedAt
import Derived.Test.YtandcacobahmbaaDoorDgArg
import Derived.Deep.RegionHeld3
namespace Go.Proofs.YtandcacobahmbaaDoor.digestTrees
open Go.ChangeShapes Go.WideShapes Go.ChangeAt Go.RowKit Go.Proofs.YtandcacobahmbaaDoor.Dg
open Go.ChangeMaps (open_string shut_string)
set_option linter.unusedVariables false

theorem own : ownKnob Tryd.prog.godebug = none := by kernel_rfl
theorem laidOut : laidOutB Tryd.prog = true := by kernel_rfl



/-! ### The walk: the law returns true, and writes nothing that was there. -/
set_option maxRecDepth 100000 in
set_option maxHeartbeats 16000000 in
theorem walk (l0 : List ByteArray) (v0 : Value) (g0 : Fits l0) (a1 : Int) (w1 : (Lit.int .u8 a1).wf = true) (w : World) (hT : Halves w) (h0 : Strs w v0 l0) :
    Calls Tryd.prog 9 #[v0, .int .u8 a1] w fun e w' => e = .returned (.bool true) ∧ Below w.heap.size w w' := by
  have HT := Lib.hid hT
  clear hT
  have AWK := Lib.hid (fun W (hB : Below w.heap.size w W) => awake_any W (HT.out.below hB))
  have b1 := bounds_u8 w1
  obtain ⟨q, rfl⟩ : ∃ q : Nat, a1 = (q : Int) := ⟨a1.toNat, by omega⟩
  obtain ⟨K, hK⟩ : ∃ K : Nat, q % 7 = K := ⟨_, rfl⟩
  have hK6 : K ≤ 6 := by omega
  have hK' : (q : Int) % 7 = (K : Int) := by omega
  have hN64 : 2 ^ K ≤ 64 := Nat.pow_le_pow_right (n := 2) (by decide) hK6
  have hNp : 0 < 2 ^ K := Nat.two_pow_pos K
  have f0 : IntKind.u64.wrap (K : Int) = (K : Int) := IntWalk.u64_in _ (by omega)
  have f1 : min K 64 = K := by omega
  have hNI : (2 : Int) ^ K = ((2 ^ K : Nat) : Int) := by rw [Int.natCast_pow]; rfl
  obtain ⟨N, hN⟩ : ∃ N : Nat, 2 ^ K = N := ⟨_, rfl⟩
  rw [hN] at hNI hN64 hNp
  have f2 : IntKind.i64.wrap ((2 : Int) ^ K) = (N : Int) := by rw [hNI, IntWalk.i64_in _ (by omega)]
  have f3 : IntKind.i64.wrap (2 * (N : Int)) = 2 * (N : Int) := IntWalk.i64_in _ (by omega)
  have HNe := Lib.hid hN
  clear hK hN w1 b1 hNI
  have cL := Lib.hid (light_any l0 v0 w h0 g0)
  have HV := Lib.hid h0
  obtain ⟨p0, c0, rfl, -, -⟩ := h0
  cases hl : lightB l0 with
  | false =>
    rw [hl] at cL
    clear hl g0
    go_enter Tryd.func9, Tryd.ntmps9
    go_wp2_with fail
    refine cL.out.mono ?_; rintro e w1 ⟨rfl, k1⟩
    go_wp2_with fail
    refine (AWK.out _ (k1)).mono ?_; rintro e w9 ⟨rfl, k9⟩
    go_wp2_with fail
    go_ret
    exact ⟨rfl, stepB k1 k9⟩
  | true =>
    rw [hl] at cL
    have hll := light_short hl
    have hsh := hll.2.2
    have hlen : l0.length ≤ 100 := hll.1
    clear hl hll g0
    by_cases hle : l0.length ≤ N
    · have hle' : (l0.length : Int) ≤ (N : Int) := by omega
      clear hsh hle
      go_enter Tryd.func9, Tryd.ntmps9
      go_wp2_with fail
      refine cL.out.mono ?_; rintro e w1 ⟨rfl, k1⟩
      go_wp2_with fail
      refine (AWK.out _ (k1)).mono ?_; rintro e w9 ⟨rfl, k9⟩
      go_wp2_with fail
      go_ret
      exact ⟨rfl, stepB k1 k9⟩
    · have hle' : ¬ (l0.length : Int) ≤ (N : Int) := by omega
      by_cases hgt : 2 * N < l0.length
      · have hgt' : 2 * (N : Int) < (l0.length : Int) := by omega
        clear hsh hle hgt
        go_enter Tryd.func9, Tryd.ntmps9
        go_wp2_with fail
        refine cL.out.mono ?_; rintro e w1 ⟨rfl, k1⟩
        go_wp2_with fail
        refine (AWK.out _ (k1)).mono ?_; rintro e w9 ⟨rfl, k9⟩
        go_wp2_with fail
        go_ret
        exact ⟨rfl, stepB k1 k9⟩
      · have hgt' : ¬ 2 * (N : Int) < (l0.length : Int) := by omega
        obtain ⟨bb, off, cc, e1, ha⟩ := HV.out.open (by omega)
        simp only [Value.slice.injEq] at e1
        obtain ⟨rfl, -, rfl⟩ := e1
        have hcap := ha.cap
        have hleft : leftN l0.length = N := by rw [← HNe.out]; exact left_is (by rw [HNe.out]; omega) (by rw [HNe.out]; omega)
        have hR := root_two (l := bytesL l0) (by rw [bytesL_length]; omega)
        rw [bytesL_length, ← bytesL_take, ← bytesL_drop, hleft] at hR
        have lt1 : (l0.take N).length = N := by rw [List.length_take]; omega
        have ld1 : (l0.drop N).length = l0.length - N := List.length_drop
        have cA := Lib.hid (fun W (hB : Below w.heap.size w W) => qRoot_any l0 _ W (by omega) hsh (ha.below hB).strs)
        have cB := Lib.hid (fun W (hB : Below w.heap.size w W) => qRoot_any (l0.take N) _ W (by omega) (hsh.take N) ((ha.below hB).take (by omega)).strs)
        have cC := Lib.hid (fun W (hB : Below w.heap.size w W) => qRoot_any (l0.drop N) _ W (by omega) (hsh.drop N) ((ha.below hB).drop (by omega)).strs)
        rw [lt1] at cB
        rw [ld1] at cC
        rw [hR] at cA
        have a1 := root_lt (bytesL (l0.take N))
        have a2 := root_lt (bytesL (l0.drop N))
        generalize rootN (bytesL (l0.take N)) = X at cA cB a1
        generalize rootN (bytesL (l0.drop N)) = Y at cA cC a2
        have cP := Lib.hid (fun w => qPair_any X Y w a1 a2)
        generalize pairN X Y = Z at cA cP
        have hZ : ((Z : Int) == (Z : Int)) = true := beq_self_eq_true _
        have p1 : (N : Int) ≤ (c0 : Int) := by omega
        have p2 : (N : Int) ≤ (l0.length : Int) := by omega
        have p3 : (l0.length : Int) ≤ (c0 : Int) := by omega
        have hck : ¬ c0 = N := by omega
        clear hsh hle hgt ha HV hR lt1 ld1 a1 a2 hleft
        go_enter Tryd.func9, Tryd.ntmps9
        go_wp2_with fail
        refine cL.out.mono ?_; rintro e w1 ⟨rfl, k1⟩
        have B0 := k1.drew
        go_wp2_with fail
        go_region_held3 (fun W => Below w.heap.size w W) (first | exact B5 | exact B4 | exact B3 | exact B2 | exact B1 | exact B0)
          (first | (go_at_call 13; refine (AWK.out _ B4).mono ?_; rintro e w6 ⟨rfl, k6⟩; have B5 := stepB B4 k6) | (go_at_call 16; refine (cP.out _).mono ?_; rintro e w5 ⟨rfl, k5⟩; have B4 := stepB B3 k5) | (go_at_call 19; refine (cC.out _ B2).mono ?_; rintro e w4 ⟨rfl, k4⟩; have B3 := stepB B2 k4) | (go_at_call 19; refine (cB.out _ B1).mono ?_; rintro e w3 ⟨rfl, k3⟩; have B2 := stepB B1 k3) | (go_at_call 19; refine (cA.out _ B0).mono ?_; rintro e w2 ⟨rfl, k2⟩; have B1 := stepB B0 k2))
        all_goals (
          go_wp2_with fail
          go_ret
          exact ⟨rfl, B5⟩)

/-! ### The row's step -/
set_option maxRecDepth 100000 in
theorem lifted (os : Os) (started : os.Started) (H : Type) (enc : TypeId × Value → H) :
    ReturnsInHanded {} Tryd.checked os 9 .any (fun w args => (Rows.digestTreesSpec.pre enc Tryd.prog Tryd.f9 [] false w args ∧ laidMetH Tryd.prog Dg.laidL w) ∧ sizedMet enc Tryd.prog Tryd.f9 (OpenSpec.ofChange Rows.digestTreesSpec) false w args)
      (Rows.digestTreesSpec.post enc Tryd.prog Tryd.f9 false true false false) := by
  refine returnsInHanded_of_change_and (C := Tryd.checked) (X := fun w _ => laidMetH Tryd.prog Dg.laidL w) (fun _ _ _ hh h => h.of_heap hh) own started (by kernel_rfl) Tryd.func9
    (ChangeSpec.witness_shaped (enc := enc) (C := Tryd.checked) (os := os) (X := fun w _ => laidMetH Tryd.prog Dg.laidL w) false (World.doorLaid Tryd.prog 400 os) #[.slice none 0 0, .int .u8 0] 8 rfl (World.shaped_of_RefB (by kernel_rfl) (by kernel_rfl)) (by kernel_rfl) (by kernel_rfl) (by kernel_rfl) (Dg.door_met os _)) ?_
  intro W base args ds gs before hval0 hW hcnd hsz0 hL _
  have hT := Dg.halves_of_laid hL
  clear hL
  have hsz : (DataW.weightsEach Tryd.prog (Tryd.f9.params.toList ++ Rows.digestTreesSpec.plain.varTypes Tryd.prog) (ds ++ gs)).all (· ≤ reachBytes) = true := hsz0
  have hval : ∀ (j : Nat) t v, Tryd.f9.params[j]? = some t → args[j]? = some v → Value.okWide Tryd.prog W .any base t v := hval0
  have hW' := hW
  obtain ⟨p, q, hA0, hV, rfl, hfz, hnd⟩ := hW
  have hA : DataW.TrodAll enc Tryd.prog W 0 (fun _ => true) true Tryd.f9.params.toList args.toList ds p := hA0
  rw [Tryd.params9] at hA hval hsz
  obtain ⟨v0, vs0, d0, ds0, p0, q0, hargs, rfl, rfl, h0, r0⟩ := trodAll_cons hA
  obtain ⟨v1, vs1, d1, ds1, p1, q1, rfl, rfl, rfl, h1, r1⟩ := trodAll_cons r0
  obtain ⟨rfl, rfl, rfl⟩ := trodAll_nil r1
  obtain rfl : args = #[v0, v1] := by cases args; simp_all
  obtain ⟨rfl, rfl⟩ := trodVars_none hV
  obtain ⟨a0, len0, cap0, rfl⟩ := okWide_slice Tryd.underlying30 (hval 0 30 v0 rfl rfl)
  have k0 := h0
  have lt0 : ∀ x ∈ p0, x.block < W.heap.size := by obtain ⟨m, hm⟩ := k0; exact DataW.trod_lt m _ _ _ hm
  have hz0 : ∀ n ∈ d0.weights Tryd.prog 30, n ≤ reachBytes := fun n hn => by have := List.all_eq_true.1 hsz n (DataW.weights_mem_each (j := 0) rfl rfl n hn); simpa using this
  obtain ⟨l0, s0, g0⟩ := strs_arg h0 hz0
  obtain ⟨a1, rfl, rfl, rfl, w1⟩ := open_int Tryd.underlying5 (hval 1 5 v1 rfl rfl) h1
  clear hA0 hval0
  simp only [List.append_nil] at hW'
  refine (walk l0 _ g0 a1 w1 W hT s0).mono fun e W' ⟨he, hg⟩ => ?_
  subst he
  exact ⟨_, rfl, _, _, _, [], _, [], hW', trodAll_mk1 (shut_bool Tryd.underlying4 _), (trodAll_cons_mk (Below.trod laidOut (by kernel_rfl) (of_decide_eq_true (by kernel_rfl)) k0 hg lt0) (trodAll_cons_mk (shut_int Tryd.underlying5 w1) trodAll_mk0)), rfl, hg.frame _, fun h => by cases h⟩

theorem over : Rows.digestTreesRow.holds Tryd.pinned (OpenSpec.ofChange Rows.digestTreesSpec) :=
  OpenClaim.holds_of_wide 9 Tryd.f9 rfl rfl rfl rfl rfl rfl rfl ⟨rfl, rfl, rfl, rfl, rfl⟩ rfl rfl rfl rfl rfl (by kernel_rfl) Tryd.func9 (by kernel_rfl)
    (of_decide_eq_true (by kernel_rfl)) (by unfold Func.isWrapper; first | (rw [if_pos (by decide +kernel)]; kernel_rfl) | (rw [if_neg (by decide +kernel)]; exact ⟨rfl, rfl⟩))
    (fun os started H enc _ => lifted os started H enc)

/-- The statement: the card: the row, and what it lists tied to the program's text. -/
theorem proved : Rows.DigestTreesCardSaid :=
  Claim7.holds_tied_plain_at .later [] [.data] true _ _
    over (fun _ h => by cases h) (by kernel_rfl) (fun _ h => by cases h) digestTrees_row_tie rfl ⟨rfl, rfl⟩ (by kernel_rfl) rfl
    (fun f fn hf hfn => by
      obtain rfl : f = 9 := Option.some.inj ((show Tryd.prog.funcNamed "shipyard/shipyardlaw06.DigestTrees" = some 9 by kernel_rfl).symm.trans hf) |>.symm
      obtain rfl : fn = Tryd.f9 := (Option.some.inj (Tryd.func9.symm.trans hfn)).symm
      exact ⟨by kernel_rfl, fun j t ht => by
        rw [Tryd.params9] at ht
        have hm : t ∈ ([30, 5] : List Nat) := by simpa using Array.mem_of_getElem? ht
        have hall : (([30, 5] : List Nat).all fun u => !Tryd.prog.wantsStandIn u) = true := by kernel_rfl
        exact (show Tryd.prog.wantsStandIn t = false by simpa using List.all_eq_true.1 hall t hm)⟩)
    (by kernel_rfl)
#print axioms proved
end Go.Proofs.YtandcacobahmbaaDoor.digestTrees
