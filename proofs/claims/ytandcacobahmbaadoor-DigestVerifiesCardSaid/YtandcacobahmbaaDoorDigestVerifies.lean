/-
  For every claim the law DigestVerifies (P6.6) returns true and leaves its argument alone: Verify agrees with the reference (the law itself asks this of strings of at most 3000 bytes and paths of at most 100 hashes). No condition.
-/
import Derived.Test.YtandcacobahmbaaDoorRows
import Derived.WalkKit
import Derived.ProofKit
import Derived.OpenShut
import Derived.ShutString
import Derived.ChangeOld
import Derived.Below
import Derived.Carry
import Derived.Test.YtandcacobahmbaaDoorDgCard
import Derived.Test.YtandcacobahmbaaDoorCards
import Derived.Test.YtandcacobahmbaaDoorTie
import Derived.SevenTiedAt
import Derived.Test.YtandcacobahmbaaDoorDgArg
import Derived.Deep.RegionHeld3
namespace Go.Proofs.YtandcacobahmbaaDoor.digestVerifies
open Go.ChangeShapes Go.WideShapes Go.ChangeAt Go.RowKit Go.Proofs.YtandcacobahmbaaDoor.Dg
open Go.ChangeMaps (open_string shut_string)
set_option linter.unusedVariables false

theorem own : ownKnob Tryd.prog.godebug = none := by kernel_rfl
theorem laidOut : laidOutB Tryd.prog = true := by kernel_rfl



/-! ### The walk: the law returns true, and writes nothing that was there. -/
set_option maxRecDepth 100000 in
set_option maxHeartbeats 16000000 in
theorem walk (r0 : Nat) (b0 : ByteArray) (i0 n0 : Int) (l0 : List Nat) (v0 : Value) (wr0 : r0 < 18446744073709551616) (wi0 : In64 i0) (wn0 : In64 n0) (w : World) (hT : Halves w) (h0 : Nats w v0 l0) :
    Calls Tryd.prog 7 #[.agg #[.int .u64 (r0 : Int), .string b0, .int .i64 i0, .int .i64 n0, v0]] w fun e w' => e = .returned (.bool true) ∧ Below w.heap.size w w' := by
  have HT := Lib.hid hT
  clear hT
  have AWK := Lib.hid (fun W (hB : Below w.heap.size w W) => awake_any W (HT.out.below hB))
  have HN := Lib.hid h0
  obtain ⟨p0, c0, rfl⟩ := h0.nil
  have m0 := (Below.refl w.heap.size w).alloc (Nat.le_refl _) (.cells #[.int .u64 (r0 : Int), .string b0, .int .i64 i0, .int .i64 n0, .slice p0 l0.length c0] 40)
  by_cases hbig : 3000 < b0.size
  · have hbig' : (3000 : Int) < (b0.size : Int) := by omega
    clear hbig h0 HN
    go_enter Tryd.func7, Tryd.ntmps7
    go_wp2_with fail
    refine (AWK.out _ (m0)).mono ?_; rintro e w9 ⟨rfl, k9⟩
    go_wp2_with fail
    go_ret
    exact ⟨rfl, m0.trans (k9.mono m0.size)⟩
  · have hs : ¬ (3000 : Int) < (b0.size : Int) := by omega
    by_cases hbig1 : 100 < l0.length
    · have hbig1' : (100 : Int) < (l0.length : Int) := by omega
      clear hbig hbig1 h0 HN
      go_enter Tryd.func7, Tryd.ntmps7
      go_wp2_with fail
      refine (AWK.out _ (m0)).mono ?_; rintro e w9 ⟨rfl, k9⟩
      go_wp2_with fail
      go_ret
      exact ⟨rfl, m0.trans (k9.mono m0.size)⟩
    · have hl : ¬ (100 : Int) < (l0.length : Int) := by omega
      have HN0 := Lib.hid (HN.out.below ((Below.refl w.heap.size w).alloc (Nat.le_refl _) (.cells #[.int .u64 (r0 : Int), .string b0, .int .i64 i0, .int .i64 n0, .slice p0 l0.length c0] 40)))
      have cc : ∀ j, (w.alloc (.cells #[.int .u64 (r0 : Int), .string b0, .int .i64 i0, .int .i64 n0, .slice p0 l0.length c0] 40)).cell? ⟨w.heap.size, j, none⟩ = (#[.int .u64 (r0 : Int), .string b0, .int .i64 i0, .int .i64 n0, .slice p0 l0.length c0] : Array Value)[j]? := fun j => World.cell?_alloc_mark w _ _ (0, 0) j
      have hsz : w.heap.size < (w.alloc (.cells #[.int .u64 (r0 : Int), .string b0, .int .i64 i0, .int .i64 n0, .slice p0 l0.length c0] 40)).heap.size := by show _ < (w.heap.push _).size; rw [Array.size_push]; exact Nat.lt_succ_self _
      have e0 := cc 0
      have e1 := cc 1
      have e2 := cc 2
      have e3 := cc 3
      have e4 := cc 4
      obtain ⟨W0, hW0⟩ : ∃ W0, w.alloc (.cells #[.int .u64 (r0 : Int), .string b0, .int .i64 i0, .int .i64 n0, .slice p0 l0.length c0] 40) = W0 := ⟨_, rfl⟩
      obtain ⟨B, hB⟩ : ∃ B, w.heap.size = B := ⟨_, rfl⟩
      rw [hW0] at HN0 e0 e1 e2 e3 e4 hsz m0
      rw [hB] at e0 e1 e2 e3 e4 hsz
      clear cc
      have AW0 := Lib.hid (fun W (hB : Below W0.heap.size W0 W) => AWK.out W (m0.trans (hB.mono m0.size)))
      have c1 := Lib.hid (fun W (hB : Below W0.heap.size W0 W) => qVerify_any r0 l0 _ b0 i0 n0 W (by omega) wn0.2 (by omega) (HN0.out.below hB))
      have c2 := Lib.hid (fun W (hB : Below W0.heap.size W0 W) => rverify_any r0 l0 _ b0 i0 n0 W (by omega) wn0.2 (by omega) (HN0.out.below hB))
      have KS := Lib.hid (fun W (h : Below W0.heap.size W0 W) => (⟨h, (h.cell hsz).trans e0, (h.cell hsz).trans e1, (h.cell hsz).trans e2, (h.cell hsz).trans e3, (h.cell hsz).trans e4⟩ :
        Below W0.heap.size W0 W ∧ W.cell? ⟨B, 0, none⟩ = some (.int .u64 (r0 : Int)) ∧ W.cell? ⟨B, 1, none⟩ = some (.string b0) ∧ W.cell? ⟨B, 2, none⟩ = some (.int .i64 i0) ∧ W.cell? ⟨B, 3, none⟩ = some (.int .i64 n0) ∧ W.cell? ⟨B, 4, none⟩ = some (.slice p0 l0.length c0)))
      generalize verV r0 b0.data.toList i0 n0 l0 = X at c1 c2
      have hX : (X == X) = true := beq_self_eq_true _
      have B0 := (Below.refl W0.heap.size W0).drew
      clear hbig hbig1 h0 wr0 wi0 wn0 HN HN0
      go_enter Tryd.func7, Tryd.ntmps7
      go_wp2_with fail
      go_region_held3 (fun W => Below W0.heap.size W0 W ∧ W.cell? ⟨B, 0, none⟩ = some (.int .u64 (r0 : Int)) ∧ W.cell? ⟨B, 1, none⟩ = some (.string b0) ∧ W.cell? ⟨B, 2, none⟩ = some (.int .i64 i0) ∧ W.cell? ⟨B, 3, none⟩ = some (.int .i64 n0) ∧ W.cell? ⟨B, 4, none⟩ = some (.slice p0 l0.length c0))
        (first | exact KS.out _ B3 | exact KS.out _ B2 | exact KS.out _ B1 | exact KS.out _ B0)
        (first | (go_at_call 24; refine (c1.out _ B0).mono ?_; rintro e w1 ⟨rfl, k1⟩; have B1 := stepB B0 k1) | (go_at_call 25; refine (c2.out _ B1).mono ?_; rintro e w2 ⟨rfl, k2⟩; have B2 := stepB B1 k2) | (go_at_call 13; refine (AW0.out _ B2).mono ?_; rintro e w3 ⟨rfl, k3⟩; have B3 := stepB B2 k3))
      all_goals (
        go_wp2_with fail
        go_ret
        exact ⟨rfl, m0.trans (B3.mono m0.size)⟩)

/-! ### The row's step -/
set_option maxRecDepth 100000 in
theorem lifted (os : Os) (started : os.Started) (H : Type) (enc : TypeId × Value → H) :
    ReturnsInHanded {} Tryd.checked os 7 .any (fun w args => (Rows.digestVerifiesSpec.pre enc Tryd.prog Tryd.f7 [] false w args ∧ laidMetH Tryd.prog Dg.laidL w) ∧ sizedMet enc Tryd.prog Tryd.f7 (OpenSpec.ofChange Rows.digestVerifiesSpec) false w args)
      (Rows.digestVerifiesSpec.post enc Tryd.prog Tryd.f7 false true false false) := by
  refine returnsInHanded_of_change_and (C := Tryd.checked) (X := fun w _ => laidMetH Tryd.prog Dg.laidL w) (fun _ _ _ hh h => h.of_heap hh) own started (by kernel_rfl) Tryd.func7
    (ChangeSpec.witness_shaped (enc := enc) (C := Tryd.checked) (os := os) (X := fun w _ => laidMetH Tryd.prog Dg.laidL w) false (World.doorLaid Tryd.prog 400 os) #[.agg #[.int .u64 0, .string ByteArray.empty, .int .i64 0, .int .i64 0, .slice none 0 0]] 8 rfl (World.shaped_of_RefB (by kernel_rfl) (by kernel_rfl)) (by kernel_rfl) (by kernel_rfl) (by kernel_rfl) (Dg.door_met os _)) ?_
  intro W base args ds gs before hval0 hW hcnd hsz0 hL _
  have hT := Dg.halves_of_laid hL
  clear hL
  have hval : ∀ (j : Nat) t v, Tryd.f7.params[j]? = some t → args[j]? = some v → Value.okWide Tryd.prog W .any base t v := hval0
  have hW' := hW
  obtain ⟨p, q, hA0, hV, rfl, hfz, hnd⟩ := hW
  have hA : DataW.TrodAll enc Tryd.prog W 0 (fun _ => true) true Tryd.f7.params.toList args.toList ds p := hA0
  rw [Tryd.params7] at hA hval
  obtain ⟨v0, vs0, d0, ds0, p0, q0, hargs, rfl, rfl, h0, r0⟩ := trodAll_cons hA
  obtain ⟨rfl, rfl, rfl⟩ := trodAll_nil r0
  obtain rfl : args = #[v0] := by cases args; simp_all
  obtain ⟨rfl, rfl⟩ := trodVars_none hV
  have k0 := h0
  have lt0 : ∀ x ∈ p0, x.block < W.heap.size := by obtain ⟨m, hm⟩ := k0; exact DataW.trod_lt m _ _ _ hm
  obtain ⟨r0, b0, i0, n0, l0, u0, rfl, wr0, wi0, wn0, s0⟩ := claim_arg (hval 0 40 v0 rfl rfl) h0
  clear hA0 hval0
  simp only [List.append_nil] at hW'
  refine (walk r0 b0 i0 n0 l0 _ wr0 wi0 wn0 W hT s0).mono fun e W' ⟨he, hg⟩ => ?_
  subst he
  exact ⟨_, rfl, _, _, _, [], _, [], hW', trodAll_mk1 (shut_bool Tryd.underlying4 _), (trodAll_cons_mk (Below.trod laidOut (by kernel_rfl) (of_decide_eq_true (by kernel_rfl)) k0 hg lt0) trodAll_mk0), rfl, hg.frame _, fun h => by cases h⟩

theorem over : Rows.digestVerifiesRow.holds Tryd.pinned (OpenSpec.ofChange Rows.digestVerifiesSpec) :=
  OpenClaim.holds_of_wide 7 Tryd.f7 rfl rfl rfl rfl rfl rfl rfl ⟨rfl, rfl, rfl, rfl, rfl⟩ rfl rfl rfl rfl rfl (by kernel_rfl) Tryd.func7 (by kernel_rfl)
    (of_decide_eq_true (by kernel_rfl)) (by unfold Func.isWrapper; first | (rw [if_pos (by decide +kernel)]; kernel_rfl) | (rw [if_neg (by decide +kernel)]; exact ⟨rfl, rfl⟩))
    (fun os started H enc _ => lifted os started H enc)

/-- The statement: the card: the row, and what it lists tied to the program's text. -/
theorem proved : Rows.DigestVerifiesCardSaid :=
  Claim7.holds_tied_plain_at .later [] [.data] true _ _
    over (fun _ h => by cases h) (by kernel_rfl) (fun _ h => by cases h) digestVerifies_row_tie rfl ⟨rfl, rfl⟩ (by kernel_rfl) rfl
    (fun f fn hf hfn => by
      obtain rfl : f = 7 := Option.some.inj ((show Tryd.prog.funcNamed "shipyard/shipyardlaw06.DigestVerifies" = some 7 by kernel_rfl).symm.trans hf) |>.symm
      obtain rfl : fn = Tryd.f7 := (Option.some.inj (Tryd.func7.symm.trans hfn)).symm
      exact ⟨by kernel_rfl, fun j t ht => by
        rw [Tryd.params7] at ht
        have hm : t ∈ ([40] : List Nat) := by simpa using Array.mem_of_getElem? ht
        have hall : (([40] : List Nat).all fun u => !Tryd.prog.wantsStandIn u) = true := by kernel_rfl
        exact (show Tryd.prog.wantsStandIn t = false by simpa using List.all_eq_true.1 hall t hm)⟩)
    (by kernel_rfl)
#print axioms proved
end Go.Proofs.YtandcacobahmbaaDoor.digestVerifies
