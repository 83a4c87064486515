/-
  For every First (a list of spans, a beginning, a length and an earlier beginning) the law SpanFirst (P8.6) returns true and leaves its argument alone: the interval that Fit returns is free, and one that begins earlier is not (the law itself asks this of at most 60 spans with ends from -2^40 to 2^40). No condition.
-/
import Derived.Test.YtmfhjgddpkecfaaRows
import Derived.WalkKit
import Derived.ProofKit
import Derived.OpenShut
import Derived.ShutString
import Derived.ChangeOld
import Derived.Below
import Derived.Carry
import Derived.Test.YtmfhjgddpkecfaaSpArg
namespace Go.Proofs.Ytmfhjgddpkecfaa.spanFirst
open Go.ChangeShapes Go.WideShapes Go.ChangeAt Go.RowKit Go.Proofs.Ytmfhjgddpkecfaa.Sp
open Go.ChangeMaps (open_string shut_string)
set_option linter.unusedVariables false

theorem own : ownKnob Try.prog.godebug = none := by kernel_rfl
theorem laidOut : laidOutB Try.prog = true := by kernel_rfl

theorem first_math (l : List Spn) (f : Int) (n : Nat) (hE : Go.Proofs.Ytmfhjgddpkecfaa.Sp.Ends (-1099511627776) 1099511627776 l) (h1 : -1099511627776 ≤ f) (h2 : f ≤ 1099511627776) :
    fitV l f ((n : Int) + 1) = fitS l f ((n : Int) + 1) ∧ fitB l f ((n : Int) + 1) = true ∧ f ≤ fitS l f ((n : Int) + 1) ∧ fitS l f ((n : Int) + 1) ≤ 1099511627776 ∧
    interL l [(fitS l f ((n : Int) + 1), fitS l f ((n : Int) + 1) + ((n : Int) + 1))] = [] ∧ (∀ t, f ≤ t → t < fitS l f ((n : Int) + 1) → 0 < (interL l [(t, t + ((n : Int) + 1))]).length) := by
  have hl : (1 : Int) ≤ (n : Int) + 1 := by omega
  obtain ⟨k1, k2, k3, k4⟩ := fit_all ((n : Int) + 1) hl (normL l) f (norm_canon l)
  have hs : fitS l f ((n : Int) + 1) ≤ 1099511627776 := by
    unfold fitS
    rcases k4 with e | ⟨x, hx, e⟩
    · rw [e]; exact h2
    · rw [e]
      have := norm_ends hE x hx
      omega
  have hb : ¬ 4611686018427387904 ≤ fitS l f ((n : Int) + 1) := by omega
  have hb2 : ¬ (n : Int) + 1 < 1 := by omega
  refine ⟨?_, ?_, k1, hs, (inter_nil_iff hl).2 k2, fun t h3 h4 => ?_⟩
  · unfold fitV
    rw [if_neg hb2, if_neg hb]
  · unfold fitB
    rw [if_neg hb2, if_neg hb]
  · refine List.length_pos_iff.2 fun e => ?_
    obtain ⟨x, hx, hn⟩ := k3 t h3 h4
    exact hn ((inter_nil_iff hl).1 e x hx)

/-! ### The walk: the law returns true, and writes nothing that was there. -/
set_option maxRecDepth 100000 in
set_option maxHeartbeats 16000000 in
theorem walk (l0 : List Spn) (v0 : Value) (f0 : Int) (n0 e0 : Nat) (wf0 : In64 f0) (wn0 : n0 < 65536) (we0 : e0 < 65536) (w : World) (h0 : SpnA w v0 l0) :
    Calls Try.prog 8 #[.agg #[v0, .int .i64 f0, .int .u16 (n0 : Int), .int .u16 (e0 : Int)]] w fun e w' => e = .returned (.bool true) ∧ Below w.heap.size w w' := by
  obtain ⟨h0, g0⟩ := h0
  have HL := Lib.hid h0
  have GL := Lib.hid g0
  obtain ⟨p0, c0, rfl⟩ := h0.nil
  clear h0 g0
  have cL := Lib.hid (fun W => large_any _ _ p0 none l0.length c0 0 0 W rfl rfl)
  obtain ⟨W0, hW0⟩ : ∃ W, w.alloc (.cells #[.slice p0 l0.length c0, .int .i64 f0, .int .u16 (n0 : Int), .int .u16 (e0 : Int)] 36) = W := ⟨_, rfl⟩
  have bW : Below w.heap.size w W0 := by rw [← hW0]; exact alloc_below w _
  have zz : ∀ W, Below W0.heap.size W0 W → W.cell? ⟨w.heap.size, 0, none⟩ = some (.slice p0 l0.length c0) ∧ W.cell? ⟨w.heap.size, 1, none⟩ = some (.int .i64 f0) ∧ W.cell? ⟨w.heap.size, 2, none⟩ = some (.int .u16 (n0 : Int)) ∧ W.cell? ⟨w.heap.size, 3, none⟩ = some (.int .u16 (e0 : Int)) := fun W h => by
    have hlt : w.heap.size < W0.heap.size := by rw [← hW0, size_alloc]; exact Nat.lt_succ_self _
    have h2 := fun i => World.cell?_alloc_mark w #[.slice p0 l0.length c0, .int .i64 f0, .int .u16 (n0 : Int), .int .u16 (e0 : Int)] 36 (0, 0) i
    rw [hW0] at h2
    exact ⟨(h.cell hlt).trans (h2 0), (h.cell hlt).trans (h2 1), (h.cell hlt).trans (h2 2), (h.cell hlt).trans (h2 3)⟩
  have ZZ := Lib.hid zz
  have BW := Lib.hid bW
  clear zz bW
  have H1 := Lib.hid (HL.out.below BW.out)
  have wf := wf0
  obtain ⟨z0, z1, z2, z3⟩ := ZZ.out W0 (Below.refl _ _)
  by_cases hbig : 60 < l0.length
  · have e1 : ∀ W, Calls Try.prog 10 #[.slice p0 l0.length c0, .slice none 0 0] W fun e w' => e = .returned (.bool true) ∧ W = w' := fun W => by
      have := cL.out W
      rw [decide_eq_true hbig, Bool.true_or] at this
      exact this
    have e1 := Lib.hid e1
    clear cL hbig
    go_enter Try.func8, Try.ntmps8
    go_wp2_with fail
    go_quiet (fail)
    have m0 : Below W0.heap.size W0 (W0.drewN nq) := below_drewN (Below.refl _ _) nq
    clear z0 z1 z2 z3
    go_wp2_with fail
    refine (e1.out _).mono ?_; rintro e w' ⟨rfl, rfl⟩
    go_wp2_with fail
    refine (awake_any _).mono ?_; rintro e w9 ⟨rfl, k9⟩
    go_wp2_with fail
    go_ret
    exact ⟨rfl, stepB BW.out (stepB m0 k9)⟩
  · have e1 : ∀ W, Calls Try.prog 10 #[.slice p0 l0.length c0, .slice none 0 0] W fun e w' => e = .returned (.bool false) ∧ W = w' := fun W => by
      have := cL.out W
      rw [decide_eq_false hbig, Bool.false_or, decide_eq_false (show ¬ 60 < 0 by decide)] at this
      exact this
    have e1 := Lib.hid e1
    have hn : l0.length ≤ 60 := by omega
    clear cL hbig
    have c0 := Lib.hid (fun W (h : Below W0.heap.size W0 W) => near_any l0 _ W (H1.out.below h) (by omega))
    by_cases hnb : nearB l0 = true
    · rw [hnb] at c0
      by_cases hf1 : f0 < -1099511627776
      · clear hnb hn
        go_enter Try.func8, Try.ntmps8
        go_wp2_with fail
        go_quiet (fail)
        have m0 : Below W0.heap.size W0 (W0.drewN nq) := below_drewN (Below.refl _ _) nq
        clear z0 z1 z2 z3
        go_wp2_with fail
        refine (e1.out _).mono ?_; rintro e w' ⟨rfl, rfl⟩
        go_wp2_with fail
        refine (c0.out _ m0).mono ?_; rintro e u1 ⟨rfl, k0⟩
        have m1 := Lib.hid (stepB m0 k0)
        go_wp2_with fail
        refine (awake_any _).mono ?_; rintro e w9 ⟨rfl, k9⟩
        go_wp2_with fail
        go_ret
        exact ⟨rfl, stepB BW.out (stepB m1.out k9)⟩
      · have hf1' : -1099511627776 ≤ f0 := by omega
        by_cases hf2 : 1099511627776 < f0
        · clear hnb hn
          go_enter Try.func8, Try.ntmps8
          go_wp2_with fail
          go_quiet (fail)
          have m0 : Below W0.heap.size W0 (W0.drewN nq) := below_drewN (Below.refl _ _) nq
          clear z0 z1 z2 z3
          go_wp2_with fail
          refine (e1.out _).mono ?_; rintro e w' ⟨rfl, rfl⟩
          go_wp2_with fail
          refine (c0.out _ m0).mono ?_; rintro e u1 ⟨rfl, k0⟩
          have m1 := Lib.hid (stepB m0 k0)
          go_wp2_with fail
          refine (awake_any _).mono ?_; rintro e w9 ⟨rfl, k9⟩
          go_wp2_with fail
          go_ret
          exact ⟨rfl, stepB BW.out (stepB m1.out k9)⟩
        · have hf2' : f0 ≤ 1099511627776 := by omega
          obtain ⟨q1, q2, q3, q4, q5, q6⟩ := first_math l0 f0 n0 (near_ends hnb) hf1' hf2'
          have hN : (1 : Int) ≤ (n0 : Int) + 1 ∧ (n0 : Int) + 1 ≤ 65536 := by omega
          have c1 := Lib.hid (fun W (h : Below W0.heap.size W0 W) => qFit_any l0 _ f0 ((n0 : Int) + 1) W (H1.out.below h) (by omega) GL.out (by unfold In64; omega) (by unfold In64; omega))
          unfold FiEnd at c1
          rw [q1, q2] at c1
          have c2 := Lib.hid (fun s v W (h : Below W0.heap.size W0 W) (hv : Spns W v [(s, s + ((n0 : Int) + 1))]) => qInter_any l0 [(s, s + ((n0 : Int) + 1))] _ v W (H1.out.below h) hv (by omega) (show 1 ≤ 300 by decide))
          unfold SpEnd at c2
          generalize fitS l0 f0 ((n0 : Int) + 1) = s at c1 q3 q4 q5 q6
          have c3 := Lib.hid (c2.out s)
          rw [q5] at c3
          have q6 := Lib.hid q6
          have e2 : IntKind.i64.wrap (s + ((n0 : Int) + 1)) = s + ((n0 : Int) + 1) := IntWalk.i64_in _ (by omega)
          have e3 : IntKind.i64.wrap (s - 1) = s - 1 := IntWalk.i64_in _ (by omega)
          have e4 : IntKind.i64.wrap (s - 1 - (e0 : Int)) = s - 1 - (e0 : Int) := IntWalk.i64_in _ (by omega)
          have q3' : ¬ s < f0 := by omega
          clear q1 q2 q5 hnb hf1 hf2
          by_cases ht : s - 1 - (e0 : Int) < f0
          · have ht' := ht
            go_enter Try.func8, Try.ntmps8
            go_wp2_with fail
            go_quiet (fail)
            have m0 : Below W0.heap.size W0 (W0.drewN nq) := below_drewN (Below.refl _ _) nq
            clear z0 z1 z2 z3
            go_wp2_with fail
            refine (e1.out _).mono ?_; rintro e w' ⟨rfl, rfl⟩
            go_wp2_with fail
            refine (c0.out _ m0).mono ?_; rintro e u1 ⟨rfl, k0⟩
            have m1 := Lib.hid (stepB m0 k0)
            obtain ⟨z0, z1, z2, z3⟩ := ZZ.out u1 m1.out
            go_wp2_with fail
            refine (c1.out _ m1.out).mono ?_; rintro e w1 ⟨rfl, k1⟩
            have m2 := Lib.hid (stepB m1.out k1)
            have b2 := alloc_below w1 (.cells #[.int .i64 s, .int .i64 (s + ((n0 : Int) + 1))] 38)
            have m3 := Lib.hid (stepB m2.out b2)
            have s3 := Lib.hid (made_spns w1 [(s, s + ((n0 : Int) + 1))])
            clear b2 z0 z1 z2 z3
            go_wp2_with fail
            refine (c3.out _ _ m3.out s3.out).mono ?_; rintro e w2 ⟨v2, rfl, o2, k2⟩
            obtain ⟨p2, q2, rfl⟩ := o2.nil
            rw [List.length_nil]
            have m4 := Lib.hid (stepB m3.out k2)
            obtain ⟨z0, z1, z2, z3⟩ := ZZ.out w2 m4.out
            clear o2 k2 k1 m2 m3 s3 k0
            go_wp2_with fail
            refine (awake_any _).mono ?_; rintro e w9 ⟨rfl, k9⟩
            go_wp2_with fail
            go_ret
            exact ⟨rfl, stepB BW.out (stepB m4.out k9)⟩
          · have ht' : f0 ≤ s - 1 - (e0 : Int) := by omega
            have hpos := q6.out (s - 1 - (e0 : Int)) ht' (by omega)
            have c4 := Lib.hid (c2.out (s - 1 - (e0 : Int)))
            have e5 : IntKind.i64.wrap (s - 1 - (e0 : Int) + ((n0 : Int) + 1)) = s - 1 - (e0 : Int) + ((n0 : Int) + 1) := IntWalk.i64_in _ (by omega)
            have hse : s - 1 - (e0 : Int) ≤ 1099511627776 := by omega
            generalize interL l0 [(s - 1 - (e0 : Int), s - 1 - (e0 : Int) + ((n0 : Int) + 1))] = X at c4 hpos
            obtain ⟨N, hXN⟩ : ∃ N, X.length = N := ⟨_, rfl⟩
            have hXN := Lib.hid hXN
            have hpos' : (0 : Int) < (N : Int) := by rw [← hXN.out]; omega
            clear hpos
            go_enter Try.func8, Try.ntmps8
            go_wp2_with fail
            go_quiet (fail)
            have m0 : Below W0.heap.size W0 (W0.drewN nq) := below_drewN (Below.refl _ _) nq
            clear z0 z1 z2 z3
            go_wp2_with fail
            refine (e1.out _).mono ?_; rintro e w' ⟨rfl, rfl⟩
            go_wp2_with fail
            refine (c0.out _ m0).mono ?_; rintro e u1 ⟨rfl, k0⟩
            have m1 := Lib.hid (stepB m0 k0)
            obtain ⟨z0, z1, z2, z3⟩ := ZZ.out u1 m1.out
            go_wp2_with fail
            refine (c1.out _ m1.out).mono ?_; rintro e w1 ⟨rfl, k1⟩
            have m2 := Lib.hid (stepB m1.out k1)
            have b2 := alloc_below w1 (.cells #[.int .i64 s, .int .i64 (s + ((n0 : Int) + 1))] 38)
            have m3 := Lib.hid (stepB m2.out b2)
            have s3 := Lib.hid (made_spns w1 [(s, s + ((n0 : Int) + 1))])
            clear b2 z0 z1 z2 z3
            go_wp2_with fail
            refine (c3.out _ _ m3.out s3.out).mono ?_; rintro e w2 ⟨v2, rfl, o2, k2⟩
            obtain ⟨p2, q2, rfl⟩ := o2.nil
            rw [List.length_nil]
            have m4 := Lib.hid (stepB m3.out k2)
            obtain ⟨z0, z1, z2, z3⟩ := ZZ.out w2 m4.out
            clear o2 k2 k1 m2 m3 s3 k0
            have b5 := alloc_below w2 (.cells #[.int .i64 (s - 1 - (e0 : Int)), .int .i64 (s - 1 - (e0 : Int) + ((n0 : Int) + 1))] 38)
            have m5 := Lib.hid (stepB m4.out b5)
            have s5 := Lib.hid (made_spns w2 [(s - 1 - (e0 : Int), s - 1 - (e0 : Int) + ((n0 : Int) + 1))])
            clear b5
            go_wp2_with fail
            refine (c4.out _ _ m5.out s5.out).mono ?_; rintro e w3 ⟨v3, rfl, o3, k3⟩
            obtain ⟨p3, q7, rfl⟩ := o3.nil
            rw [hXN.out]
            have m6 := Lib.hid (stepB m5.out k3)
            clear o3 k3 m5 s5 z0 z1 z2 z3
            go_wp2_with fail
            refine (awake_any _).mono ?_; rintro e w9 ⟨rfl, k9⟩
            go_wp2_with fail
            go_ret
            have hN0 : decide (0 < N) = true := decide_eq_true (by omega)
            exact ⟨by simp [hN0], stepB BW.out (stepB m6.out k9)⟩
    · have hnb : nearB l0 = false := by cases h : nearB l0 with | true => exact absurd h hnb | false => rfl
      rw [hnb] at c0
      clear hnb hn
      go_enter Try.func8, Try.ntmps8
      go_wp2_with fail
      go_quiet (fail)
      have m0 : Below W0.heap.size W0 (W0.drewN nq) := below_drewN (Below.refl _ _) nq
      clear z0 z1 z2 z3
      go_wp2_with fail
      refine (e1.out _).mono ?_; rintro e w' ⟨rfl, rfl⟩
      go_wp2_with fail
      refine (c0.out _ m0).mono ?_; rintro e u1 ⟨rfl, k0⟩
      have m1 := Lib.hid (stepB m0 k0)
      go_wp2_with fail
      refine (awake_any _).mono ?_; rintro e w9 ⟨rfl, k9⟩
      go_wp2_with fail
      go_ret
      exact ⟨rfl, stepB BW.out (stepB m1.out k9)⟩

/-! ### The row's step -/
set_option maxRecDepth 100000 in
theorem lifted (os : Os) (started : os.Started) (H : Type) (enc : TypeId × Value → H) :
    ReturnsInHanded {} Try.checked os 8 .any (Rows.spanFirstSpec.pre6 enc Try.prog Try.f8 Rows.spanFirstRow.domain false) (Rows.spanFirstSpec.post enc Try.prog Try.f8 false true false false) := by
  refine returnsInHanded_of_change (C := Try.checked) own started (by kernel_rfl) Try.func8
    (ChangeSpec.witness6 (enc := enc) (C := Try.checked) false ⟨#[], #[.agg #[.slice none 0 0, .int .i64 0, .int .u16 0, .int .u16 0]], []⟩ 8 (by kernel_rfl) (by kernel_rfl) (by kernel_rfl) (by kernel_rfl)) ?_
  intro W base args ds gs before hval0 hW hcnd _
  have hval : ∀ (j : Nat) t v, Try.f8.params[j]? = some t → args[j]? = some v → Value.okWide Try.prog W .any base t v := hval0
  have hW' := hW
  obtain ⟨p, q, hA0, hV, rfl, hfz, hnd⟩ := hW
  have hA : DataW.TrodAll enc Try.prog W 0 (fun _ => true) true Try.f8.params.toList args.toList ds p := hA0
  rw [Try.params8] at hA hval
  obtain ⟨v0, vs0, d0, ds0, p0, q0, hargs, rfl, rfl, h0, r0⟩ := trodAll_cons hA
  obtain ⟨rfl, rfl, rfl⟩ := trodAll_nil r0
  obtain rfl : args = #[v0] := by cases args; simp_all
  obtain ⟨rfl, rfl⟩ := trodVars_none hV
  have k0 := h0
  have lt0 : ∀ x ∈ p0, x.block < W.heap.size := by obtain ⟨m, hm⟩ := k0; exact DataW.trod_lt m _ _ _ hm
  obtain ⟨l0, u0, f0, n0, e0, rfl, s0, wf0, wn0, we0⟩ := first_arg (hval 0 36 v0 rfl rfl) h0
  clear hA0 hval0
  simp only [List.append_nil] at hW'
  refine (walk l0 _ f0 n0 e0 wf0 wn0 we0 W s0).mono fun e W' ⟨he, hg⟩ => ?_
  subst he
  exact ⟨_, rfl, _, _, _, [], _, [], hW', trodAll_mk1 (shut_bool Try.underlying4 _), (trodAll_cons_mk (Below.trod laidOut (by kernel_rfl) (of_decide_eq_true (by kernel_rfl)) k0 hg lt0) trodAll_mk0), rfl, hg.frame _, fun h => by cases h⟩

theorem over : Rows.spanFirstRow.holds Try.pinned (OpenSpec.ofChange Rows.spanFirstSpec) :=
  OpenClaim.holds_of_wide 8 Try.f8 rfl rfl rfl rfl rfl rfl rfl ⟨rfl, rfl, rfl, rfl, rfl⟩ rfl rfl rfl rfl rfl (by kernel_rfl) Try.func8 (by kernel_rfl)
    (of_decide_eq_true (by kernel_rfl)) (by unfold Func.isWrapper; first | (rw [if_pos (by decide +kernel)]; kernel_rfl) | (rw [if_neg (by decide +kernel)]; exact ⟨rfl, rfl⟩))
    (fun os started H enc _ => lifted os started H enc)

/-- The statement. -/
theorem proved : Rows.SpanFirstSaid :=
  over
#print axioms proved
end Go.Proofs.Ytmfhjgddpkecfaa.spanFirst
