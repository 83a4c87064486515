/-
  For every list of spans and every span the law SpanShares (P8.2, P8.4) returns true and leaves its arguments alone: what a span has beside a set, and what it has of it, share nothing, and are the span together (the law itself asks this of at most 60 spans). No condition.
-/
import Derived.Test.YtmfhjgddpkecfaaRows
import Derived.WalkKit
import Derived.ProofKit
import Derived.OpenShut
import Derived.ShutString
import Derived.ChangeOld
import Derived.Below
import Derived.Carry
import Derived.Test.YtmfhjgddpkecfaaSpArg
import Derived.Test.YtmfhjgddpkecfaaHeld
namespace Go.Proofs.Ytmfhjgddpkecfaa.spanShares
open Go.ChangeShapes Go.WideShapes Go.ChangeAt Go.RowKit Go.Proofs.Ytmfhjgddpkecfaa.Sp
open Go.ChangeMaps (open_string shut_string)
set_option linter.unusedVariables false

theorem own : ownKnob Try.prog.godebug = none := by kernel_rfl
theorem laidOut : laidOutB Try.prog = true := by kernel_rfl

theorem alloc_of {B : Nat} {w W : World} (_h : Below B w W) (o : Obj) : Below W.heap.size W (W.alloc o) := alloc_below W o
theorem made_of {B : Nat} {w W : World} (_h : Below B w W) (l : List Spn) : Spns (W.alloc (.cells (spsC l).toArray 38)) (.slice (some ⟨W.heap.size, 0, none⟩) l.length l.length) l := made_spns W l

/-! ### The walk: the law returns true, and writes nothing that was there. -/
set_option maxRecDepth 100000 in
set_option maxHeartbeats 16000000 in
theorem walk (l0 : List Spn) (v0 : Value) (i1 n1 : Int) (wi1 : In64 i1) (wn1 : In64 n1) (w : World) (h0 : SpnA w v0 l0) :
    Calls Try.prog 9 #[v0, .agg #[.int .i64 i1, .int .i64 n1]] w fun e w' => e = .returned (.bool true) ∧ Below w.heap.size w w' := by
  obtain ⟨h0, g0⟩ := h0
  have HL := Lib.hid h0
  obtain ⟨p0, c0, rfl⟩ := h0.nil
  clear h0 g0
  have cL := Lib.hid (fun W => large_any _ _ p0 none l0.length c0 0 0 W rfl rfl)
  obtain ⟨W0, hW0⟩ : ∃ W, w.alloc (.cells #[.int .i64 i1, .int .i64 n1] 38) = W := ⟨_, rfl⟩
  have bW : Below w.heap.size w W0 := by rw [← hW0]; exact alloc_below w _
  have zz : ∀ W, Below W0.heap.size W0 W → W.cell? ⟨w.heap.size, 0, none⟩ = some (.int .i64 i1) ∧ W.cell? ⟨w.heap.size, 1, none⟩ = some (.int .i64 n1) := fun W h => by
    have hlt : w.heap.size < W0.heap.size := by rw [← hW0, size_alloc]; exact Nat.lt_succ_self _
    have h2 := fun i => World.cell?_alloc_mark w #[.int .i64 i1, .int .i64 n1] 38 (0, 0) i
    rw [hW0] at h2
    exact ⟨(h.cell hlt).trans (h2 0), (h.cell hlt).trans (h2 1)⟩
  have ZZ := Lib.hid zz
  have BW := Lib.hid bW
  clear zz bW
  have H1 := Lib.hid (HL.out.below BW.out)
  by_cases hbig : 60 < l0.length
  · have e1 : ∀ W, Calls Try.prog 10 #[.slice p0 l0.length c0, .slice none 0 0] W fun e w' => e = .returned (.bool true) ∧ W = w' := fun W => by
      have := cL.out W
      rw [decide_eq_true hbig, Bool.true_or] at this
      exact this
    have e1 := Lib.hid e1
    clear cL hbig
    go_enter Try.func9, Try.ntmps9
    go_wp2_with fail
    refine (e1.out _).mono ?_; rintro e w' ⟨rfl, rfl⟩
    go_wp2_with fail
    refine (awake_any _).mono ?_; rintro e w9 ⟨rfl, k9⟩
    go_wp2_with fail
    go_ret
    exact ⟨rfl, stepB BW.out k9⟩
  · have e1 : ∀ W, Calls Try.prog 10 #[.slice p0 l0.length c0, .slice none 0 0] W fun e w' => e = .returned (.bool false) ∧ W = w' := fun W => by
      have := cL.out W
      rw [decide_eq_false hbig, Bool.false_or, decide_eq_false (show ¬ 60 < 0 by decide)] at this
      exact this
    have e1 := Lib.hid e1
    have hn : l0.length ≤ 60 := by omega
    have hg := minus_len [(i1, n1)] l0
    have hx := norm_len (crossL l0 [(i1, n1)])
    rw [cross_len] at hx
    have hg : (minusL [(i1, n1)] l0).length ≤ 61 := by have e : [(i1, n1)].length = 1 := rfl; omega
    have hx : (interL l0 [(i1, n1)]).length ≤ 60 := by have e : [(i1, n1)].length = 1 := rfl; rw [e, Nat.mul_one] at hx; exact Nat.le_trans hx hn
    have c1 := Lib.hid (fun W (h : Below W0.heap.size W0 W) => qGaps_any l0 i1 n1 _ W (H1.out.below h) (by omega))
    have c2 := Lib.hid (fun v W (h : Below W0.heap.size W0 W) (hv : Spns W v [(i1, n1)]) => qInter_any l0 [(i1, n1)] _ v W (H1.out.below h) hv (by omega) (show 1 ≤ 300 by decide))
    have c3 := Lib.hid (fun va vb W (ha : Spns W va (minusL [(i1, n1)] l0)) (hb : Spns W vb (interL l0 [(i1, n1)])) => qInter_any _ _ va vb W ha hb (by omega) (by omega))
    have c4 := Lib.hid (fun va vb W (ha : Spns W va (minusL [(i1, n1)] l0)) (hb : Spns W vb (interL l0 [(i1, n1)])) => qUnion_any _ _ va vb W ha hb (by omega) (by omega))
    have c5 := Lib.hid (fun v W (hv : Spns W v [(i1, n1)]) => qNormal_any [(i1, n1)] v W hv (show 1 ≤ 10000 by decide))
    have e3 : interL (minusL [(i1, n1)] l0) (interL l0 [(i1, n1)]) = [] := canon_none (inter_canon _ _) fun n h => by
      obtain ⟨h1, h2⟩ := (inter_mem _ _ n).1 h
      exact ((minus_mem _ _ n).1 h1).2 ((inter_mem _ _ n).1 h2).1
    have e4 : unionL (minusL [(i1, n1)] l0) (interL l0 [(i1, n1)]) = normL [(i1, n1)] := norm_is (union_canon _ _) fun n => by
      rw [union_mem, minus_mem, inter_mem]
      constructor
      · rintro (h | h)
        · exact h.1
        · exact h.2
      · intro h
        by_cases hm : Mem l0 n
        · exact Or.inr ⟨hm, h⟩
        · exact Or.inl ⟨h, hm⟩
    have hnn := norm_len [(i1, n1)]
    have cS := Lib.hid (fun W va vb (h : Spns W va (normL [(i1, n1)])) (h2 : Spns W vb (normL [(i1, n1)])) => rsame_any _ _ va vb W h h2 (Nat.le_trans hnn (show 1 ≤ 1000000 by decide)) (Nat.le_trans hnn (show 1 ≤ 1000000 by decide)))
    rw [decide_eq_true rfl] at cS
    unfold SpEnd at c1 c2 c3 c4 c5
    rw [e3] at c3
    rw [e4] at c4
    generalize minusL [(i1, n1)] l0 = G at *
    generalize interL l0 [(i1, n1)] = X at *
    generalize normL [(i1, n1)] = C at *
    clear cL hbig hn hg hx hnn e3 e4
    go_enter Try.func9, Try.ntmps9
    go_wp2_with fail
    refine (e1.out _).mono ?_; rintro e w' ⟨rfl, rfl⟩
    obtain ⟨z0, z1⟩ := ZZ.out W0 (Below.refl _ _)
    clear e1
    go_wp2_with fail
    refine (c1.out _ (Below.refl _ _)).mono ?_; rintro e w1 ⟨v1, rfl, o1, k1⟩
    obtain ⟨pG, qG, rfl⟩ := o1.nil
    clear z0 z1
    obtain ⟨z0, z1⟩ := ZZ.out w1 k1
    have b1 := alloc_below w1 (.cells #[.int .i64 i1, .int .i64 n1] 38)
    have m1 := Lib.hid (stepB k1 b1)
    have s1 := Lib.hid (made_spns w1 [(i1, n1)])
    have o1 := Lib.hid (o1.below b1)
    clear b1
    go_wp2_with fail
    refine (c2.out _ _ m1.out s1.out).mono ?_; rintro e w2 ⟨v2, rfl, o2, k2⟩
    obtain ⟨pX, qX, rfl⟩ := o2.nil
    have m2 := Lib.hid (stepB m1.out k2)
    have u2 := Lib.hid (o1.out.below k2)
    have o2 := Lib.hid o2
    clear s1 o1 m1 z0 z1 k1 k2
    go_wp2_with fail
    refine wp_region_held_drew (S := fun W => Below w2.heap.size w2 W) (by kernel_rfl) ((Below.refl _ _).drew) (fun hS => ?_)
    refine Go.Proofs.Held.held_take 0 (v := ?_) rfl (by kernel_rfl) (fun _ _ _ h => h) (by rfl) hS ?_ ?_
    rotate_left 1
    · intro w hSw; obtain ⟨z0, z1⟩ := ZZ.out w (stepB m2.out hSw); go_simp; first | done | with_reducible rfl
    try simp only [Act.put, List.setIfInBounds_toArray, List.set_cons_zero, List.set_cons_succ]
    refine Go.Proofs.Held.held_take 1 (v := ?_) rfl (by kernel_rfl) (fun _ _ _ h => h) (by rfl) hS ?_ ?_
    rotate_left 1
    · intro w hSw; obtain ⟨z0, z1⟩ := ZZ.out w (stepB m2.out hSw); go_simp; first | done | with_reducible rfl
    try simp only [Act.put, List.setIfInBounds_toArray, List.set_cons_zero, List.set_cons_succ]
    refine wpAnyH_ready (rs := [2]) (by kernel_rfl) (by simp) ?_
    refine Go.Proofs.Held.held_eff rfl (by rfl) (fun K hK => ?_) AllReadyH.nil
    go_simp
    refine (c3.out _ _ _ (u2.out.below hS) (o2.out.below hS)).mono ?_; rintro e w3 ⟨v3, rfl, o3, k3⟩
    obtain ⟨pI, qI, rfl⟩ := o3.nil
    rw [List.length_nil]
    clear o3
    refine hK.out _ _ (stepB hS k3) (fun hS => ?_)
    clear hK
    try simp only [Act.put, List.setIfInBounds_toArray, List.set_cons_zero, List.set_cons_succ]
    refine Go.Proofs.Held.held_take 3 (v := ?_) rfl (by kernel_rfl) (fun _ _ _ h => h) (by rfl) hS ?_ ?_
    rotate_left 1
    · intro w hSw; obtain ⟨z0, z1⟩ := ZZ.out w (stepB m2.out hSw); go_simp; first | done | with_reducible rfl
    try simp only [Act.put, List.setIfInBounds_toArray, List.set_cons_zero, List.set_cons_succ]
    refine Go.Proofs.Held.held_take 4 (v := ?_) rfl (by kernel_rfl) (fun _ _ _ h => h) (by rfl) hS ?_ ?_
    rotate_left 1
    · intro w hSw; obtain ⟨z0, z1⟩ := ZZ.out w (stepB m2.out hSw); go_simp; first | done | with_reducible rfl
    try simp only [Act.put, List.setIfInBounds_toArray, List.set_cons_zero, List.set_cons_succ]
    refine Go.Proofs.Held.held_take 5 (v := ?_) rfl (by kernel_rfl) (fun _ _ _ h => h) (by rfl) hS ?_ ?_
    rotate_left 1
    · intro w hSw; obtain ⟨z0, z1⟩ := ZZ.out w (stepB m2.out hSw); go_simp; first | done | with_reducible rfl
    try simp only [Act.put, List.setIfInBounds_toArray, List.set_cons_zero, List.set_cons_succ]
    refine Go.Proofs.Held.held_take 6 (v := ?_) rfl (by kernel_rfl) (fun _ _ _ h => h) (by rfl) hS ?_ ?_
    rotate_left 1
    · intro w hSw; obtain ⟨z0, z1⟩ := ZZ.out w (stepB m2.out hSw); go_simp; first | done | with_reducible rfl
    try simp only [Act.put, List.setIfInBounds_toArray, List.set_cons_zero, List.set_cons_succ]
    refine Go.Proofs.Held.held_take 7 (v := ?_) rfl (by kernel_rfl) (fun _ _ _ h => h) (by rfl) hS ?_ ?_
    rotate_left 1
    · intro w hSw; obtain ⟨z0, z1⟩ := ZZ.out w (stepB m2.out hSw); go_simp; first | done | with_reducible rfl
    try simp only [Act.put, List.setIfInBounds_toArray, List.set_cons_zero, List.set_cons_succ]
    refine Go.Proofs.Held.held_take 9 (v := ?_) rfl (by kernel_rfl) (fun _ _ _ h => h) (by rfl) hS ?_ ?_
    rotate_left 1
    · intro w hSw; obtain ⟨z0, z1⟩ := ZZ.out w (stepB m2.out hSw); go_simp; first | done | with_reducible rfl
    try simp only [Act.put, List.setIfInBounds_toArray, List.set_cons_zero, List.set_cons_succ]
    refine wpAnyH_ready (rs := [8, 10]) (by kernel_rfl) (by simp) ?_
    refine Go.Proofs.Held.held_eff rfl (by rfl) (fun K hK => ?_) ?_
    · go_simp
      refine (c4.out _ _ _ (u2.out.below hS) (o2.out.below hS)).mono ?_; rintro e w4 ⟨v4, rfl, o4, k4⟩
      have o4 := Lib.hid o4
      refine hK.out _ _ (stepB hS k4) (fun hS => ?_)
      clear hK
      try simp only [Act.put, List.setIfInBounds_toArray, List.set_cons_zero, List.set_cons_succ]
      refine wpAnyH_ready (rs := [10]) (by kernel_rfl) (by simp) ?_
      refine Go.Proofs.Held.held_eff rfl (by rfl) (fun K hK => ?_) AllReadyH.nil
      have s4 := Lib.hid (made_of hS [(i1, n1)])
      have b4 := alloc_of hS (.cells #[.int .i64 i1, .int .i64 n1] 38)
      go_simp
      replace o4 := Lib.hid (o4.out.below b4)
      refine hK.out _ _ (stepB hS b4) (fun hS => ?_)
      clear hK
      try simp only [Act.put, List.setIfInBounds_toArray, List.set_cons_zero, List.set_cons_succ]
      refine wpAnyH_ready (rs := [11]) (by kernel_rfl) (by simp) ?_
      refine Go.Proofs.Held.held_eff rfl (by rfl) (fun K hK => ?_) AllReadyH.nil
      go_simp
      refine (c5.out _ _ s4.out).mono ?_; rintro e w5 ⟨v5, rfl, o5, k5⟩
      clear s4
      have o5 := Lib.hid o5
      replace o4 := Lib.hid (o4.out.below k5)
      refine hK.out _ _ (stepB hS k5) (fun hS => ?_)
      clear hK
      try simp only [Act.put, List.setIfInBounds_toArray, List.set_cons_zero, List.set_cons_succ]
      refine wpAnyH_ready (rs := [12]) (by kernel_rfl) (by simp) ?_
      refine Go.Proofs.Held.held_eff rfl (by rfl) (fun K hK => ?_) AllReadyH.nil
      go_simp
      refine (cS.out _ _ _ o4.out o5.out).mono ?_; rintro e w6 ⟨rfl, k6⟩
      clear o4 o5
      refine hK.out _ _ (stepB hS k6) (fun hS => ?_)
      clear hK
      try simp only [Act.put, List.setIfInBounds_toArray, List.set_cons_zero, List.set_cons_succ]
      refine Go.Proofs.Held.held_take 13 (v := ?_) rfl (by kernel_rfl) (fun _ _ _ h => h) (by rfl) hS ?_ ?_
      rotate_left 1
      · intro w hSw; obtain ⟨z0, z1⟩ := ZZ.out w (stepB m2.out hSw); go_simp; first | done | with_reducible rfl
      try simp only [Act.put, List.setIfInBounds_toArray, List.set_cons_zero, List.set_cons_succ]
      refine Go.Proofs.Held.held_take 14 (v := ?_) rfl (by kernel_rfl) (fun _ _ _ h => h) (by rfl) hS ?_ ?_
      rotate_left 1
      · intro w hSw; obtain ⟨z0, z1⟩ := ZZ.out w (stepB m2.out hSw); go_simp; first | done | with_reducible rfl
      try simp only [Act.put, List.setIfInBounds_toArray, List.set_cons_zero, List.set_cons_succ]
      refine wpAnyH_ready (rs := [15]) (by kernel_rfl) (by simp) ?_
      refine Go.Proofs.Held.held_eff rfl (by rfl) (fun K hK => ?_) AllReadyH.nil
      go_simp
      refine (awake_any _).mono ?_; rintro e w7 ⟨rfl, k7⟩
      refine hK.out _ _ (stepB hS k7) (fun hS => ?_)
      clear hK
      try simp only [Act.put, List.setIfInBounds_toArray, List.set_cons_zero, List.set_cons_succ]
      refine Go.Proofs.Held.held_take 16 (v := ?_) rfl (by kernel_rfl) (fun _ _ _ h => h) (by rfl) hS ?_ ?_
      rotate_left 1
      · intro w hSw; obtain ⟨z0, z1⟩ := ZZ.out w (stepB m2.out hSw); go_simp; first | done | with_reducible rfl
      try simp only [Act.put, List.setIfInBounds_toArray, List.set_cons_zero, List.set_cons_succ]
      refine Go.Proofs.Held.held_take 17 (v := ?_) rfl (by kernel_rfl) (fun _ _ _ h => h) (by rfl) hS ?_ ?_
      rotate_left 1
      · intro w hSw; obtain ⟨z0, z1⟩ := ZZ.out w (stepB m2.out hSw); go_simp; first | done | with_reducible rfl
      try simp only [Act.put, List.setIfInBounds_toArray, List.set_cons_zero, List.set_cons_succ]
      refine wpAnyH_done (by kernel_rfl) ?_ _
      go_wp2_with fail
      go_ret
      exact ⟨rfl, stepB BW.out (stepB m2.out hS)⟩
    refine Go.Proofs.Held.held_eff rfl (by rfl) (fun K hK => ?_) AllReadyH.nil
    · have s4 := Lib.hid (made_of hS [(i1, n1)])
      have b4 := alloc_of hS (.cells #[.int .i64 i1, .int .i64 n1] 38)
      go_simp
      refine hK.out _ _ (stepB hS b4) (fun hS => ?_)
      clear hK
      try simp only [Act.put, List.setIfInBounds_toArray, List.set_cons_zero, List.set_cons_succ]
      refine wpAnyH_ready (rs := [8]) (by kernel_rfl) (by simp) ?_
      refine Go.Proofs.Held.held_eff rfl (by rfl) (fun K hK => ?_) AllReadyH.nil
      go_simp
      refine (c4.out _ _ _ (u2.out.below hS) (o2.out.below hS)).mono ?_; rintro e w4 ⟨v4, rfl, o4, k4⟩
      have o4 := Lib.hid o4
      replace s4 := Lib.hid (s4.out.below k4)
      refine hK.out _ _ (stepB hS k4) (fun hS => ?_)
      clear hK
      try simp only [Act.put, List.setIfInBounds_toArray, List.set_cons_zero, List.set_cons_succ]
      refine wpAnyH_ready (rs := [11]) (by kernel_rfl) (by simp) ?_
      refine Go.Proofs.Held.held_eff rfl (by rfl) (fun K hK => ?_) AllReadyH.nil
      go_simp
      refine (c5.out _ _ s4.out).mono ?_; rintro e w5 ⟨v5, rfl, o5, k5⟩
      clear s4
      have o5 := Lib.hid o5
      replace o4 := Lib.hid (o4.out.below k5)
      refine hK.out _ _ (stepB hS k5) (fun hS => ?_)
      clear hK
      try simp only [Act.put, List.setIfInBounds_toArray, List.set_cons_zero, List.set_cons_succ]
      refine wpAnyH_ready (rs := [12]) (by kernel_rfl) (by simp) ?_
      refine Go.Proofs.Held.held_eff rfl (by rfl) (fun K hK => ?_) AllReadyH.nil
      go_simp
      refine (cS.out _ _ _ o4.out o5.out).mono ?_; rintro e w6 ⟨rfl, k6⟩
      clear o4 o5
      refine hK.out _ _ (stepB hS k6) (fun hS => ?_)
      clear hK
      try simp only [Act.put, List.setIfInBounds_toArray, List.set_cons_zero, List.set_cons_succ]
      refine Go.Proofs.Held.held_take 13 (v := ?_) rfl (by kernel_rfl) (fun _ _ _ h => h) (by rfl) hS ?_ ?_
      rotate_left 1
      · intro w hSw; obtain ⟨z0, z1⟩ := ZZ.out w (stepB m2.out hSw); go_simp; first | done | with_reducible rfl
      try simp only [Act.put, List.setIfInBounds_toArray, List.set_cons_zero, List.set_cons_succ]
      refine Go.Proofs.Held.held_take 14 (v := ?_) rfl (by kernel_rfl) (fun _ _ _ h => h) (by rfl) hS ?_ ?_
      rotate_left 1
      · intro w hSw; obtain ⟨z0, z1⟩ := ZZ.out w (stepB m2.out hSw); go_simp; first | done | with_reducible rfl
      try simp only [Act.put, List.setIfInBounds_toArray, List.set_cons_zero, List.set_cons_succ]
      refine wpAnyH_ready (rs := [15]) (by kernel_rfl) (by simp) ?_
      refine Go.Proofs.Held.held_eff rfl (by rfl) (fun K hK => ?_) AllReadyH.nil
      go_simp
      refine (awake_any _).mono ?_; rintro e w7 ⟨rfl, k7⟩
      refine hK.out _ _ (stepB hS k7) (fun hS => ?_)
      clear hK
      try simp only [Act.put, List.setIfInBounds_toArray, List.set_cons_zero, List.set_cons_succ]
      refine Go.Proofs.Held.held_take 16 (v := ?_) rfl (by kernel_rfl) (fun _ _ _ h => h) (by rfl) hS ?_ ?_
      rotate_left 1
      · intro w hSw; obtain ⟨z0, z1⟩ := ZZ.out w (stepB m2.out hSw); go_simp; first | done | with_reducible rfl
      try simp only [Act.put, List.setIfInBounds_toArray, List.set_cons_zero, List.set_cons_succ]
      refine Go.Proofs.Held.held_take 17 (v := ?_) rfl (by kernel_rfl) (fun _ _ _ h => h) (by rfl) hS ?_ ?_
      rotate_left 1
      · intro w hSw; obtain ⟨z0, z1⟩ := ZZ.out w (stepB m2.out hSw); go_simp; first | done | with_reducible rfl
      try simp only [Act.put, List.setIfInBounds_toArray, List.set_cons_zero, List.set_cons_succ]
      refine wpAnyH_done (by kernel_rfl) ?_ _
      go_wp2_with fail
      go_ret
      exact ⟨rfl, stepB BW.out (stepB m2.out hS)⟩

/-! ### The row's step -/
set_option maxRecDepth 100000 in
theorem lifted (os : Os) (started : os.Started) (H : Type) (enc : TypeId × Value → H) :
    ReturnsInHanded {} Try.checked os 9 .any (Rows.spanSharesSpec.pre6 enc Try.prog Try.f9 Rows.spanSharesRow.domain false) (Rows.spanSharesSpec.post enc Try.prog Try.f9 false true false false) := by
  refine returnsInHanded_of_change (C := Try.checked) own started (by kernel_rfl) Try.func9
    (ChangeSpec.witness6 (enc := enc) (C := Try.checked) false ⟨#[], #[.slice none 0 0, .agg #[.int .i64 0, .int .i64 0]], []⟩ 8 (by kernel_rfl) (by kernel_rfl) (by kernel_rfl) (by kernel_rfl)) ?_
  intro W base args ds gs before hval0 hW hcnd _
  have hval : ∀ (j : Nat) t v, Try.f9.params[j]? = some t → args[j]? = some v → Value.okWide Try.prog W .any base t v := hval0
  have hW' := hW
  obtain ⟨p, q, hA0, hV, rfl, hfz, hnd⟩ := hW
  have hA : DataW.TrodAll enc Try.prog W 0 (fun _ => true) true Try.f9.params.toList args.toList ds p := hA0
  rw [Try.params9] at hA hval
  obtain ⟨v0, vs0, d0, ds0, p0, q0, hargs, rfl, rfl, h0, r0⟩ := trodAll_cons hA
  obtain ⟨v1, vs1, d1, ds1, p1, q1, rfl, rfl, rfl, h1, r1⟩ := trodAll_cons r0
  obtain ⟨rfl, rfl, rfl⟩ := trodAll_nil r1
  obtain rfl : args = #[v0, v1] := by cases args; simp_all
  obtain ⟨rfl, rfl⟩ := trodVars_none hV
  obtain ⟨a0, len0, cap0, rfl⟩ := okWide_slice Try.underlying22 (hval 0 22 v0 rfl rfl)
  have k0 := h0
  have lt0 : ∀ x ∈ p0, x.block < W.heap.size := by obtain ⟨m, hm⟩ := k0; exact DataW.trod_lt m _ _ _ hm
  obtain ⟨l0, s0⟩ := spns_arg h0
  have k1 := h1
  have lt1 : ∀ x ∈ p1, x.block < W.heap.size := by obtain ⟨m, hm⟩ := k1; exact DataW.trod_lt m _ _ _ hm
  obtain ⟨i1, n1, rfl, wi1, wn1⟩ := span_arg (hval 1 38 v1 rfl rfl) h1
  clear hA0 hval0
  simp only [List.append_nil] at hW'
  refine (walk l0 _ i1 n1 wi1 wn1 W s0).mono fun e W' ⟨he, hg⟩ => ?_
  subst he
  exact ⟨_, rfl, _, _, _, [], _, [], hW', trodAll_mk1 (shut_bool Try.underlying4 _), (trodAll_cons_mk (Below.trod laidOut (by kernel_rfl) (of_decide_eq_true (by kernel_rfl)) k0 hg lt0) (trodAll_cons_mk (Below.trod laidOut (by kernel_rfl) (of_decide_eq_true (by kernel_rfl)) k1 hg lt1) trodAll_mk0)), rfl, hg.frame _, fun h => by cases h⟩

theorem over : Rows.spanSharesRow.holds Try.pinned (OpenSpec.ofChange Rows.spanSharesSpec) :=
  OpenClaim.holds_of_wide 9 Try.f9 rfl rfl rfl rfl rfl rfl rfl ⟨rfl, rfl, rfl, rfl, rfl⟩ rfl rfl rfl rfl rfl (by kernel_rfl) Try.func9 (by kernel_rfl)
    (of_decide_eq_true (by kernel_rfl)) (by unfold Func.isWrapper; first | (rw [if_pos (by decide +kernel)]; kernel_rfl) | (rw [if_neg (by decide +kernel)]; exact ⟨rfl, rfl⟩))
    (fun os started H enc _ => lifted os started H enc)

/-- The statement. -/
theorem proved : Rows.SpanSharesSaid :=
  over
#print axioms proved
end Go.Proofs.Ytmfhjgddpkecfaa.spanShares
