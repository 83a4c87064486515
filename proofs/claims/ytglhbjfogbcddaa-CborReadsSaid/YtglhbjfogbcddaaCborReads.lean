/-
  For every string and every list of reads the law CborReads (P5.2) returns true and leaves its arguments alone: whatever is read, a reader returns what the reference returns (the law itself asks this of at most 2000 bytes and 60 reads). No condition.
-/
import Derived.Test.YtglhbjfogbcddaaRows
import Derived.WalkKit
import Derived.ProofKit
import Derived.OpenShut
import Derived.ShutString
import Derived.ChangeOld
import Derived.Below
import Derived.Test.YtglhbjfogbcddaaCbAwake
import Derived.Test.YtglhbjfogbcddaaCbActs
import Derived.Deep.RegionHeld3
import Derived.Deep.CutRange
import Derived.Deep.DeepCutAuto
namespace Go.Proofs.Ytglhbjfogbcddaa.cborReads
open Go.ChangeShapes Go.WideShapes Go.ChangeAt Go.RowKit Go.Proofs.Ytglhbjfogbcddaa.Cb
open Go.ChangeMaps (open_string shut_string)
set_option linter.unusedVariables false

theorem own : ownKnob Try.prog.godebug = none := by kernel_rfl
theorem laidOut : laidOutB Try.prog = true := by kernel_rfl



/-! ### The walk: the law returns true, and writes nothing that was there. -/
set_option maxRecDepth 100000 in
set_option maxHeartbeats 16000000 in
theorem walk (b0 : ByteArray) (w0 : b0.size ≤ maxLen) (l1 : List (Int × Int × Int)) (v1 : Value) (w : World) (h1 : Acts w v1 l1) :
    Calls Try.prog 4 #[.string b0, v1] w fun e w' => e = .returned (.bool true) ∧ Below w.heap.size w w' := by
  obtain ⟨p, c, rfl, hcell⟩ := h1
  by_cases hbig : 2000 < b0.size
  · have hbig' : (2000 : Int) < (b0.size : Int) := by omega
    clear hbig hcell w0
    go_enter Try.func4, Try.ntmps4
    go_wp2_with fail
    refine (awake_any _).mono ?_; rintro e w1 ⟨rfl, hb⟩
    go_wp2_with fail
    go_ret
    exact ⟨rfl, hb⟩
  by_cases hbig1 : 60 < l1.length
  · have hbig' : ¬ (2000 : Int) < (b0.size : Int) := by omega
    have hbig1' : (60 : Int) < (l1.length : Int) := by omega
    clear hbig hbig1 hcell w0
    go_enter Try.func4, Try.ntmps4
    go_wp2_with fail
    refine (awake_any _).mono ?_; rintro e w1 ⟨rfl, hb⟩
    go_wp2_with fail
    go_ret
    exact ⟨rfl, hb⟩
  have hl0 : ¬ (2000 : Int) < (b0.size : Int) := by omega
  have hl1 : ¬ (60 : Int) < (l1.length : Int) := by omega
  have hs : b0.size ≤ 100000 := by omega
  have hn1 : l1.length ≤ 60 := by omega
  have HC := Lib.hid hcell
  clear hcell hbig hbig1 w0
  go_enter Try.func4, Try.ntmps4
  go_wp2_with fail
  refine (qNew_any _ _).mono ?_; rintro e w2 ⟨b, rfl, r2, hb2, k2⟩
  go_wp2_with fail
  refine (rNew_any _ _).mono ?_; rintro e w3 ⟨rfl, q3, k3⟩
  have hlt0 := r2.lt
  have m3 : Below w.heap.size w w3 := stepB k2 k3
  have r3 := r2.below k3
  obtain ⟨d, hd⟩ : ∃ d, w2.heap.size = d := ⟨_, rfl⟩
  rw [hd] at q3 hlt0 ⊢
  have hbd : b ≠ d := by omega
  have hd0 : w.heap.size ≤ d := by have := k2.size; omega
  clear r2 k2 k3 hd hlt0
  go_wp2_with fail
  go_loopw [7] (fun i wr => ∃ (k pos : Nat) (x : Int), i = .int .i64 k ∧ k ≤ l1.length ∧ pos ≤ b0.size ∧ PR wr b b0 pos x ∧ Rdr wr d 59 b0 pos x ∧ Below w.heap.size w wr) (fun i _ => l1.length - (intOf i).toNat)
  case atStart => exact ⟨0, 0, 0, rfl, Nat.zero_le _, Nat.zero_le _, r3, q3, m3⟩
  case round =>
    obtain ⟨k, pos, x, rfl, hk, hpos, hr, hq, hbw⟩ := hrel
    by_cases hlt : k < l1.length
    · obtain ⟨bb, off, rfl, hb, hcs⟩ := HC.out (by omega)
      obtain ⟨A0, A1, A2, -, bA0, bA1, bA2, g0, g1, g2⟩ := hcs k hlt
      have g0 := (hbw.cell hb).trans g0
      have g1 := (hbw.cell hb).trans g1
      have g2 := (hbw.cell hb).trans g2
      have hb0 : w.heap.size ≤ b := hb2
      clear hcs
      have K0 := (Below.refl wr.heap.size wr).alloc (Nat.le_refl _) (.cells #[.int .i64 A0, .int .i64 A1, .int .i64 A2] 33)
      have m0 := hbw.alloc hbw.size (.cells #[.int .i64 A0, .int .i64 A1, .int .i64 A2] 33)
      have hr0 := hr.below K0
      have hq0 : Rdr _ d 59 b0 pos x := (K0.block d hq.lt).trans hq
      have hbl := hr.lt
      have hdl := hq.lt
      clear K0
      go_upto_if 37 with fail
      have cc0 : (wr.alloc (.cells #[.int .i64 A0, .int .i64 A1, .int .i64 A2] 33)).cell? ⟨wr.heap.size, 0, none⟩ = some (.int .i64 A0) := (World.cell?_alloc_mark wr #[.int .i64 A0, .int .i64 A1, .int .i64 A2] 33 (0, 0) 0).trans rfl
      have cc1 : (wr.alloc (.cells #[.int .i64 A0, .int .i64 A1, .int .i64 A2] 33)).cell? ⟨wr.heap.size, 1, none⟩ = some (.int .i64 A1) := (World.cell?_alloc_mark wr #[.int .i64 A0, .int .i64 A1, .int .i64 A2] 33 (0, 0) 1).trans rfl
      have cc2 : (wr.alloc (.cells #[.int .i64 A0, .int .i64 A1, .int .i64 A2] 33)).cell? ⟨wr.heap.size, 2, none⟩ = some (.int .i64 A2) := (World.cell?_alloc_mark wr #[.int .i64 A0, .int .i64 A1, .int .i64 A2] 33 (0, 0) 2).trans rfl
      have hsz : wr.heap.size < (wr.alloc (.cells #[.int .i64 A0, .int .i64 A1, .int .i64 A2] 33)).heap.size := by show _ < (wr.heap.push _).size; rw [Array.size_push]; exact Nat.lt_succ_self _
      clear g0 g1 g2
      obtain ⟨W0, hW0⟩ : ∃ W, wr.alloc (.cells #[.int .i64 A0, .int .i64 A1, .int .i64 A2] 33) = W := ⟨_, rfl⟩
      rw [hW0] at cc0 cc1 cc2 hsz m0 hr0 hq0 ⊢
      obtain ⟨B, hB⟩ : ∃ B, wr.heap.size = B := ⟨_, rfl⟩
      rw [hB] at cc0 cc1 cc2 hsz hbl hdl ⊢
      have hrD : PR W0.drew b b0 pos x := hr0.keep rfl
      have KQ0 := Lib.hid (fun (W4 : World) (g : W0.grownBy W4 (some b)) => ((g.block d hq0.lt (fun e => hbd (Option.some.inj e).symm)).trans hq0 : Rdr W4 d 59 b0 pos x))
      have KQ := Lib.hid (fun (W4 : World) (g : W0.drew.grownBy W4 (some b)) => ((g.block d hq0.lt (fun e => hbd (Option.some.inj e).symm)).trans hq0 : Rdr W4 d 59 b0 pos x))
      have K1 := Lib.hid (fun (W4 : World) (g : W0.drew.grownBy W4 (some b)) => (World.cell?_of_block (w := W0.drew) (g.block B hsz (fun e => by have := Option.some.inj e; omega))).trans cc1)
      have K2 := Lib.hid (fun (W4 : World) (g : W0.drew.grownBy W4 (some b)) => (World.cell?_of_block (w := W0.drew) (g.block B hsz (fun e => by have := Option.some.inj e; omega))).trans cc2)
      have K3 := Lib.hid (fun (W4 W5 : World) (j : W4.cell? ⟨B, 1, none⟩ = some (.int .i64 A1)) (g : W4.grownBy W5 (some d)) => (World.cell?_of_block (w := W4) (g.block B (block_lt_of_cell j) (fun e => by have := Option.some.inj e; omega))).trans j)
      have K4 := Lib.hid (fun (W4 W5 : World) (j : W4.cell? ⟨B, 2, none⟩ = some (.int .i64 A2)) (g : W4.grownBy W5 (some d)) => (World.cell?_of_block (w := W4) (g.block B (block_lt_of_cell j) (fun e => by have := Option.some.inj e; omega))).trans j)
      clear hW0 hB hbw hr hq
      go_cut [9] (fun s9 wx => ∃ (p : Nat) (x' : Int), s9 = .bool true ∧ p ≤ b0.size ∧ PR wx b b0 p x' ∧ Rdr wx d 59 b0 p x' ∧ Below w.heap.size w wx)
      case first =>
        clear HC hlt hk
        by_cases a0 : A0 = 0
        · subst a0
          clear bA0
          have cQ := Lib.hid (fun W (h : PR W b b0 pos x) => qInt_any b pos b0 x A1 A2 W h hs hpos)
          have cS := Lib.hid (fun W (h : Rdr W d 59 b0 pos x) => rInt_all d pos b0 x A1 A2 _ W h hs hpos)
          have hn := intR_le x A1 A2 (b0.data.toList.drop pos)
          obtain ⟨v, n, x', hrd⟩ : ∃ v n x', intR x A1 A2 (b0.data.toList.drop pos) = (v, n, x') := ⟨_, _, _, rfl⟩
          rw [hrd] at cQ cS hn
          have hpn : pos + n ≤ b0.size := by
            rw [List.length_drop, Array.length_toList] at hn
            have h2 : b0.data.size = b0.size := rfl
            simp only at hn
            omega
          clear hrd hn
          obtain ⟨q, hqq⟩ : ∃ q, pos + n = q := ⟨_, rfl⟩
          simp only [hqq] at cQ cS hpn
          clear hqq
          have hv : (v == v) = true := beq_self_eq_true _
          go_wp2_with fail
          go_region_held3 (fun W => W.cell? ⟨B, 1, none⟩ = some (.int .i64 A1) ∧ W.cell? ⟨B, 2, none⟩ = some (.int .i64 A2))
            (first | exact ⟨cc1, cc2⟩ | exact ⟨j1, j2⟩ | exact ⟨i1, i2⟩)
            (first | (go_at_call 22; refine (cQ.out _ hrD).mono ?_; rintro e w4 ⟨rfl, r4, g4⟩; have j1 := K1.out w4 g4; have j2 := K2.out w4 g4; have hq4 := KQ.out w4 g4; have m4 := stepR m0.drew g4 hb0) | (go_at_call 23; refine (cS.out _ hq4).mono ?_; rintro e w5 ⟨rfl, q5, g5⟩; have m5 := stepR m4 g5 hd0; have r5 := r4.grown g5 hbd; have i1 := K3.out w4 w5 j1 g5; have i2 := K4.out w4 w5 j2 g5))
          all_goals (
            go_wp2_with fail
            go_meet
            exact ⟨_, _, rfl, hpn, r5, q5, m5⟩)
        have b0' : (A0 == 0) = false := beq_false_of_ne a0
        by_cases a1 : A0 = 1
        · subst a1
          clear bA0
          have cQ := Lib.hid (fun W (h : PR W b b0 pos x) => qText_any b pos b0 x A2 W h hs hpos bA2.2)
          have cS := Lib.hid (fun W (h : Rdr W d 59 b0 pos x) => rText_all d pos b0 x A2 _ W h hs hpos bA2.2)
          have hn := textR_le x A2 (b0.data.toList.drop pos)
          obtain ⟨v, n, x', hrd⟩ : ∃ v n x', textR x A2 (b0.data.toList.drop pos) = (v, n, x') := ⟨_, _, _, rfl⟩
          rw [hrd] at cQ cS hn
          have hpn : pos + n ≤ b0.size := by
            rw [List.length_drop, Array.length_toList] at hn
            have h2 : b0.data.size = b0.size := rfl
            simp only at hn
            omega
          clear hrd hn
          obtain ⟨q, hqq⟩ : ∃ q, pos + n = q := ⟨_, rfl⟩
          simp only [hqq] at cQ cS hpn
          clear hqq
          obtain ⟨V, hV⟩ : ∃ V, toS v = V := ⟨_, rfl⟩
          simp only [hV] at cQ cS
          have hv : (V.toList == V.toList) = true := beq_self_eq_true _
          clear hV
          go_wp2_with fail
          go_region_held3 (fun W => W.cell? ⟨B, 1, none⟩ = some (.int .i64 A1) ∧ W.cell? ⟨B, 2, none⟩ = some (.int .i64 A2))
            (first | exact ⟨cc1, cc2⟩ | exact ⟨j1, j2⟩ | exact ⟨i1, i2⟩)
            (first | (go_at_call 24; refine (cQ.out _ hrD).mono ?_; rintro e w4 ⟨rfl, r4, g4⟩; have j1 := K1.out w4 g4; have j2 := K2.out w4 g4; have hq4 := KQ.out w4 g4; have m4 := stepR m0.drew g4 hb0) | (go_at_call 25; refine (cS.out _ hq4).mono ?_; rintro e w5 ⟨rfl, q5, g5⟩; have m5 := stepR m4 g5 hd0; have r5 := r4.grown g5 hbd; have i1 := K3.out w4 w5 j1 g5; have i2 := K4.out w4 w5 j2 g5))
          all_goals (
            go_wp2_with fail
            go_meet
            exact ⟨_, _, rfl, hpn, r5, q5, m5⟩)
        have b1' : (A0 == 1) = false := beq_false_of_ne a1
        by_cases a2 : A0 = 2
        · subst a2
          clear bA0
          have cQ := Lib.hid (fun W (h : PR W b b0 pos x) => qBool_any b pos b0 x W h hs hpos)
          have cS := Lib.hid (fun W (h : Rdr W d 59 b0 pos x) => rBool_all d pos b0 x _ W h hs hpos)
          have hn := boolR_le x (b0.data.toList.drop pos)
          obtain ⟨v, n, x', hrd⟩ : ∃ v n x', boolR x (b0.data.toList.drop pos) = (v, n, x') := ⟨_, _, _, rfl⟩
          rw [hrd] at cQ cS hn
          have hpn : pos + n ≤ b0.size := by
            rw [List.length_drop, Array.length_toList] at hn
            have h2 : b0.data.size = b0.size := rfl
            simp only at hn
            omega
          clear hrd hn
          obtain ⟨q, hqq⟩ : ∃ q, pos + n = q := ⟨_, rfl⟩
          simp only [hqq] at cQ cS hpn
          clear hqq
          have hv : (v == v) = true := beq_self_eq_true _
          go_wp2_with fail
          refine (cQ.out _ hr0).mono ?_; rintro e w4 ⟨rfl, r4, g4⟩
          have hq4 := KQ0.out w4 g4
          have m4 := stepR m0 g4 hb0
          go_wp2_with fail
          refine (cS.out _ hq4).mono ?_; rintro e w5 ⟨rfl, q5, g5⟩
          have m5 := stepR m4 g5 hd0
          have r5 := r4.grown g5 hbd
          go_wp2_with fail
          go_meet
          exact ⟨_, _, rfl, hpn, r5, q5, m5⟩
        have b2' : (A0 == 2) = false := beq_false_of_ne a2
        by_cases a3 : A0 = 3
        · subst a3
          clear bA0
          have cQ := Lib.hid (fun W (h : PR W b b0 pos x) => qList_any b pos b0 x A2 W h hs hpos bA2.2)
          have cS := Lib.hid (fun W (h : Rdr W d 59 b0 pos x) => rList_all d pos b0 x A2 _ W h hs hpos bA2.2)
          have hn := listR_le x A2 (b0.data.toList.drop pos)
          obtain ⟨v, n, x', hrd⟩ : ∃ v n x', listR x A2 (b0.data.toList.drop pos) = (v, n, x') := ⟨_, _, _, rfl⟩
          rw [hrd] at cQ cS hn
          have hpn : pos + n ≤ b0.size := by
            rw [List.length_drop, Array.length_toList] at hn
            have h2 : b0.data.size = b0.size := rfl
            simp only at hn
            omega
          clear hrd hn
          obtain ⟨q, hqq⟩ : ∃ q, pos + n = q := ⟨_, rfl⟩
          simp only [hqq] at cQ cS hpn
          clear hqq
          have hv : (v == v) = true := beq_self_eq_true _
          go_wp2_with fail
          go_region_held3 (fun W => W.cell? ⟨B, 1, none⟩ = some (.int .i64 A1) ∧ W.cell? ⟨B, 2, none⟩ = some (.int .i64 A2))
            (first | exact ⟨cc1, cc2⟩ | exact ⟨j1, j2⟩ | exact ⟨i1, i2⟩)
            (first | (go_at_call 28; refine (cQ.out _ hrD).mono ?_; rintro e w4 ⟨rfl, r4, g4⟩; have j1 := K1.out w4 g4; have j2 := K2.out w4 g4; have hq4 := KQ.out w4 g4; have m4 := stepR m0.drew g4 hb0) | (go_at_call 29; refine (cS.out _ hq4).mono ?_; rintro e w5 ⟨rfl, q5, g5⟩; have m5 := stepR m4 g5 hd0; have r5 := r4.grown g5 hbd; have i1 := K3.out w4 w5 j1 g5; have i2 := K4.out w4 w5 j2 g5))
          all_goals (
            go_wp2_with fail
            go_meet
            exact ⟨_, _, rfl, hpn, r5, q5, m5⟩)
        have b3' : (A0 == 3) = false := beq_false_of_ne a3
        clear KQ KQ0 K1 K2 K3 K4 cc1 cc2 hrD
        have r5 := hr0
        have q5 := hq0
        have m5 := m0
        have hpn := hpos
        go_wp2_with fail
        go_meet
        exact ⟨_, _, rfl, hpn, r5, q5, m5⟩
      case rest =>
        obtain ⟨p, x', rfl, hpn, r5, q5, m5⟩ := hcut
        clear KQ KQ0 K1 K2 K3 K4 cc0 cc1 cc2 hrD hr0 hq0 m0
        have cbL := Lib.hid (fun W (h : PR W b b0 p x') => qLeft_any b _ b0 _ W h hs hpn)
        have rfL := Lib.hid (fun W (h : Rdr W d 59 b0 p x') => rLeft_any d _ b0 _ _ W h hs hpn)
        have cbE := Lib.hid (fun W (h : PR W b b0 p x') => qErr_any b _ b0 _ W h)
        have rfE := Lib.hid (fun W (h : Rdr W d 59 b0 p x') => rErr_any d _ b0 _ _ W h)
        have cbN := Lib.hid (fun W (h : PR W b b0 p x') => qEnd_any b _ b0 _ W h (fun _ => ⟨hs, hpn⟩))
        have rfN := Lib.hid (fun W (h : Rdr W d 59 b0 p x') => rEnd_any d _ b0 _ _ W h)
        obtain ⟨L, hL⟩ : ∃ L : Int, (b0.size : Int) - ((p : Nat) : Int) = L := ⟨_, rfl⟩
        obtain ⟨E, hE⟩ : ∃ E : Int, endV x' p b0.size = E := ⟨_, rfl⟩
        rw [hL] at cbL rfL
        rw [hE] at cbN rfN
        have hL1 : (L != L) = false := by simp
        have hE1 : (E != E) = false := by simp
        have hX1 : (x' != x') = false := by simp
        clear hL hE
        go_wp2_with fail
        refine (cbL.out _ r5).mono ?_; rintro e w6 ⟨rfl, k6⟩
        have m6 := stepB m5 k6
        have r6 := r5.below k6
        have q6 : Rdr w6 d 59 b0 p x' := (k6.block d q5.lt).trans q5
        go_wp2_with fail
        refine (rfL.out _ q6).mono ?_; rintro e w7 ⟨rfl, k7⟩
        have m7 := stepB m6 k7
        have r7 := r6.below k7
        have q7 : Rdr w7 d 59 b0 p x' := (k7.block d q6.lt).trans q6
        go_wp2_with fail
        refine (cbE.out _ r7).mono ?_; rintro e w8 ⟨rfl, k8⟩
        have m8 := stepB m7 k8
        have r8 := r7.below k8
        have q8 : Rdr w8 d 59 b0 p x' := (k8.block d q7.lt).trans q7
        go_wp2_with fail
        refine (rfE.out _ q8).mono ?_; rintro e w9 ⟨rfl, rfl⟩
        have m9 := m8
        have r9 := r8
        have q9 := q8
        go_wp2_with fail
        refine (cbN.out _ r9).mono ?_; rintro e w10 ⟨rfl, k10⟩
        have m10 := stepB m9 k10
        have r10 := r9.below k10
        have q10 : Rdr w10 d 59 b0 p x' := (k10.block d q9.lt).trans q9
        go_wp2_with fail
        refine (rfN.out _ q10).mono ?_; rintro e w11 ⟨rfl, k11⟩
        have m11 := stepB m10 k11
        have r11 := r10.below k11
        have q11 : Rdr w11 d 59 b0 p x' := (k11.block d q10.lt).trans q10
        go_wp2_with fail
        exact ⟨⟨k + 1, _, _, rfl, hlt, hpn, r11, q11, m11⟩, by simp [intOf]; omega⟩
    · obtain rfl : k = l1.length := by omega
      have hlt' : ¬ (l1.length : Int) < (l1.length : Int) := by omega
      have qE := Lib.hid (fun W (h : PR W b b0 pos x) => qEnd_any b pos b0 x W h (fun _ => ⟨hs, hpos⟩))
      have qL := Lib.hid (fun W (h : PR W b b0 pos x) => qLeft_any b pos b0 x W h hs hpos)
      have sE := Lib.hid (fun W h => rEnd_any d pos b0 x 59 W h)
      have sL := Lib.hid (fun W h => rLeft_any d pos b0 x 59 W h hs hpos)
      obtain ⟨L, hL⟩ : ∃ L : Int, (b0.size : Int) - (pos : Int) = L := ⟨_, rfl⟩
      obtain ⟨E, hE⟩ : ∃ E : Int, endV x pos b0.size = E := ⟨_, rfl⟩
      rw [hL] at qL sL
      rw [hE] at qE sE
      have hLL : (L == L) = true := beq_self_eq_true _
      have hEE : (E == E) = true := beq_self_eq_true _
      clear hL hE hpos
      go_wp2_with fail
      refine (qL.out _ hr).mono ?_; rintro e w4 ⟨rfl, k4⟩
      have m4 := stepB hbw k4
      have hr4 := hr.below k4
      have hq4 : Rdr w4 d 59 b0 pos x := (k4.block d hq.lt).trans hq
      go_wp2_with fail
      refine (sL.out _ hq4).mono ?_; rintro e w5 ⟨rfl, k5⟩
      have m5 := stepB m4 k5
      have hr5 := hr4.below k5
      have hq5 : Rdr w5 d 59 b0 pos x := (k5.block d hq4.lt).trans hq4
      go_wp2_with fail
      refine (qE.out _ hr5).mono ?_; rintro e w6 ⟨rfl, k6⟩
      have m6 := stepB m5 k6
      have hq6 : Rdr w6 d 59 b0 pos x := (k6.block d hq5.lt).trans hq5
      go_wp2_with fail
      refine (sE.out _ hq6).mono ?_; rintro e w7 ⟨rfl, k7⟩
      have m7 := stepB m6 k7
      go_wp2_with fail
      refine (awake_any _).mono ?_; rintro e w8 ⟨rfl, k8⟩
      go_wp2_with fail
      go_ret
      exact ⟨rfl, stepB m7 k8⟩

/-! ### The row's step -/
set_option maxRecDepth 100000 in
theorem lifted (os : Os) (started : os.Started) (H : Type) (enc : TypeId × Value → H) :
    ReturnsInHanded {} Try.checked os 4 .any (Rows.cborReadsSpec.pre6 enc Try.prog Try.f4 Rows.cborReadsRow.domain false) (Rows.cborReadsSpec.post enc Try.prog Try.f4 false true false false) := by
  refine returnsInHanded_of_change (C := Try.checked) own started (by kernel_rfl) Try.func4
    (ChangeSpec.witness6 (enc := enc) (C := Try.checked) false ⟨#[], #[.string ByteArray.empty, .slice none 0 0], []⟩ 8 (by kernel_rfl) (by kernel_rfl) (by kernel_rfl) (by kernel_rfl)) ?_
  intro W base args ds gs before hval0 hW hcnd _
  have hval : ∀ (j : Nat) t v, Try.f4.params[j]? = some t → args[j]? = some v → Value.okWide Try.prog W .any base t v := hval0
  have hW' := hW
  obtain ⟨p, q, hA0, hV, rfl, hfz, hnd⟩ := hW
  have hA : DataW.TrodAll enc Try.prog W 0 (fun _ => true) true Try.f4.params.toList args.toList ds p := hA0
  rw [Try.params4] at hA hval
  obtain ⟨v0, vs0, d0, ds0, p0, q0, hargs, rfl, rfl, h0, r0⟩ := trodAll_cons hA
  obtain ⟨v1, vs1, d1, ds1, p1, q1, rfl, rfl, rfl, h1, r1⟩ := trodAll_cons r0
  obtain ⟨rfl, rfl, rfl⟩ := trodAll_nil r1
  obtain rfl : args = #[v0, v1] := by cases args; simp_all
  obtain ⟨rfl, rfl⟩ := trodVars_none hV
  obtain ⟨b0, rfl, rfl, rfl, w0⟩ := open_string Try.underlying9 (hval 0 9 v0 rfl rfl) h0
  obtain ⟨a1, len1, cap1, rfl⟩ := okWide_slice Try.underlying27 (hval 1 27 v1 rfl rfl)
  have k1 := h1
  have lt1 : ∀ x ∈ p1, x.block < W.heap.size := by obtain ⟨m, hm⟩ := k1; exact DataW.trod_lt m _ _ _ hm
  obtain ⟨l1, s1⟩ := acts_arg h1
  clear hA0 hval0
  simp only [List.append_nil] at hW'
  refine (walk b0 w0 l1 _ W s1).mono fun e W' ⟨he, hg⟩ => ?_
  subst he
  exact ⟨_, rfl, _, _, _, [], _, [], hW', trodAll_mk1 (shut_bool Try.underlying4 _), (trodAll_cons_mk (shut_string Try.underlying9 w0) (trodAll_cons_mk (Below.trod laidOut (by kernel_rfl) (of_decide_eq_true (by kernel_rfl)) k1 hg lt1) trodAll_mk0)), rfl, hg.frame _, fun h => by cases h⟩

theorem over : Rows.cborReadsRow.holds Try.pinned (OpenSpec.ofChange Rows.cborReadsSpec) :=
  OpenClaim.holds_of_wide 4 Try.f4 rfl rfl rfl rfl rfl rfl rfl ⟨rfl, rfl, rfl, rfl, rfl⟩ rfl rfl rfl rfl rfl (by kernel_rfl) Try.func4 (by kernel_rfl)
    (of_decide_eq_true (by kernel_rfl)) (by unfold Func.isWrapper; first | (rw [if_pos (by decide +kernel)]; kernel_rfl) | (rw [if_neg (by decide +kernel)]; exact ⟨rfl, rfl⟩))
    (fun os started H enc _ => lifted os started H enc)

/-- The statement. -/
theorem proved : Rows.CborReadsSaid :=
  over
#print axioms proved
end Go.Proofs.Ytglhbjfogbcddaa.cborReads
