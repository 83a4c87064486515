/-
  For every int and every string the law LexerLong (P7.1) returns true and leaves its arguments alone: a text of MaxText bytes is divided, and a longer one is refused. No condition.
-/
import Derived.Test.YtdpnmlgadieamaaRows
import Derived.WalkKit
import Derived.ProofKit
import Derived.OpenShut
import Derived.ShutString
import Derived.ChangeOld
import Derived.Below
import Derived.Test.YtdpnmlgadieamaaLxBlk
namespace Go.Proofs.Ytdpnmlgadieamaa.lexerLong
open Go.ChangeShapes Go.WideShapes Go.ChangeAt Go.RowKit Go.Proofs.Ytdpnmlgadieamaa.Lx
open Go.ChangeMaps (open_string shut_string)
set_option linter.unusedVariables false

theorem own : ownKnob Try.prog.godebug = none := by kernel_rfl



/-! ### The walk: the law returns true, and writes nothing that was there. -/
set_option maxRecDepth 100000 in
set_option maxHeartbeats 16000000 in
theorem walk (a0 : Int) (w0 : (Lit.int .i64 a0).wf = true) (b1 : ByteArray) (w1 : b1.size ≤ maxLen) (w : World) :
    Calls Try.prog 4 #[.int .i64 a0, .string b1] w fun e w' => e = .returned (.bool true) ∧ Below w.heap.size w w' := by
  by_cases hbig : a0 < -20 ∨ 20 < a0 ∨ 20 < b1.size
  · have hb' : a0 < -20 ∨ (¬ a0 < -20 ∧ 20 < a0) ∨ (¬ a0 < -20 ∧ ¬ 20 < a0 ∧ (20 : Int) < (b1.size : Int)) := by omega
    clear hbig w0 w1
    rcases hb' with h1 | ⟨h1, h2⟩ | ⟨h1, h2, h3⟩
    · go_enter Try.func4, Try.ntmps4
      go_wp2_with fail
      refine (alive_any _).mono ?_; rintro e w9 ⟨rfl, k9⟩
      go_wp2_with fail
      go_ret
      exact ⟨rfl, k9⟩
    · go_enter Try.func4, Try.ntmps4
      go_wp2_with fail
      refine (alive_any _).mono ?_; rintro e w9 ⟨rfl, k9⟩
      go_wp2_with fail
      go_ret
      exact ⟨rfl, k9⟩
    · go_enter Try.func4, Try.ntmps4
      go_wp2_with fail
      refine (alive_any _).mono ?_; rintro e w9 ⟨rfl, k9⟩
      go_wp2_with fail
      go_ret
      exact ⟨rfl, k9⟩
  · have h1 : ¬ a0 < -20 := by omega
    have h2 : ¬ 20 < a0 := by omega
    have h3 : ¬ (20 : Int) < (b1.size : Int) := by omega
    have hs20 : b1.size ≤ 20 := by omega
    clear hbig w0 w1
    obtain ⟨N, hN⟩ : ∃ N : Nat, 16384 + a0 = (N : Int) := ⟨(16384 + a0).toNat, by omega⟩
    have hlo : -20 ≤ a0 := by omega
    have hhi : a0 ≤ 20 := by omega
    have hN1 : 16364 ≤ N := by omega
    have hN2 : N ≤ 16404 := by omega
    have hmk := run_make_row' (P := Try.prog) 30 5 (.int .u8 0) 1 Try.underlying30 info_u8 rfl .i64 .i64 N (by omega) (by omega)
    have hz := Lib.hid (bytes_zero w N)
    have hB0 := Lib.hid ((Below.refl w.heap.size w).alloc (Nat.le_refl _) (.cells (madeCells #[.int .u8 0] N) 5))
    go_enter Try.func4, Try.ntmps4
    go_wp2_with fail
    go_loopw [6] (fun i wr => ∃ (j : Nat) (l : List UInt8), i = .int .i64 (j : Int) ∧ j ≤ N ∧ l.length = N ∧ Below w.heap.size w wr ∧ BytesAt wr w.heap.size l) (fun i _ => N - (intOf i).toNat)
    case atStart => exact ⟨0, _, rfl, Nat.zero_le _, List.length_replicate, hB0.out, hz.out⟩
    case round =>
      obtain ⟨j, l, rfl, hj, hl, hB, hbl⟩ := hrel
      by_cases hlt : j < N
      · have hlt' : (j : Int) < (N : Int) := by omega
        obtain ⟨c0, hc0⟩ : ∃ c, l[j]? = some c := ⟨_, List.getElem?_eq_getElem (by omega)⟩
        have y0 := hbl.at_ j c0 hc0
        have f0 := hbl.fz j (by omega)
        have hset : Hid (BytesAt (wr.setCell ⟨w.heap.size, j, none⟩ (.int .u8 35)) w.heap.size (l.set j 35)) := hbl.set (by omega) 35
        have hB2 := Lib.hid (hB.setCell (p := ⟨w.heap.size, j, none⟩) (Nat.le_refl _) (.int .u8 35))
        have hl2 : Hid ((l.set j 35).length = N) := by unfold Hid; rw [List.length_set]; exact hl
        generalize l.set j 35 = l2 at hset hl2
        clear hbl hc0 hB hl hz hB0
        go_wp2_with fail
        exact ⟨⟨j + 1, l2, rfl, hlt, hl2.out, hB2.out, hset.out⟩, by simp [intOf]; omega⟩
      · obtain rfl : j = N := by omega
        have hlt' : ¬ (j : Int) < (j : Int) := by omega
        replace hbl := Lib.hid hbl
        replace hB := Lib.hid hB
        replace hl := Lib.hid hl
        clear hz hB0 hmk hN1 hN2 hlt
        go_wp2_with fail
        go_loopw [7] (fun i wr => ∃ (k : Nat) (l : List UInt8), i = .int .i64 (k : Int) ∧ k ≤ b1.size ∧ l.length = j ∧ Below w.heap.size w wr ∧ BytesAt wr w.heap.size l) (fun i _ => b1.size - (intOf i).toNat)
        case atStart => exact ⟨0, _, rfl, Nat.zero_le _, hl.out, hB.out, hbl.out⟩
        case round =>
          obtain ⟨k, l, rfl, hk, hl, hB, hbl⟩ := hrel
          by_cases hlt2 : k < b1.size
          · obtain ⟨m, hm⟩ : ∃ m, b1.size = k + 1 + m := ⟨b1.size - (k + 1), by omega⟩
            obtain ⟨p, hp⟩ : ∃ p, j = k + 1 + p := ⟨j - (k + 1), by omega⟩
            have hlt3 : (k : Int) < (b1.size : Int) := by omega
            have em : (b1.size : Int) - 1 - (k : Int) = (m : Int) := by omega
            have ep : (j : Int) - 1 - (k : Int) = (p : Int) := by omega
            have hm1 : m < b1.size := by omega
            have hp1 : p < j := by omega
            have hp2 : (p : Int) < (j : Int) := by omega
            obtain ⟨c0, hc0⟩ : ∃ c, l[p]? = some c := ⟨_, List.getElem?_eq_getElem (by omega)⟩
            have y0 := hbl.at_ p c0 hc0
            have f0 := hbl.fz p (by omega)
            have hset := Lib.hid (hbl.set (j := p) (by omega) b1[m])
            have hB2 := Lib.hid (hB.setCell (p := ⟨w.heap.size, p, none⟩) (Nat.le_refl _) (.int .u8 ((b1[m].toNat : Nat) : Int)))
            have hl2 : Hid ((l.set p b1[m]).length = j) := by unfold Hid; rw [List.length_set]; exact hl
            generalize l.set p b1[m] = l2 at hset hl2
            have HM := Lib.hid hm
            have HP := Lib.hid hp
            clear hbl hc0 hB hl hm hp
            go_wp2_with fail
            exact ⟨⟨k + 1, l2, rfl, hlt2, hl2.out, hB2.out, hset.out⟩, by simp [intOf]; omega⟩
          · obtain rfl : k = b1.size := by omega
            have hlt3 : ¬ (b1.size : Int) < (b1.size : Int) := by omega
            have hsn : (b1.size : Int) < (j : Int) := by omega
            by_cases h0 : b1.size = 0
            · have h0' : ¬ (0 : Int) < (b1.size : Int) := by omega
              have h0 := Lib.hid h0
              obtain ⟨T, hT⟩ : ∃ T, scanM l = T := ⟨_, rfl⟩
              have hlen := scan_len l
              have h4 := scan_err4 l
              have c1 := Lib.hid (fun w => qScan_any (toS l) w (by rw [toS_size, hl]; omega))
              have c2 := Lib.hid (fun w => rscan_any (toS l) w (by rw [toS_size, hl]; omega))
              rw [data_toS, hT] at c1 c2
              rw [hT, hl] at hlen h4
              obtain ⟨L, E, P⟩ := T
              simp only at hlen h4
              have cS := Lib.hid (fun (W : World) (va vb : Value) (ha : Lexs W va (L.map toI)) (hb : Lexs W vb (L.map toI)) => rsame_any (L.map toI) (L.map toI) va vb W ha hb (by rw [List.length_map]; omega) (by rw [List.length_map]; omega))
              rw [sameBy_refl] at cS
              generalize sameBy eqM (L.map toI) (L.map toI) = S at cS
              have hE : (E == E) = true := beq_self_eq_true _
              have hP : ((P : Int) == (P : Int)) = true := beq_self_eq_true _
              unfold ScEnd at c1 c2
              simp only at c1 c2
              have HB := Lib.hid hB
              have v1 := hbl.conv j j hl
              have v2 := Lib.hid (fun (W : World) (h : Below wr.heap.size wr W) => (hbl.below h).conv j j hl)
              have hE4 : (E == 4) = decide (0 < a0) := by
                by_cases h : 16384 < j
                · rw [h4.2 h, decide_eq_true (by omega)]; rfl
                · rw [decide_eq_false (by omega)]
                  exact beq_eq_false_iff_ne.2 fun e => h (h4.1 e)
              generalize toS l = X at c1 c2 v1 v2
              clear hlen h4 hT hbl hl hB
              by_cases hp : 0 < a0
              · rw [decide_eq_true hp] at hE4
                have v2 := v2
                go_wp2_with fail
                refine (c1.out _).mono ?_; rintro e w1 ⟨x1, rfl, own1, k1⟩
                have n1 := Lib.hid own1.lexs
                have u2 := v2.out _ k1
                have m1 := stepB HB.out k1
                clear own1
                go_wp2_with fail
                refine (c2.out _).mono ?_; rintro e w2 ⟨x2, rfl, own2, k2⟩
                have n2 := Lib.hid own2.lexs
                have n12 := Lib.hid (n1.out.below k2)
                have m2 := stepB m1 k2
                clear own2 n1
                go_wp2_with fail
                refine (cS.out _ _ _ n12.out n2.out).mono ?_; rintro e w3 ⟨rfl, k3⟩
                have m3 := stepB m2 k3
                go_wp2_with fail
                refine (alive_any _).mono ?_; rintro e w9 ⟨rfl, k9⟩
                go_wp2_with fail
                go_ret
                exact ⟨rfl, stepB m3 k9⟩
              · rw [decide_eq_false hp] at hE4
                have hd := decide_eq_false hp
                have v2 := v2
                go_wp2_with fail
                refine (c1.out _).mono ?_; rintro e w1 ⟨x1, rfl, own1, k1⟩
                have n1 := Lib.hid own1.lexs
                have u2 := v2.out _ k1
                have m1 := stepB HB.out k1
                clear own1
                go_wp2_with fail
                refine (c2.out _).mono ?_; rintro e w2 ⟨x2, rfl, own2, k2⟩
                have n2 := Lib.hid own2.lexs
                have n12 := Lib.hid (n1.out.below k2)
                have m2 := stepB m1 k2
                clear own2 n1
                go_wp2_with fail
                refine (cS.out _ _ _ n12.out n2.out).mono ?_; rintro e w3 ⟨rfl, k3⟩
                have m3 := stepB m2 k3
                go_wp2_with fail
                refine (alive_any _).mono ?_; rintro e w9 ⟨rfl, k9⟩
                go_wp2_with fail
                go_ret
                exact ⟨rfl, stepB m3 k9⟩
            · have h0' : (0 : Int) < (b1.size : Int) := by omega
              obtain ⟨p, hp⟩ : ∃ p, j = b1.size + 1 + p := ⟨j - (b1.size + 1), by omega⟩
              have ep : (j : Int) - 1 - (b1.size : Int) = (p : Int) := by omega
              have hp1 : p < j := by omega
              have hp2 : (p : Int) < (j : Int) := by omega
              obtain ⟨c0, hc0⟩ : ∃ c, l[p]? = some c := ⟨_, List.getElem?_eq_getElem (by omega)⟩
              have y0 := hbl.at_ p c0 hc0
              have f0 := hbl.fz p (by omega)
              have hset : BytesAt (wr.setCell ⟨w.heap.size, p, none⟩ (.int .u8 10)) w.heap.size (l.set p 10) := hbl.set (by omega) 10
              have hB2 := hB.setCell (p := ⟨w.heap.size, p, none⟩) (Nat.le_refl _) (.int .u8 10)
              have hl2 : (l.set p 10).length = j := by rw [List.length_set]; exact hl
              generalize l.set p 10 = l2 at hset hl2
              have hN' := hN
              have HP := Lib.hid hp
              clear hbl hc0 hB hl hp h0
              have hbl := hset
              have hB := hB2
              have hl := hl2
              clear hset hB2 hl2
              obtain ⟨T, hT⟩ : ∃ T, scanM l2 = T := ⟨_, rfl⟩
              have hlen := scan_len l2
              have h4 := scan_err4 l2
              have c1 := Lib.hid (fun w => qScan_any (toS l2) w (by rw [toS_size, hl]; omega))
              have c2 := Lib.hid (fun w => rscan_any (toS l2) w (by rw [toS_size, hl]; omega))
              rw [data_toS, hT] at c1 c2
              rw [hT, hl] at hlen h4
              obtain ⟨L, E, P⟩ := T
              simp only at hlen h4
              have cS := Lib.hid (fun (W : World) (va vb : Value) (ha : Lexs W va (L.map toI)) (hb : Lexs W vb (L.map toI)) => rsame_any (L.map toI) (L.map toI) va vb W ha hb (by rw [List.length_map]; omega) (by rw [List.length_map]; omega))
              rw [sameBy_refl] at cS
              generalize sameBy eqM (L.map toI) (L.map toI) = S at cS
              have hE : (E == E) = true := beq_self_eq_true _
              have hP : ((P : Int) == (P : Int)) = true := beq_self_eq_true _
              unfold ScEnd at c1 c2
              simp only at c1 c2
              have HB := Lib.hid hB
              have v1 := hbl.conv j j hl
              have v2 := Lib.hid (fun (W : World) (h : Below (wr.setCell ⟨w.heap.size, p, none⟩ (.int .u8 10)).heap.size (wr.setCell ⟨w.heap.size, p, none⟩ (.int .u8 10)) W) => (hbl.below h).conv j j hl)
              have hE4 : (E == 4) = decide (0 < a0) := by
                by_cases h : 16384 < j
                · rw [h4.2 h, decide_eq_true (by omega)]; rfl
                · rw [decide_eq_false (by omega)]
                  exact beq_eq_false_iff_ne.2 fun e => h (h4.1 e)
              generalize toS l2 = X at c1 c2 v1 v2
              clear hlen h4 hT hbl hl hB
              by_cases hp : 0 < a0
              · rw [decide_eq_true hp] at hE4
                have v2 := v2
                go_wp2_with fail
                refine (c1.out _).mono ?_; rintro e w1 ⟨x1, rfl, own1, k1⟩
                have n1 := Lib.hid own1.lexs
                have u2 := v2.out _ k1
                have m1 := stepB HB.out k1
                clear own1
                go_wp2_with fail
                refine (c2.out _).mono ?_; rintro e w2 ⟨x2, rfl, own2, k2⟩
                have n2 := Lib.hid own2.lexs
                have n12 := Lib.hid (n1.out.below k2)
                have m2 := stepB m1 k2
                clear own2 n1
                go_wp2_with fail
                refine (cS.out _ _ _ n12.out n2.out).mono ?_; rintro e w3 ⟨rfl, k3⟩
                have m3 := stepB m2 k3
                go_wp2_with fail
                refine (alive_any _).mono ?_; rintro e w9 ⟨rfl, k9⟩
                go_wp2_with fail
                go_ret
                exact ⟨rfl, stepB m3 k9⟩
              · rw [decide_eq_false hp] at hE4
                have hd := decide_eq_false hp
                have v2 := v2
                go_wp2_with fail
                refine (c1.out _).mono ?_; rintro e w1 ⟨x1, rfl, own1, k1⟩
                have n1 := Lib.hid own1.lexs
                have u2 := v2.out _ k1
                have m1 := stepB HB.out k1
                clear own1
                go_wp2_with fail
                refine (c2.out _).mono ?_; rintro e w2 ⟨x2, rfl, own2, k2⟩
                have n2 := Lib.hid own2.lexs
                have n12 := Lib.hid (n1.out.below k2)
                have m2 := stepB m1 k2
                clear own2 n1
                go_wp2_with fail
                refine (cS.out _ _ _ n12.out n2.out).mono ?_; rintro e w3 ⟨rfl, k3⟩
                have m3 := stepB m2 k3
                go_wp2_with fail
                refine (alive_any _).mono ?_; rintro e w9 ⟨rfl, k9⟩
                go_wp2_with fail
                go_ret
                exact ⟨rfl, stepB m3 k9⟩

/-! ### The row's step -/
set_option maxRecDepth 100000 in
theorem lifted (os : Os) (started : os.Started) (H : Type) (enc : TypeId × Value → H) :
    ReturnsInHanded {} Try.checked os 4 .any (Rows.lexerLongSpec.pre6 enc Try.prog Try.f4 Rows.lexerLongRow.domain false) (Rows.lexerLongSpec.post enc Try.prog Try.f4 false true false false) := by
  refine returnsInHanded_of_change (C := Try.checked) own started (by kernel_rfl) Try.func4
    (ChangeSpec.witness6 (enc := enc) (C := Try.checked) false ⟨#[], #[.int .i64 0, .string ByteArray.empty], []⟩ 8 (by kernel_rfl) (by kernel_rfl) (by kernel_rfl) (by kernel_rfl)) ?_
  intro W base args ds gs before hval0 hW hcnd _
  have hval : ∀ (j : Nat) t v, Try.f4.params[j]? = some t → args[j]? = some v → Value.okWide Try.prog W .any base t v := hval0
  have hW' := hW
  obtain ⟨p, q, hA0, hV, rfl, hfz, hnd⟩ := hW
  have hA : DataW.TrodAll enc Try.prog W 0 (fun _ => true) true Try.f4.params.toList args.toList ds p := hA0
  rw [Try.params4] at hA hval
  obtain ⟨v0, vs0, d0, ds0, p0, q0, hargs, rfl, rfl, h0, r0⟩ := trodAll_cons hA
  obtain ⟨v1, vs1, d1, ds1, p1, q1, rfl, rfl, rfl, h1, r1⟩ := trodAll_cons r0
  obtain ⟨rfl, rfl, rfl⟩ := trodAll_nil r1
  obtain rfl : args = #[v0, v1] := by cases args; simp_all
  obtain ⟨rfl, rfl⟩ := trodVars_none hV
  obtain ⟨a0, rfl, rfl, rfl, w0⟩ := open_int Try.underlying3 (hval 0 3 v0 rfl rfl) h0
  obtain ⟨b1, rfl, rfl, rfl, w1⟩ := open_string Try.underlying9 (hval 1 9 v1 rfl rfl) h1
  clear hA0 hval0
  simp only [List.append_nil] at hW'
  refine (walk a0 w0 b1 w1 W).mono fun e W' ⟨he, hg⟩ => ?_
  subst he
  exact ⟨_, rfl, _, _, _, [], [], [], hW', (trodAll_cons_mk (shut_bool Try.underlying4 _) trodAll_mk0), (trodAll_cons_mk (shut_int Try.underlying3 w0) (trodAll_cons_mk (shut_string Try.underlying9 w1) trodAll_mk0)), rfl, hg.frame _, fun h => by cases h⟩

theorem over : Rows.lexerLongRow.holds Try.pinned (OpenSpec.ofChange Rows.lexerLongSpec) :=
  OpenClaim.holds_of_wide 4 Try.f4 rfl rfl rfl rfl rfl rfl rfl ⟨rfl, rfl, rfl, rfl, rfl⟩ rfl rfl rfl rfl rfl (by kernel_rfl) Try.func4 (by kernel_rfl)
    (of_decide_eq_true (by kernel_rfl)) (by unfold Func.isWrapper; first | (rw [if_pos (by decide +kernel)]; kernel_rfl) | (rw [if_neg (by decide +kernel)]; exact ⟨rfl, rfl⟩))
    (fun os started H enc _ => lifted os started H enc)

/-- The statement. -/
theorem proved : Rows.LexerLongSaid :=
  over
#print axioms proved
end Go.Proofs.Ytdpnmlgadieamaa.lexerLong
