/-
  For every string the law LexerOffsets (P7.1, P7.7) returns true and leaves its argument alone: the offsets of lexemes increase, names, numbers and marks stand where they should, the end is at the end, an error is within the text (the law itself asks this of at most 3000 bytes). No condition.
-/
import Derived.Test.YtdpnmlgadieamaaRows
import Derived.WalkKit
import Derived.ProofKit
import Derived.OpenShut
import Derived.ShutString
import Derived.ChangeOld
import Derived.Below
import Derived.Test.YtdpnmlgadieamaaLxLaw
namespace Go.Proofs.Ytdpnmlgadieamaa.lexerOffsets
open Go.ChangeShapes Go.WideShapes Go.ChangeAt Go.RowKit Go.Proofs.Ytdpnmlgadieamaa.Lx
open Go.ChangeMaps (open_string shut_string)
set_option linter.unusedVariables false

theorem own : ownKnob Try.prog.godebug = none := by kernel_rfl

theorem off_step {s : List UInt8} {lo : Nat} {L : List Lex} {k : Nat} {x : Lex} (h : OffOk s lo (L.drop k)) (hx : L[k]? = some x) :
    (k + 1 = L.length ∧ lo ≤ s.length ∧ x = ⟨0, [], 0, s.length⟩) ∨
    (k + 1 < L.length ∧ lo ≤ x.a ∧ x.a < s.length ∧ (1 ≤ x.k ∧ x.k ≤ 4) ∧ (x.k = 3 → (s.drop x.a).head? = some 34) ∧ (x.k ≠ 3 → x.t.length ≤ s.length - x.a ∧ (s.drop x.a).take x.t.length = x.t) ∧ OffOk s (x.a + 1) (L.drop (k + 1))) := by
  obtain ⟨hlt, rfl⟩ := List.getElem?_eq_some_iff.1 hx
  rw [List.drop_eq_getElem_cons hlt] at h
  have hd := List.length_drop (i := k + 1) (l := L)
  generalize L.drop (k + 1) = d at h hd ⊢
  generalize L[k] = x at h ⊢
  cases d with
  | nil =>
    refine Or.inl ⟨by rw [List.length_nil] at hd; omega, h.1, ?_⟩
    obtain ⟨k, t, n, a⟩ := x
    obtain ⟨_, h1, h2, h3, h4⟩ := h
    simp only at h1 h2 h3 h4
    rw [h1, h2, h3, h4]
  | cons y r =>
    refine Or.inr ⟨by rw [List.length_cons] at hd; omega, h⟩
theorem head_at {s : ByteArray} {a : Nat} (h : a < s.size) (hh : (s.data.toList.drop a).head? = some 34) : s[a].toNat = 34 := by
  have : rest s a = s.data.toList.drop a := rfl
  rw [← this, rest_at h] at hh
  simp at hh
  rw [hh]; rfl

/-! ### The walk: the law returns true, and writes nothing that was there. -/
set_option maxRecDepth 100000 in
set_option maxHeartbeats 16000000 in
theorem walk (b0 : ByteArray) (w0 : b0.size ≤ maxLen) (w : World) :
    Calls Try.prog 10 #[.string b0] w fun e w' => e = .returned (.bool true) ∧ Below w.heap.size w w' := by
  by_cases hbig : 3000 < b0.size
  · have hbig' : (3000 : Int) < (b0.size : Int) := by omega
    clear hbig w0
    go_enter Try.func10, Try.ntmps10
    go_wp2_with fail
    refine (alive_any _).mono ?_; rintro e w9 ⟨rfl, k9⟩
    go_wp2_with fail
    go_ret
    exact ⟨rfl, k9⟩
  · have hs : ¬ (3000 : Int) < (b0.size : Int) := by omega
    have hN : (b0.size : Int) ≤ 3000 := by omega
    have c1 := Lib.hid (fun w => qScan_any b0 w (by omega))
    unfold ScEnd at c1
    have hoff := scan_off (s := b0.data.toList) (by rw [len_data]; omega)
    by_cases h0 : (scanM b0.data.toList).2.1 = 0
    · obtain ⟨hp0, hoff⟩ := hoff.1 h0
      have hl0 := scan_len b0.data.toList
      rw [len_data] at hl0
      rw [h0, hp0] at c1
      generalize (scanM b0.data.toList).1 = L at c1 hoff hl0
      obtain ⟨m, hm⟩ : ∃ m, L.length = m + 1 := by
        cases L with
        | nil => exact hoff.elim
        | cons x r => exact ⟨r.length, rfl⟩
      have hm1 : (m : Int) ≤ 3000 := by omega
      have HM := Lib.hid hm
      have HO : Hid (OffOk b0.data.toList 0 L) := hoff
      obtain ⟨N, hNe⟩ : ∃ N, b0.size = N := ⟨_, rfl⟩
      have HNE := Lib.hid hNe
      have hszb : (b0.size : Int) = (N : Int) := by omega
      clear hbig w0 h0 hp0 hoff hl0 hm hNe
      go_enter Try.func10, Try.ntmps10
      go_wp2_with fail
      refine (c1.out _).mono ?_; rintro e w1 ⟨v1, rfl, own1, k1⟩
      have o1 := own1.lexs
      obtain ⟨b3, off3, c3', e3', a3⟩ := o1.open (by rw [List.length_map, HM.out]; omega)
      rw [List.length_map, HM.out] at e3'
      subst e3'
      have A3 := Lib.hid a3
      have K1 := Lib.hid k1
      clear own1 o1 a3 k1
      go_wp2_with fail
      go_loopw [6, 7] (fun v i wr => ∃ k : Nat, i = .int .i64 (k : Int) ∧ k ≤ m + 1 ∧ Hid (Below w1.heap.size w1 wr) ∧ Hid ((k ≤ m ∧ ∃ lo : Nat, v = .int .i64 ((lo : Int) - 1) ∧ OffOk b0.data.toList lo (L.drop k)) ∨ (k = m + 1 ∧ v = .int .i64 (N : Int)))) (fun _ i _ => m + 1 - (intOf i).toNat)
      case atStart => exact ⟨0, rfl, Nat.zero_le _, Below.refl _ _, Or.inl ⟨Nat.zero_le _, 0, rfl, HO.out⟩⟩
      case round =>
        obtain ⟨k, rfl, hk, hB, hst⟩ := hrel
        by_cases hlt : k < m + 1
        · have hlt' : (k : Int) < (m : Int) + 1 := by omega
          obtain ⟨x, hx⟩ : ∃ x, L[k]? = some x := ⟨_, List.getElem?_eq_getElem (by rw [HM.out]; exact hlt)⟩
          obtain ⟨y0, y1, y2, y3⟩ := A3.out.at_ k (toI x) (by rw [List.getElem?_map, hx]; rfl)
          have lb := A3.out.lt
          replace y0 := (hB.out.cell lb).trans y0
          replace y1 := (hB.out.cell lb).trans y1
          replace y2 := (hB.out.cell lb).trans y2
          replace y3 := (hB.out.cell lb).trans y3
          rcases hst.out with ⟨-, lo, rfl, ho⟩ | ⟨h, -⟩
          rotate_left
          · omega
          rcases off_step ho hx with ⟨hk1, hlo, rfl⟩ | ⟨hk1, hlo, ha, hkk, h34, hcut, hnext⟩
          · rw [HM.out] at hk1
            rw [len_data, HNE.out] at hlo
            obtain rfl : k = m := by omega
            obtain ⟨t, ht⟩ : ∃ t : List UInt8, ([] : List UInt8) = t := ⟨_, rfl⟩
            obtain ⟨nn, hnn⟩ : ∃ n : Int, (0 : Int) = n := ⟨_, rfl⟩
            obtain ⟨T, hT⟩ : ∃ T : Nat, T = 0 := ⟨_, rfl⟩
            obtain ⟨aa, haa⟩ : ∃ aa : Nat, b0.data.toList.length = aa := ⟨_, rfl⟩
            have haN : aa = N := by rw [← haa, len_data, HNE.out]
            have hsz : ((toS t).size : Int) = (T : Int) := by rw [← ht, hT]; rfl
            have hcut : b0.extract aa (aa + T) = toS t := by rw [cut_is, hT, ← ht]; rfl
            simp only [toI] at y0 y1 y2 y3
            rw [haa] at y3
            rw [ht] at y1
            rw [hnn] at y2
            have hnx : Hid (Value.int .i64 (aa : Int) = .int .i64 (N : Int)) := by show _ = _; rw [haN]
            have r1 : ¬ (aa : Int) ≤ (lo : Int) - 1 := by omega
            have r2 : ¬ (N : Int) < (aa : Int) := by omega
            have q0 : (aa : Int) + (T : Int) ≤ (N : Int) := by omega
            have HA := Lib.hid haN
            clear ho hx hst ht hnn hT haa lb haN hk1 hlo
            have q1 : IntKind.i64.wrap ((aa : Int) + (T : Int)) = (aa : Int) + (T : Int) := IntWalk.i64_in _ (by omega)
            have q2 : IntKind.i64.wrap ((N : Int) - (aa : Int)) = (N : Int) - (aa : Int) := IntWalk.i64_in _ (by omega)
            have q3 : decide ((N : Int) - (aa : Int) < (T : Int)) = false := decide_eq_false (by omega)
            have q4 : (aa : Int) ≤ (aa : Int) + (T : Int) := by omega
            have q5 : (aa : Int) + (T : Int) ≤ (N : Int) := by omega
            have q6 : (0 : Int) ≤ (aa : Int) + (T : Int) := by omega
            have q7 : ((aa : Int) + (T : Int)).toNat = aa + T := by omega
            have q8 : aa + T ≤ b0.size := by omega
            have q9 : (aa : Int) + (T : Int) ≤ (b0.size : Int) := by omega
            obtain ⟨tS, htS⟩ : ∃ s, toS t = s := ⟨_, rfl⟩
            rw [htS] at y1 hsz hcut
            clear htS
            have n2 := Lib.hid (Blk.new wr 35 lx0)
            have x3 := blk_row (Blk.new wr 35 lx0) (lxL 0 tS nn (aa : Int))
            have z0 : ((wr.alloc lxO).setRow wr.heap.size (lxL 0 tS nn (aa : Int))).cell? ⟨wr.heap.size, 0, none⟩ = some (.int .i64 0) := x3.cell 0
            have z1 : ((wr.alloc lxO).setRow wr.heap.size (lxL 0 tS nn (aa : Int))).cell? ⟨wr.heap.size, 1, none⟩ = some (.string tS) := x3.cell 1
            have z3 : ((wr.alloc lxO).setRow wr.heap.size (lxL 0 tS nn (aa : Int))).cell? ⟨wr.heap.size, 3, none⟩ = some (.int .i64 (aa : Int)) := x3.cell 3
            have B3 := Lib.hid (below_row (hB.out.alloc hB.out.size lxO) hB.out.size (lxL 0 tS nn (aa : Int)))
            clear x3 hB
            go_wp2_with (refine wpList_store_row rfl 35 (.tmp 8) (.tmp 58) rfl wr.heap.size (lxL 0 tS nn (aa : Int)) rfl rfl 35 _ n2.out (lx_size _ _ _ _) rfl (lx_ones _ _ _ _) ?_)
            go_quiet (fail)
            go_wp2_with fail
            exact ⟨⟨k + 1, rfl, hlt, below_drewN B3.out _, Or.inr ⟨rfl, hnx.out⟩⟩, by simp [intOf]⟩
          · rw [HM.out] at hk1
            rw [len_data, HNE.out] at ha hcut
            have hnx : Hid ((k + 1 ≤ m ∧ ∃ lo : Nat, Value.int .i64 (x.a : Int) = .int .i64 ((lo : Int) - 1) ∧ OffOk b0.data.toList lo (L.drop (k + 1))) ∨ (k + 1 = m + 1 ∧ Value.int .i64 (x.a : Int) = .int .i64 (N : Int))) := Or.inl ⟨by omega, x.a + 1, by rw [show ((x.a + 1 : Nat) : Int) - 1 = (x.a : Int) by omega], hnext⟩
            have ha1 := fun (h : x.a < b0.size) (h3 : x.k = 3) => head_at h (h34 h3)
            have hct := fun (h3 : x.k ≠ 3) => (hcut h3).1
            have hcx := fun (h3 : x.k ≠ 3) => (show b0.extract x.a (x.a + x.t.length) = toS x.t by rw [cut_is]; exact congrArg toS (hcut h3).2)
            have hsz : ((toS x.t).size : Int) = (x.t.length : Int) := by rw [toS_size]
            obtain ⟨kk, t, nn, aa⟩ := x
            simp only [toI] at y0 y1 y2 y3 hnx ha1 hct hcx hsz ha hkk hlo
            generalize t.length = T at hct hcx hsz
            have r1 : ¬ (aa : Int) ≤ (lo : Int) - 1 := by omega
            have r2 : ¬ (N : Int) < (aa : Int) := by omega
            have r3 : (kk == 0) = false := beq_eq_false_iff_ne.2 (by omega)
            have r4 : ((k : Int) == (m : Int)) = false := beq_eq_false_iff_ne.2 (by omega)
            have r5 : (aa : Int) < (N : Int) := by omega
            by_cases h3 : kk = 3
            · have hal : aa < b0.size := by rw [HNE.out]; exact ha
              have h34' := ha1 hal h3
              have r6 : ((aa : Int) == (N : Int)) = false := beq_eq_false_iff_ne.2 (by omega)
              subst h3
              clear ho hx hst lb hk1 hlo hkk h34 hcut hnext ha1 hct hcx ha r3
              obtain ⟨tS, htS⟩ : ∃ s, toS t = s := ⟨_, rfl⟩
              rw [htS] at y1 hsz
              clear htS
              have n2 := Lib.hid (Blk.new wr 35 lx0)
              have x3 := blk_row (Blk.new wr 35 lx0) (lxL 3 tS nn (aa : Int))
              have z0 : ((wr.alloc lxO).setRow wr.heap.size (lxL 3 tS nn (aa : Int))).cell? ⟨wr.heap.size, 0, none⟩ = some (.int .i64 3) := x3.cell 0
              have z1 : ((wr.alloc lxO).setRow wr.heap.size (lxL 3 tS nn (aa : Int))).cell? ⟨wr.heap.size, 1, none⟩ = some (.string tS) := x3.cell 1
              have z3 : ((wr.alloc lxO).setRow wr.heap.size (lxL 3 tS nn (aa : Int))).cell? ⟨wr.heap.size, 3, none⟩ = some (.int .i64 (aa : Int)) := x3.cell 3
              have B3 := Lib.hid (below_row (hB.out.alloc hB.out.size lxO) hB.out.size (lxL 3 tS nn (aa : Int)))
              clear x3 hB
              go_wp2_with (refine wpList_store_row rfl 35 (.tmp 8) (.tmp 58) rfl wr.heap.size (lxL 3 tS nn (aa : Int)) rfl rfl 35 _ n2.out (lx_size _ _ _ _) rfl (lx_ones _ _ _ _) ?_)
              exact ⟨⟨k + 1, rfl, hlt, B3.out, hnx.out⟩, by simp [intOf]; omega⟩
            · have hcut2 := hcx h3
              have hc2 := hct h3
              have q0 : (aa : Int) + (T : Int) ≤ (N : Int) := by omega
              have r7 : (kk == 3) = false := beq_eq_false_iff_ne.2 h3
              clear ho hx hst lb hk1 hlo hkk h34 hcut hnext ha1 hct hcx ha h3 hc2
              have hcut := hcut2
              clear hcut2
              have q1 : IntKind.i64.wrap ((aa : Int) + (T : Int)) = (aa : Int) + (T : Int) := IntWalk.i64_in _ (by omega)
              have q2 : IntKind.i64.wrap ((N : Int) - (aa : Int)) = (N : Int) - (aa : Int) := IntWalk.i64_in _ (by omega)
              have q3 : decide ((N : Int) - (aa : Int) < (T : Int)) = false := decide_eq_false (by omega)
              have q4 : (aa : Int) ≤ (aa : Int) + (T : Int) := by omega
              have q5 : (aa : Int) + (T : Int) ≤ (N : Int) := by omega
              have q6 : (0 : Int) ≤ (aa : Int) + (T : Int) := by omega
              have q7 : ((aa : Int) + (T : Int)).toNat = aa + T := by omega
              have q8 : aa + T ≤ b0.size := by omega
              have q9 : (aa : Int) + (T : Int) ≤ (b0.size : Int) := by omega
              obtain ⟨tS, htS⟩ : ∃ s, toS t = s := ⟨_, rfl⟩
              rw [htS] at y1 hsz hcut
              clear htS
              have n2 := Lib.hid (Blk.new wr 35 lx0)
              have x3 := blk_row (Blk.new wr 35 lx0) (lxL kk tS nn (aa : Int))
              have z0 : ((wr.alloc lxO).setRow wr.heap.size (lxL kk tS nn (aa : Int))).cell? ⟨wr.heap.size, 0, none⟩ = some (.int .i64 kk) := x3.cell 0
              have z1 : ((wr.alloc lxO).setRow wr.heap.size (lxL kk tS nn (aa : Int))).cell? ⟨wr.heap.size, 1, none⟩ = some (.string tS) := x3.cell 1
              have z3 : ((wr.alloc lxO).setRow wr.heap.size (lxL kk tS nn (aa : Int))).cell? ⟨wr.heap.size, 3, none⟩ = some (.int .i64 (aa : Int)) := x3.cell 3
              have B3 := Lib.hid (below_row (hB.out.alloc hB.out.size lxO) hB.out.size (lxL kk tS nn (aa : Int)))
              clear x3 hB
              go_wp2_with (refine wpList_store_row rfl 35 (.tmp 8) (.tmp 58) rfl wr.heap.size (lxL kk tS nn (aa : Int)) rfl rfl 35 _ n2.out (lx_size _ _ _ _) rfl (lx_ones _ _ _ _) ?_)
              go_quiet (fail)
              go_wp2_with fail
              exact ⟨⟨k + 1, rfl, hlt, below_drewN B3.out _, hnx.out⟩, by simp [intOf]; omega⟩
        · obtain rfl : k = m + 1 := by omega
          have hlt' : ¬ (m : Int) + 1 < (m : Int) + 1 := by omega
          rcases hst.out with ⟨h, -⟩ | ⟨-, rfl⟩
          · omega
          have m3 := Lib.hid (K1.out.trans (hB.out.mono K1.out.size))
          clear hB hst A3 HO K1
          go_wp2_with fail
          refine (alive_any _).mono ?_; rintro e w9 ⟨rfl, k9⟩
          go_wp2_with fail
          go_ret
          exact ⟨rfl, stepB m3.out k9⟩
    · have ho := hoff.2 h0
      rw [ho.1] at c1
      have hE : ((scanM b0.data.toList).2.1 != 0) = true := bne_iff_ne.2 h0
      have hPl := ho.2.2
      rw [len_data] at hPl
      have hP2 : ((scanM b0.data.toList).2.2 : Int) ≤ (b0.size : Int) := by omega
      have hEs := ho.2.1
      generalize (scanM b0.data.toList).2.1 = E at c1 hE hEs
      generalize (scanM b0.data.toList).2.2 = P at c1 hP2
      clear hbig w0 h0 ho hoff hPl
      rcases hEs with rfl | rfl | rfl
      · go_enter Try.func10, Try.ntmps10
        go_wp2_with fail
        refine (c1.out _).mono ?_; rintro e w1 ⟨v1, rfl, own1, k1⟩
        have n1 := own1.lexs
        obtain ⟨p1, c1', rfl⟩ := n1.nil
        clear own1 n1
        go_wp2_with fail
        refine (alive_any _).mono ?_; rintro e w9 ⟨rfl, k9⟩
        go_wp2_with fail
        go_ret
        exact ⟨rfl, stepB k1 k9⟩
      · go_enter Try.func10, Try.ntmps10
        go_wp2_with fail
        refine (c1.out _).mono ?_; rintro e w1 ⟨v1, rfl, own1, k1⟩
        have n1 := own1.lexs
        obtain ⟨p1, c1', rfl⟩ := n1.nil
        clear own1 n1
        go_wp2_with fail
        refine (alive_any _).mono ?_; rintro e w9 ⟨rfl, k9⟩
        go_wp2_with fail
        go_ret
        exact ⟨rfl, stepB k1 k9⟩
      · go_enter Try.func10, Try.ntmps10
        go_wp2_with fail
        refine (c1.out _).mono ?_; rintro e w1 ⟨v1, rfl, own1, k1⟩
        have n1 := own1.lexs
        obtain ⟨p1, c1', rfl⟩ := n1.nil
        clear own1 n1
        go_wp2_with fail
        refine (alive_any _).mono ?_; rintro e w9 ⟨rfl, k9⟩
        go_wp2_with fail
        go_ret
        exact ⟨rfl, stepB k1 k9⟩

/-! ### The row's step -/
set_option maxRecDepth 100000 in
theorem lifted (os : Os) (started : os.Started) (H : Type) (enc : TypeId × Value → H) :
    ReturnsInHanded {} Try.checked os 10 .any (Rows.lexerOffsetsSpec.pre6 enc Try.prog Try.f10 Rows.lexerOffsetsRow.domain false) (Rows.lexerOffsetsSpec.post enc Try.prog Try.f10 false true false false) := by
  refine returnsInHanded_of_change (C := Try.checked) own started (by kernel_rfl) Try.func10
    (ChangeSpec.witness6 (enc := enc) (C := Try.checked) false ⟨#[], #[.string ByteArray.empty], []⟩ 8 (by kernel_rfl) (by kernel_rfl) (by kernel_rfl) (by kernel_rfl)) ?_
  intro W base args ds gs before hval0 hW hcnd _
  have hval : ∀ (j : Nat) t v, Try.f10.params[j]? = some t → args[j]? = some v → Value.okWide Try.prog W .any base t v := hval0
  have hW' := hW
  obtain ⟨p, q, hA0, hV, rfl, hfz, hnd⟩ := hW
  have hA : DataW.TrodAll enc Try.prog W 0 (fun _ => true) true Try.f10.params.toList args.toList ds p := hA0
  rw [Try.params10] at hA hval
  obtain ⟨v0, vs0, d0, ds0, p0, q0, hargs, rfl, rfl, h0, r0⟩ := trodAll_cons hA
  obtain ⟨rfl, rfl, rfl⟩ := trodAll_nil r0
  obtain rfl : args = #[v0] := by cases args; simp_all
  obtain ⟨rfl, rfl⟩ := trodVars_none hV
  obtain ⟨b0, rfl, rfl, rfl, w0⟩ := open_string Try.underlying9 (hval 0 9 v0 rfl rfl) h0
  clear hA0 hval0
  simp only [List.append_nil] at hW'
  refine (walk b0 w0 W).mono fun e W' ⟨he, hg⟩ => ?_
  subst he
  exact ⟨_, rfl, _, _, _, [], [], [], hW', (trodAll_cons_mk (shut_bool Try.underlying4 _) trodAll_mk0), (trodAll_cons_mk (shut_string Try.underlying9 w0) trodAll_mk0), rfl, hg.frame _, fun h => by cases h⟩

theorem over : Rows.lexerOffsetsRow.holds Try.pinned (OpenSpec.ofChange Rows.lexerOffsetsSpec) :=
  OpenClaim.holds_of_wide 10 Try.f10 rfl rfl rfl rfl rfl rfl rfl ⟨rfl, rfl, rfl, rfl, rfl⟩ rfl rfl rfl rfl rfl (by kernel_rfl) Try.func10 (by kernel_rfl)
    (of_decide_eq_true (by kernel_rfl)) (by unfold Func.isWrapper; first | (rw [if_pos (by decide +kernel)]; kernel_rfl) | (rw [if_neg (by decide +kernel)]; exact ⟨rfl, rfl⟩))
    (fun os started H enc _ => lifted os started H enc)

/-- The statement. -/
theorem proved : Rows.LexerOffsetsSaid :=
  over
#print axioms proved
end Go.Proofs.Ytdpnmlgadieamaa.lexerOffsets
