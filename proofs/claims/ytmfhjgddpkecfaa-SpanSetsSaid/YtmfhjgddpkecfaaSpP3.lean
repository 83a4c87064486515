/-
  Contract of the program of layer 8: merge.
-/
import Derived.Test.YtmfhjgddpkecfaaSpP2
namespace Go.Proofs.Ytmfhjgddpkecfaa.Sp
open Go.RowKit

def slN : Value → Nat
  | .slice _ n _ => n
  | _ => 0
theorem mg_or {a b : List Spn} (h : a = [] ∨ b = []) : mgL a b = a ++ b := by
  rcases h with rfl | rfl
  · rw [mg_nil]; rfl
  · rw [mg_nil2, List.append_nil]
/-- The rest of a slice behind its first span. -/
theorem Spns.tail {w : World} {b off c n : Nat} {x : Spn} {r : List Spn} (h : Spns w (.slice (some ⟨b, off, none⟩) n c) (x :: r)) : Spns w (.slice (if c = 1 then some ⟨b, off, none⟩ else some ⟨b, off + 2, none⟩) r.length (c - 1)) r ∧ n = r.length + 1 ∧ r.length + 1 ≤ c ∧ w.cell? ⟨b, off, none⟩ = some (.int .i64 x.1) ∧ w.cell? ⟨b, off + 1, none⟩ = some (.int .i64 x.2) ∧ b < w.heap.size := by
  obtain ⟨b', off', c', e, ha⟩ := h.open (Nat.succ_pos _)
  simp only [Value.slice.injEq, Option.some.injEq, Addr.mk.injEq] at e
  obtain ⟨⟨rfl, rfl, -⟩, rfl, rfl⟩ := e
  have hc := ha.cap
  rw [List.length_cons] at hc
  have h0 := ha.at_ 0 x rfl
  simp only [Nat.zero_mul, Nat.add_zero] at h0
  refine ⟨⟨_, _, rfl, by omega, fun hr => ⟨b, off + 2, by rw [if_neg (by omega)], ha.lt, by omega, fun j y hj => ?_⟩⟩, rfl, hc, h0.1, h0.2, ha.lt⟩
  have h1 := ha.at_ (j + 1) y (by simpa using hj)
  rw [show off + 2 + j * 2 = off + (j + 1) * 2 by omega]
  exact h1
theorem Spns.form {w : World} {v : Value} {x : Spn} {r : List Spn} (h : Spns w v (x :: r)) : ∃ b off c, v = .slice (some ⟨b, off, none⟩) (r.length + 1) c := by
  obtain ⟨b, off, c, e, _⟩ := h.open (Nat.succ_pos _)
  exact ⟨b, off, c, e⟩
theorem box_made {w w1 : World} {N M : Nat} (own : w1.ownsRow w.heap.size 38 2 (.slice (some ⟨w.heap.size, 0, none⟩) 0 (N + M)) 0 []) (h : Below w.heap.size w w1) :
    BoxS (w1.alloc (.cells #[.slice (some ⟨w.heap.size, 0, none⟩) 0 (N + M)] 22)) w1.heap.size w.heap.size [] ∧ Below w.heap.size w (w1.alloc (.cells #[.slice (some ⟨w.heap.size, 0, none⟩) 0 (N + M)] 22)) :=
  ⟨⟨_, heap_alloc_new w1 _, OwnS.alloc (l := []) own _⟩, h.alloc h.size _⟩
set_option maxHeartbeats 4000000 in
set_option maxRecDepth 100000 in
theorem pmerge_any (a b : List Spn) (va vb : Value) (w : World) (ha : Spns w va a) (hb : Spns w vb b) (hla : a.length ≤ 20000) (hlb : b.length ≤ 20000) :
    Calls Try.prog 30 #[va, vb] w (NoEnd (joF [] (mgL a b)) w) := by
  have HA := Lib.hid ha
  have HB := Lib.hid hb
  obtain ⟨pa, ca, rfl⟩ := ha.nil
  obtain ⟨pb, cb, rfl⟩ := hb.nil
  obtain ⟨U, hU⟩ : ∃ U, joF [] (mgL a b) = U := ⟨_, rfl⟩
  rw [hU]
  have HU := Lib.hid hU
  obtain ⟨N, hN⟩ : ∃ N, a.length = N := ⟨_, rfl⟩
  obtain ⟨M, hM⟩ : ∃ M, b.length = M := ⟨_, rfl⟩
  rw [hN] at hla HA ⊢
  rw [hM] at hlb HB ⊢
  have HN := Lib.hid hN
  have HM := Lib.hid hM
  obtain ⟨i0, hi0, hz0, hz1, hz2⟩ := info_parts info_spn
  have e1 : IntKind.i64.wrap ((N : Int) + (M : Int)) = (N : Int) + (M : Int) := IntWalk.i64_in _ (by omega)
  have hmk : 16 * (N + M) ≤ 281474976710656 ∧ N + M ≤ maxLen := ⟨by omega, by unfold maxLen; omega⟩
  clear ha hb hU hN hM
  go_enter Try.func30, Try.ntmps30
  go_wp2_with (at_make; refine wpList_make_own _ rfl _ _ 22 rfl w.heap.size 38 i0 (.agg #[.int .i64 0, .int .i64 0]) 2 Try.underlying22 hi0 hz0 hz1 .i64 .i64 _ (N + M) rfl rfl (by first | rfl | omega) (by rw [hz2]; exact hmk.1) hmk.2 (Nat.le_refl _) ?_)
  intro w1 own1 hg1
  have B1 := Lib.hid ((Below.refl w.heap.size w).grown hg1 (Nat.le_refl _) (fun j hj => by cases hj))
  have X1 := Lib.hid (box_made (N := N) (M := M) own1 B1.out)
  obtain ⟨bo, hbo⟩ : ∃ bo, w1.heap.size = bo := ⟨_, rfl⟩
  have hbB : w.heap.size ≤ bo := by rw [← hbo]; exact B1.out.size
  have Xs : Hid (bo < (w1.alloc (.cells #[.slice (some ⟨w.heap.size, 0, none⟩) 0 (N + M)] 22)).heap.size) := by unfold Hid; rw [size_alloc]; omega
  clear hg1 hmk own1 B1 e1
  go_wp2_with fail
  rw [hbo] at X1
  go_loopw [0, 1] (fun av bv wr => ∃ (a' b' O : List Spn), Hid (Spns w av a') ∧ Hid (Spns w bv b') ∧ Hid (BoxS wr bo w.heap.size O) ∧ Hid (Below w.heap.size w wr) ∧ O.length + a'.length + b'.length ≤ N + M ∧ Hid (joF O (mgL a' b') = U)) (fun av bv _ => slN av + slN bv)
  case atStart => exact ⟨a, b, [], HA.out, HB.out, X1.out.1, X1.out.2, by rw [HN.out, HM.out]; exact Nat.le_of_eq (by rw [List.length_nil]; omega), HU.out⟩
  case round =>
    clear X1 Xs HA HB HN HM HU
    obtain ⟨a', b', O, HA, HB, HX, hB, hlen, hU⟩ := hrel
    by_cases hx : 0 < a'.length ∧ 0 < b'.length
    · cases a' with
      | nil => exact absurd hx.1 (Nat.lt_irrefl _)
      | cons x ar =>
        cases b' with
        | nil => exact absurd hx.2 (Nat.lt_irrefl _)
        | cons y br =>
          obtain ⟨ba, oa, ka, rfl⟩ := HA.out.form
          obtain ⟨bb, ob, kb, rfl⟩ := HB.out.form
          obtain ⟨ta, -, hca, x0, x1, la⟩ := HA.out.tail
          obtain ⟨tb, -, hcb, y0, y1, lb⟩ := HB.out.tail
          rw [List.length_cons, List.length_cons] at hlen
          have TA := Lib.hid ta
          have TB := Lib.hid tb
          have SA : Hid (∀ W, Below w.heap.size w W → (W.cell? ⟨ba, oa, none⟩ = some (.int .i64 x.1) ∧ W.cell? ⟨ba, oa + 1, none⟩ = some (.int .i64 x.2)) ∧ W.cell? ⟨bb, ob, none⟩ = some (.int .i64 y.1) ∧ W.cell? ⟨bb, ob + 1, none⟩ = some (.int .i64 y.2)) := fun W h => ⟨⟨(h.cell la).trans x0, (h.cell la).trans x1⟩, ⟨(h.cell lb).trans y0, (h.cell lb).trans y1⟩⟩
          obtain ⟨⟨x0, x1⟩, ⟨y0, y1⟩⟩ := SA.out _ hB.out
          clear ta tb
          have hO2 : O.length ≤ 100000 := by omega
          have XD := Lib.hid (fun n => (show BoxS (wr.drewN n) bo w.heap.size O from HX.out))
          have BD := Lib.hid (fun n => below_drewN hB.out n)
          by_cases hxy : x.1 ≤ y.1
          · have hn := Lib.hid (by have := hU.out; rw [mg_le _ _ hxy, jo_ad] at this; exact this)
            have hal := Lib.hid (ad_len O x)
            obtain ⟨xp, xq⟩ := x
            obtain ⟨yp, yq⟩ := y
            simp only at x0 x1 y0 y1 hxy
            clear HX hB hU
            go_wp2_with fail
            go_quiet (fail)
            go_wp2_with fail
            refine (padd_any O xp xq bo w.heap.size _ (XD.out _) hbB hO2).mono ?_; rintro e w3 ⟨rfl, X3, B3⟩
            have X3 := Lib.hid X3
            have B3 := Lib.hid ((BD.out _).trans B3)
            clear XD BD SA x0 x1 y0 y1
            go_wp2_with fail
            exact ⟨⟨ar, (yp, yq) :: br, _, TA.out, HB.out, X3.out, B3.out, by rw [List.length_cons]; have := hal.out; omega, hn.out⟩, by show ar.length + (br.length + 1) < (ar.length + 1) + (br.length + 1); omega⟩
          · have hn := Lib.hid (by have := hU.out; rw [mg_gt _ _ hxy, jo_ad] at this; exact this)
            have hal := Lib.hid (ad_len O y)
            obtain ⟨xp, xq⟩ := x
            obtain ⟨yp, yq⟩ := y
            simp only at x0 x1 y0 y1 hxy
            clear HX hB hU
            go_wp2_with fail
            go_quiet (fail)
            go_wp2_with fail
            refine (padd_any O yp yq bo w.heap.size _ (XD.out _) hbB hO2).mono ?_; rintro e w3 ⟨rfl, X3, B3⟩
            have X3 := Lib.hid X3
            have B3 := Lib.hid ((BD.out _).trans B3)
            clear XD BD SA x0 x1 y0 y1
            go_wp2_with fail
            exact ⟨⟨(xp, xq) :: ar, br, _, HA.out, TB.out, X3.out, B3.out, by rw [List.length_cons]; have := hal.out; omega, hn.out⟩, by show (ar.length + 1) + br.length < (ar.length + 1) + (br.length + 1); omega⟩
    · have hmg := mg_or (a := a') (b := b') (by
        by_cases h0 : 0 < a'.length
        · exact Or.inr (List.eq_nil_of_length_eq_zero (by omega))
        · exact Or.inl (List.eq_nil_of_length_eq_zero (by omega)))
      have hU2 : Hid (joF O (a' ++ b') = U) := by have := hU.out; rw [hmg] at this; exact this
      obtain ⟨pa', ca', rfl⟩ := HA.out.nil
      obtain ⟨pb', cb', rfl⟩ := HB.out.nil
      obtain ⟨N', hN'⟩ : ∃ N', a'.length = N' := ⟨_, rfl⟩
      obtain ⟨M', hM'⟩ : ∃ M', b'.length = M' := ⟨_, rfl⟩
      rw [hN', hM'] at hlen hx
      rw [hN'] at HA ⊢
      rw [hM'] at HB ⊢
      have HN := Lib.hid hN'
      have HM := Lib.hid hM'
      clear hU hmg hN' hM'
      have hN1 : (N' : Int) ≤ 100000 := by omega
      have hM1 : (M' : Int) ≤ 100000 := by omega
      by_cases h0 : 0 < N'
      · have h1 : ¬ 0 < M' := by omega
        clear hx
        go_wp2_with fail
        go_loopw [51] (fun iv wr2 => ∃ (j : Nat) (O2 : List Spn), iv = .int .i64 (j : Int) ∧ j ≤ N' ∧ Hid (BoxS wr2 bo w.heap.size O2) ∧ Hid (Below w.heap.size w wr2) ∧ O2.length + (N' - j) + M' ≤ N + M ∧ Hid (joF O2 (a'.drop j ++ b') = U)) (fun iv _ => N' - (intOf iv).toNat)
        case atStart => exact ⟨0, _, rfl, Nat.zero_le _, HX.out, hB.out, by omega, hU2.out⟩
        case round =>
          clear HX hB hU2 hlen
          obtain ⟨j, O2, rfl, hj, HX, hB, hlen, hU2⟩ := hrel
          by_cases hlt : j < N'
          · have hlt' : (j : Int) < (N' : Int) := by omega
            obtain ⟨x, hx⟩ : ∃ x, a'[j]? = some x := ⟨_, List.getElem?_eq_getElem (by rw [HN.out]; exact hlt)⟩
            obtain ⟨ba, oa, c1, e1, a1⟩ := HA.out.open (by rw [HN.out]; omega)
            rw [HN.out] at e1
            simp only [Value.slice.injEq] at e1
            obtain ⟨rfl, -, rfl⟩ := e1
            obtain ⟨x0, x1⟩ := a1.at_ j x hx
            have la := a1.lt
            replace x0 := (hB.out.cell la).trans x0
            replace x1 := (hB.out.cell la).trans x1
            have hn := Lib.hid (by have := hU2.out; rw [drop_at hx, List.cons_append, jo_ad] at this; exact this)
            have hal := Lib.hid (ad_len O2 x)
            obtain ⟨xp, xq⟩ := x
            simp only at x0 x1
            have XA := Lib.hid (HX.out.below ((Below.refl wr.heap.size wr).alloc (Nat.le_refl _) (.cells #[.int .i64 xp, .int .i64 xq] 38)))
            have BA := Lib.hid (hB.out.alloc hB.out.size (.cells #[.int .i64 xp, .int .i64 xq] 38))
            have hO2 : O2.length ≤ 100000 := by omega
            clear hx a1 hU2 HX hB
            go_wp2_with fail
            refine (padd_any O2 xp xq bo w.heap.size _ XA.out hbB hO2).mono ?_; rintro e w3 ⟨rfl, X3, B3⟩
            have X3 := Lib.hid X3
            have B3 := Lib.hid (BA.out.trans B3)
            clear XA BA x0 x1
            go_wp2_with fail
            exact ⟨⟨j + 1, _, rfl, hlt, X3.out, B3.out, by have := hal.out; omega, hn.out⟩, by simp [intOf]; omega⟩
          · obtain rfl : j = N' := by omega
            have hlt' : ¬ (j : Int) < (j : Int) := by omega
            have hU2 : Hid (joF O2 b' = U) := by
              have := hU2.out
              rw [← HN.out, List.drop_length, List.nil_append] at this
              exact this
            go_wp2_with fail
            go_loopw [61] (fun iv wr2 => ∃ (j : Nat) (O2 : List Spn), iv = .int .i64 (j : Int) ∧ j ≤ M' ∧ Hid (BoxS wr2 bo w.heap.size O2) ∧ Hid (Below w.heap.size w wr2) ∧ O2.length + (M' - j) ≤ N + M ∧ Hid (joF O2 (b'.drop j) = U)) (fun iv _ => M' - (intOf iv).toNat)
            case atStart => exact ⟨0, _, rfl, Nat.zero_le _, HX.out, hB.out, by omega, hU2.out⟩
            case round =>
              clear HX hB hU2 hlen
              obtain ⟨j, O2, rfl, hj, HX, hB, hlen, hU2⟩ := hrel
              by_cases hlt : j < M'
              · have hlt' : (j : Int) < (M' : Int) := by omega
                exfalso; omega
              · obtain rfl : j = M' := by omega
                have hlt' : ¬ (j : Int) < (j : Int) := by omega
                have hf : Hid (O2 = U) := by
                  have := hU2.out
                  rw [← HM.out, List.drop_length, jo_end] at this
                  exact this
                obtain ⟨v, hv, own⟩ := HX.out
                have cv := cell_of_one hv
                have own := Lib.hid own
                rw [hf.out] at own
                clear hU2 HX hlen hv
                obtain ⟨pv, kv, rfl, -⟩ := own.out.shape
                go_wp2_with fail
                go_ret
                exact ⟨_, rfl, own.out, hB.out⟩
      · clear hx
        go_wp2_with fail
        go_loopw [51] (fun iv wr2 => ∃ (j : Nat) (O2 : List Spn), iv = .int .i64 (j : Int) ∧ j ≤ N' ∧ Hid (BoxS wr2 bo w.heap.size O2) ∧ Hid (Below w.heap.size w wr2) ∧ O2.length + (N' - j) + M' ≤ N + M ∧ Hid (joF O2 (a'.drop j ++ b') = U)) (fun iv _ => N' - (intOf iv).toNat)
        case atStart => exact ⟨0, _, rfl, Nat.zero_le _, HX.out, hB.out, by omega, hU2.out⟩
        case round =>
          clear HX hB hU2 hlen
          obtain ⟨j, O2, rfl, hj, HX, hB, hlen, hU2⟩ := hrel
          by_cases hlt : j < N'
          · have hlt' : (j : Int) < (N' : Int) := by omega
            exfalso; omega
          · obtain rfl : j = N' := by omega
            have hlt' : ¬ (j : Int) < (j : Int) := by omega
            have hU2 : Hid (joF O2 b' = U) := by
              have := hU2.out
              rw [← HN.out, List.drop_length, List.nil_append] at this
              exact this
            go_wp2_with fail
            go_loopw [61] (fun iv wr2 => ∃ (j : Nat) (O2 : List Spn), iv = .int .i64 (j : Int) ∧ j ≤ M' ∧ Hid (BoxS wr2 bo w.heap.size O2) ∧ Hid (Below w.heap.size w wr2) ∧ O2.length + (M' - j) ≤ N + M ∧ Hid (joF O2 (b'.drop j) = U)) (fun iv _ => M' - (intOf iv).toNat)
            case atStart => exact ⟨0, _, rfl, Nat.zero_le _, HX.out, hB.out, by omega, hU2.out⟩
            case round =>
              clear HX hB hU2 hlen
              obtain ⟨j, O2, rfl, hj, HX, hB, hlen, hU2⟩ := hrel
              by_cases hlt : j < M'
              · have hlt' : (j : Int) < (M' : Int) := by omega
                obtain ⟨x, hx⟩ : ∃ x, b'[j]? = some x := ⟨_, List.getElem?_eq_getElem (by rw [HM.out]; exact hlt)⟩
                obtain ⟨ba, oa, c1, e1, a1⟩ := HB.out.open (by rw [HM.out]; omega)
                rw [HM.out] at e1
                simp only [Value.slice.injEq] at e1
                obtain ⟨rfl, -, rfl⟩ := e1
                obtain ⟨x0, x1⟩ := a1.at_ j x hx
                have la := a1.lt
                replace x0 := (hB.out.cell la).trans x0
                replace x1 := (hB.out.cell la).trans x1
                have hn := Lib.hid (by have := hU2.out; rw [drop_at hx, jo_ad] at this; exact this)
                have hal := Lib.hid (ad_len O2 x)
                obtain ⟨xp, xq⟩ := x
                simp only at x0 x1
                have XA := Lib.hid (HX.out.below ((Below.refl wr.heap.size wr).alloc (Nat.le_refl _) (.cells #[.int .i64 xp, .int .i64 xq] 38)))
                have BA := Lib.hid (hB.out.alloc hB.out.size (.cells #[.int .i64 xp, .int .i64 xq] 38))
                have hO2 : O2.length ≤ 100000 := by omega
                clear hx a1 hU2 HX hB
                go_wp2_with fail
                refine (padd_any O2 xp xq bo w.heap.size _ XA.out hbB hO2).mono ?_; rintro e w3 ⟨rfl, X3, B3⟩
                have X3 := Lib.hid X3
                have B3 := Lib.hid (BA.out.trans B3)
                clear XA BA x0 x1
                go_wp2_with fail
                exact ⟨⟨j + 1, _, rfl, hlt, X3.out, B3.out, by have := hal.out; omega, hn.out⟩, by simp [intOf]; omega⟩
              · obtain rfl : j = M' := by omega
                have hlt' : ¬ (j : Int) < (j : Int) := by omega
                have hf : Hid (O2 = U) := by
                  have := hU2.out
                  rw [← HM.out, List.drop_length, jo_end] at this
                  exact this
                obtain ⟨v, hv, own⟩ := HX.out
                have cv := cell_of_one hv
                have own := Lib.hid own
                rw [hf.out] at own
                clear hU2 HX hlen hv
                obtain ⟨pv, kv, rfl, -⟩ := own.out.shape
                go_wp2_with fail
                go_ret
                exact ⟨_, rfl, own.out, hB.out⟩
end Go.Proofs.Ytmfhjgddpkecfaa.Sp
