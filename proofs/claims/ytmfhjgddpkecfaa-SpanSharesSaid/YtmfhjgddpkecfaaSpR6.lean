/-
  Contracts of the reference of layer 8: Minus, Gaps.
-/
import Derived.Test.YtmfhjgddpkecfaaSpR5
namespace Go.Proofs.Ytmfhjgddpkecfaa.Sp
open Go.RowKit

theorem cut_next {L : List Spn} {i : Nat} {x y : Spn} (h : L[i]? = some x) : cutL (L.take (i + 1)) y = cutL (L.take i) y ++ [(x.1, if y.1 < x.2 then y.1 else x.2)] ++ [(if x.1 < y.2 then y.2 else x.1, x.2)] := by
  rw [take_at h, List.append_assoc]
  show List.flatMap _ (_ ++ [x]) = _
  rw [List.flatMap_append]
  show _ ++ [(x.1, min x.2 y.1), (max x.1 y.2, x.2)] = _
  rw [max_if, min_if]; rfl
theorem cut_size : ∀ (L : List Spn) (y : Spn), (cutL L y).length = L.length * 2
  | [], _ => rfl
  | x :: L, y => by
    show ([_, _] ++ cutL L y).length = (L.length + 1) * 2
    rw [List.length_append, cut_size L y]; show 2 + _ = _; omega
theorem min_skip {L b : List Spn} {k : Nat} {y : Spn} {R : List Spn} (hy : b[k]? = some y) (h : y.2 ≤ y.1) (e : minF L (b.drop k) = R) : minF L (b.drop (k + 1)) = R := by
  rw [drop_at hy, minF, if_pos h] at e; exact e
theorem min_cut {L b : List Spn} {k : Nat} {y : Spn} {R : List Spn} (hy : b[k]? = some y) (h : ¬ y.2 ≤ y.1) (e : minF L (b.drop k) = R) : minF (normL (cutL L y)) (b.drop (k + 1)) = R := by
  rw [drop_at hy, minF, if_neg h] at e; exact e
theorem min_done {L b R : List Spn} (e : minF L (b.drop b.length) = R) : L = R := by
  rw [List.drop_length, minF] at e; exact e
set_option maxHeartbeats 4000000 in
set_option maxRecDepth 100000 in
theorem rminus_any (a b : List Spn) (va vb : Value) (w : World) (ha : Spns w va a) (hb : Spns w vb b) (hla : a.length ≤ 300) (hlb : b.length ≤ 300) :
    Calls Try.prog 24 #[va, vb] w (NoEnd (minusL a b) w) := by
  have c0 := Lib.hid (rnormal_any a va w ha (by omega))
  have c1 := Lib.hid (fun v W (L : List Spn) (h : Spns W v L) (hl : L.length ≤ 100000) => rnormal_any L v W h hl)
  obtain ⟨R, hR⟩ : ∃ R, minusL a b = R := ⟨_, rfl⟩
  rw [hR]
  have HR : Hid (minF (normL a) (b.drop 0) = R) := hR
  have hnl := norm_len a
  have hnc := Lib.hid (norm_canon a)
  have HB := Lib.hid hb
  obtain ⟨pa, ca, rfl⟩ := ha.nil
  obtain ⟨pb, cb, rfl⟩ := hb.nil
  obtain ⟨M, hM⟩ : ∃ M, b.length = M := ⟨_, rfl⟩
  rw [hM] at hlb HB ⊢
  have HM := Lib.hid hM
  obtain ⟨i0, hi0, hz0, hz1, hz2⟩ := info_parts info_spn
  generalize normL a = C at c0 HR hnl hnc
  have hnl2 : C.length ≤ 300 := by omega
  obtain ⟨N, hN⟩ : ∃ N, a.length = N := ⟨_, rfl⟩
  rw [hN] at c0 ⊢
  clear hR ha hb hM hnl hla hN
  go_enter Try.func24, Try.ntmps24
  go_wp2_with fail
  refine c0.out.mono ?_; rintro e w1 ⟨v1, rfl, own1, k1⟩
  have own1 := Lib.hid own1
  have k1 := Lib.hid k1
  clear c0
  go_wp2_with fail
  go_loopw [5, 6] (fun v kv wr => ∃ (L : List Spn) (k : Nat), kv = .int .i64 (k : Int) ∧ k ≤ M ∧ L.length ≤ 300 + k ∧ Hid (Canon L) ∧ Hid (Below w.heap.size w wr) ∧ Hid (OwnS wr w.heap.size v L) ∧ Hid (minF L (b.drop k) = R)) (fun _ kv _ => M - (intOf kv).toNat)
  case atStart => exact ⟨C, 0, rfl, Nat.zero_le _, hnl2, hnc.out, k1.out, own1.out, HR.out⟩
  case round =>
    clear own1 k1 HR hnc hnl2
    obtain ⟨L, k, rfl, hk, hlL, hcan, hB, hown, hf⟩ := hrel
    rename World => W1
    by_cases hlt : k < M
    · have hlt' : (k : Int) < (M : Int) := by omega
      obtain ⟨y, hy⟩ : ∃ y, b[k]? = some y := ⟨_, List.getElem?_eq_getElem (by rw [HM.out]; exact hlt)⟩
      obtain ⟨bb, ob, c2', e2, a2⟩ := HB.out.open (by rw [HM.out]; omega)
      rw [HM.out] at e2
      simp only [Value.slice.injEq] at e2
      obtain ⟨rfl, -, rfl⟩ := e2
      obtain ⟨y0, y1⟩ := a2.at_ k y hy
      have lb := Nat.lt_of_lt_of_le a2.lt hB.out.size
      replace y0 := (hB.out.cell a2.lt).trans y0
      replace y1 := (hB.out.cell a2.lt).trans y1
      have skip := Lib.hid (fun h => min_skip hy h hf.out)
      have cut := Lib.hid (fun h => min_cut hy h hf.out)
      clear hf hy a2
      by_cases hc : y.2 ≤ y.1
      · have hn := Lib.hid (skip.out hc)
        obtain ⟨yp, yq⟩ := y
        simp only at y0 y1 hc
        clear skip cut
        go_wp2_with fail
        go_quiet (fail)
        go_wp2_with fail
        exact ⟨⟨L, k + 1, rfl, hlt, by omega, hcan.out, below_drewN hB.out _, hown.out, hn.out⟩, by simp [intOf]; omega⟩
      · have hn := Lib.hid (cut.out hc)
        have hyy : y.1 < y.2 := by omega
        have hl2 := Lib.hid (cut_len hyy hcan.out)
        have hcn := Lib.hid (norm_canon (cutL L y))
        have Y0 := Lib.hid y0
        have Y1 := Lib.hid y1
        have HO := Lib.hid hown.out
        obtain ⟨pL, cL, rfl, hpL⟩ := hown.out.shape
        have hpL := Lib.hid hpL
        obtain ⟨yp, yq⟩ := y
        simp only at y0 y1 hc Y0 Y1
        have hLb : (L.length : Int) ≤ 600 := by omega
        clear skip cut hyy hown
        go_wp2_with fail
        go_quiet (fail)
        go_wp2_with fail
        go_loopw [7, 8] (fun v iv wr2 => ∃ (i : Nat), iv = .int .i64 (i : Int) ∧ i ≤ L.length ∧ Hid (Below W1.heap.size W1 wr2) ∧ Hid (OwnS wr2 W1.heap.size v (cutL (L.take i) (yp, yq)))) (fun _ iv _ => L.length - (intOf iv).toNat)
        case atStart => exact ⟨0, rfl, Nat.zero_le _, below_drewN (Below.refl _ _) _, OwnS.nil _ _⟩
        case round =>
          clear y0 y1
          obtain ⟨i, rfl, hi, hB2, hown2⟩ := hrel
          by_cases hlt2 : i < L.length
          · have hlt2' : (i : Int) < (L.length : Int) := by omega
            obtain ⟨x, hx⟩ : ∃ x, L[i]? = some x := ⟨_, List.getElem?_eq_getElem hlt2⟩
            obtain ⟨g, rfl, -, hgl⟩ := hpL.out (by omega)
            have X := Lib.hid (HO.out.at_ hx)
            have hnn := Lib.hid (cut_next (y := (yp, yq)) hx)
            have hsz : (cutL (L.take i) (yp, yq)).length ≤ 1200 := by rw [cut_size, List.length_take]; omega
            obtain ⟨acc, hacc⟩ : ∃ acc, cutL (L.take i) (yp, yq) = acc := ⟨_, rfl⟩
            rw [hacc] at hown2 hnn hsz
            obtain ⟨xp, xq⟩ := x
            simp only at X hnn
            have room := Lib.hid (room2 (n := acc.length) (by omega))
            have roomB := Lib.hid (room2 (n := (acc ++ [(xp, if yp < xq then yp else xq)]).length) (by rw [List.length_append]; show _ + 1 ≤ _; omega))
            obtain ⟨acc2, hacc2⟩ : ∃ acc2, acc ++ [(xp, if yp < xq then yp else xq)] = acc2 := ⟨_, rfl⟩
            rw [hacc2] at hnn roomB
            have BD := Lib.hid (stepB hB2.out (below_drew (w := wr)))
            have ownD := Lib.hid hown2.out.drewD
            have hacc2 := Lib.hid hacc2
            have SA : Hid (∀ W, Below W1.heap.size W1 W → (W.cell? ⟨g, i * 2, none⟩ = some (.int .i64 xp) ∧ W.cell? ⟨g, i * 2 + 1, none⟩ = some (.int .i64 xq) ∧ W.cell? ⟨bb, ob + k * 2, none⟩ = some (.int .i64 yp) ∧ W.cell? ⟨bb, ob + k * 2 + 1, none⟩ = some (.int .i64 yq)) ∧ Below W1.heap.size W1 W) := fun W h => ⟨⟨(h.cell hgl).trans X.out.1, (h.cell hgl).trans X.out.2, (h.cell lb).trans Y0.out, (h.cell lb).trans Y1.out⟩, h⟩
            clear hacc hx hown2 hB2 hsz
            go_wp2_with fail
            go_region_held3 (fun W => (W.cell? ⟨g, i * 2, none⟩ = some (.int .i64 xp) ∧ W.cell? ⟨g, i * 2 + 1, none⟩ = some (.int .i64 xq) ∧ W.cell? ⟨bb, ob + k * 2, none⟩ = some (.int .i64 yp) ∧ W.cell? ⟨bb, ob + k * 2 + 1, none⟩ = some (.int .i64 yq)) ∧ Below W1.heap.size W1 W) (first | exact SA.out _ B6.out | exact SA.out _ (BD.out.alloc BD.out.size _) | exact SA.out _ BD.out)
              (first | (refine step_append_lies _ (by rfl) _ _ 22 (by rfl) W1.heap.size 38 i0 (.agg #[.int .i64 0, .int .i64 0]) 2 16 Try.underlying22 hi0 hz0 hz1 hz2 rfl (by decide) _ _ _ (by rfl) (ownD.out.alloc _) ⟨_, 0, none⟩ 1 1 [_, _] (by rfl) (by rfl) (news2 _ _ _) (ones2 _ _) (by decide) room.out.1 room.out.2 (BD.out.alloc BD.out.size _).size _ rfl ?_; intro g6 c6 w6 own6 hgrow _ _; have B6 : Hid (Below W1.heap.size W1 w6) := (BD.out.alloc BD.out.size _).grown hgrow (BD.out.alloc BD.out.size _).size (fun j hj => OwnS.lt ownD.out j hj)))
            all_goals (
              have own7 := Lib.hid (((OwnS.snoc (x := (xp, if yp < xq then yp else xq)) own6).eq hacc2.out).drewD)
              have BE := Lib.hid (stepB B6.out (below_drew (w := w6)))
              clear own6 hgrow ownD BD
              go_wp2_with fail
              all_goals (
                go_region_held3 (fun W => (W.cell? ⟨g, i * 2, none⟩ = some (.int .i64 xp) ∧ W.cell? ⟨g, i * 2 + 1, none⟩ = some (.int .i64 xq) ∧ W.cell? ⟨bb, ob + k * 2, none⟩ = some (.int .i64 yp) ∧ W.cell? ⟨bb, ob + k * 2 + 1, none⟩ = some (.int .i64 yq)) ∧ Below W1.heap.size W1 W) (first | exact SA.out _ B8.out | exact SA.out _ (BE.out.alloc BE.out.size _) | exact SA.out _ BE.out)
                  (first | (refine step_append_lies _ (by rfl) _ _ 22 (by rfl) W1.heap.size 38 i0 (.agg #[.int .i64 0, .int .i64 0]) 2 16 Try.underlying22 hi0 hz0 hz1 hz2 rfl (by decide) _ _ _ (by rfl) (own7.out.alloc _) ⟨_, 0, none⟩ 1 1 [_, _] (by rfl) (by rfl) (news2 _ _ _) (ones2 _ _) (by decide) roomB.out.1 roomB.out.2 (BE.out.alloc BE.out.size _).size _ rfl ?_; intro g8 c8 w8 own8 hgrow _ _; have B8 : Hid (Below W1.heap.size W1 w8) := (BE.out.alloc BE.out.size _).grown hgrow (BE.out.alloc BE.out.size _).size (fun j hj => OwnS.lt own7.out j hj)))
                all_goals (
                  have hfin := Lib.hid ((OwnS.snoc (x := (if xp < yq then yq else xp, xq)) own8).eq hnn.out.symm)
                  clear own8 hgrow
                  go_wp2_with fail
                  exact ⟨⟨i + 1, rfl, hlt2, B8.out, hfin.out⟩, by simp [intOf]; omega⟩)))
          · obtain rfl : i = L.length := by omega
            have hlt2' : ¬ (L.length : Int) < (L.length : Int) := by omega
            have hown3 := hown2.out
            rw [List.take_length] at hown3
            have hcs := cut_size L (yp, yq)
            have hown3 := Lib.hid hown3
            have hBw := Lib.hid (stepB hB.out hB2.out)
            have hlen3 : Hid ((normL (cutL L (yp, yq))).length ≤ 300 + (k + 1)) := by have := hl2.out; show _ ≤ _; omega
            have hcs2 := Lib.hid (show (cutL L (yp, yq)).length ≤ 100000 by omega)
            clear hown2 hcs hl2
            go_wp2_with fail
            refine (c1.out _ _ _ hown3.out.spns hcs2.out).mono ?_; rintro e w7 ⟨v7, rfl, own7, k7⟩
            have hfo := Lib.hid (own7.mono hBw.out.size)
            have hB3 := Lib.hid (stepB hBw.out k7)
            clear own7
            go_wp2_with fail
            exact ⟨⟨_, k + 1, rfl, hlt, hlen3.out, hcn.out, hB3.out, hfo.out, hn.out⟩, by simp [intOf]; omega⟩
    · obtain rfl : k = M := by omega
      have hlt' : ¬ (k : Int) < (k : Int) := by omega
      have he := min_done (show minF L (b.drop b.length) = R by rw [HM.out]; exact hf.out)
      subst he
      clear hf
      go_wp2_with fail
      go_ret
      exact ⟨_, rfl, hown.out, hB.out⟩
end Go.Proofs.Ytmfhjgddpkecfaa.Sp
