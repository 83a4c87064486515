/-
  Contract of the program of layer 8: common.
-/
import Derived.Test.YtmfhjgddpkecfaaSpP4
import Derived.Deep.CutRange
import Derived.Deep.DeepCutAuto
namespace Go.Proofs.Ytmfhjgddpkecfaa.Sp
open Go.RowKit

theorem alloc_below (w : World) (o : Obj) : Below w.heap.size w (w.alloc o) := (Below.refl w.heap.size w).alloc (Nat.le_refl _) o
theorem big_alloc1 (w : World) (o : Obj) : w.heap.size < (w.alloc o).heap.size := by rw [size_alloc]; exact Nat.lt_succ_self _
set_option maxHeartbeats 4000000 in
set_option maxRecDepth 100000 in
theorem pcommon_any (a b : List Spn) (va vb : Value) (w : World) (ha : Spns w va a) (hb : Spns w vb b) (hla : a.length ≤ 20000) (hlb : b.length ≤ 20000) :
    Calls Try.prog 32 #[va, vb] w (NoEnd (coL a b) w) := by
  have HA := Lib.hid ha
  have HB := Lib.hid hb
  obtain ⟨pa, ca, rfl⟩ := ha.nil
  obtain ⟨pb, cb, rfl⟩ := hb.nil
  obtain ⟨U, hU⟩ : ∃ U, coL a b = U := ⟨_, rfl⟩
  rw [hU]
  have HU := Lib.hid hU
  have hl0 : a.length + b.length ≤ 40000 := by omega
  obtain ⟨N, hN⟩ : ∃ N, a.length = N := ⟨_, rfl⟩
  obtain ⟨M, hM⟩ : ∃ M, b.length = M := ⟨_, rfl⟩
  rw [hN] at HA hl0 ⊢
  rw [hM] at HB hl0 ⊢
  have HN := Lib.hid hN
  have HM := Lib.hid hM
  obtain ⟨i0, hi0, hz0, hz1, hz2⟩ := info_parts info_spn
  clear ha hb hU hN hM hla hlb
  go_enter Try.func32, Try.ntmps32
  go_wp2_with fail
  go_loopw [0, 1, 4] (fun av bv ov wr => ∃ (a' b' O : List Spn), Hid (Spns w av a') ∧ Hid (Spns w bv b') ∧ Hid (OwnS wr w.heap.size ov O) ∧ Hid (Below w.heap.size w wr) ∧ O.length + (a'.length + b'.length) ≤ 40000 ∧ Hid (O ++ coL a' b' = U)) (fun av bv _ _ => slN av + slN bv)
  case atStart => exact ⟨a, b, [], HA.out, HB.out, OwnS.nil _ _, Below.refl _ _, by rw [HN.out, HM.out, List.length_nil]; omega, HU.out⟩
  case round =>
    clear HA HB HN HM HU
    obtain ⟨a', b', O, HA, HB, HX, hB, hlen, hU⟩ := hrel
    by_cases hx : 0 < a'.length ∧ 0 < b'.length
    · cases a' with
      | nil => exact absurd hx.1 (Nat.lt_irrefl _)
      | cons x ar =>
        cases b' with
        | nil => exact absurd hx.2 (Nat.lt_irrefl _)
        | cons y br =>
          obtain ⟨ba, oa, ka, rfl⟩ := HA.out.form
          obtain ⟨bb, ob, kb, rfl⟩ := HB.out.form
          obtain ⟨ta, -, hca, x0, x1, la⟩ := HA.out.tail
          obtain ⟨tb, -, hcb, y0, y1, lb⟩ := HB.out.tail
          rw [List.length_cons, List.length_cons] at hlen
          have TA := Lib.hid ta
          have TB := Lib.hid tb
          have SA : Hid (∀ W, Below w.heap.size w W → (W.cell? ⟨ba, oa, none⟩ = some (.int .i64 x.1) ∧ W.cell? ⟨ba, oa + 1, none⟩ = some (.int .i64 x.2)) ∧ W.cell? ⟨bb, ob, none⟩ = some (.int .i64 y.1) ∧ W.cell? ⟨bb, ob + 1, none⟩ = some (.int .i64 y.2)) := fun W h => ⟨⟨(h.cell la).trans x0, (h.cell la).trans x1⟩, ⟨(h.cell lb).trans y0, (h.cell lb).trans y1⟩⟩
          obtain ⟨⟨x0, x1⟩, ⟨y0, y1⟩⟩ := SA.out _ hB.out
          have la' := Nat.lt_of_lt_of_le la hB.out.size
          have lb' := Nat.lt_of_lt_of_le lb hB.out.size
          clear ta tb
          rw [co_cons, ← List.append_assoc] at hU
          obtain ⟨xp, xq⟩ := x
          obtain ⟨yp, yq⟩ := y
          simp only at x0 x1 y0 y1 hU
          rw [max_if, min_if] at hU
          obtain ⟨P, hP⟩ : ∃ P, (if xp < yp then yp else xp) = P := ⟨_, rfl⟩
          obtain ⟨Q, hQ⟩ : ∃ Q, (if yq < xq then yq else xq) = Q := ⟨_, rfl⟩
          rw [hP, hQ] at hU
          clear hx
          obtain ⟨pv, cv, rfl, -⟩ := HX.out.shape
          go_upto_region 2 with fail
          go_cut [5] (fun s5 wx => s5 = .pointer (some ⟨wr.heap.size, 0, none⟩) ∧ Hid (Below wr.heap.size wr wx) ∧ wr.heap.size < wx.heap.size ∧ wx.cell? ⟨wr.heap.size, 0, none⟩ = some (.int .i64 P) ∧ wx.cell? ⟨wr.heap.size, 1, none⟩ = some (.int .i64 Q))
          case first =>
            clear SA TA TB HA HB HX hB hU
            go_region
            go_wp2_with fail
            go_meet
            exact ⟨rfl, (alloc_below wr _).drew, big_alloc1 wr _, World.cell?_alloc_mark wr #[.int .i64 P, .int .i64 Q] _ (0, 0) 0, World.cell?_alloc_mark wr #[.int .i64 P, .int .i64 Q] _ (0, 0) 1⟩
          case rest =>
            obtain ⟨rfl, hb1, hbs, s0, s1⟩ := hcut
            clear hP hQ x0 x1 y0 y1 la' lb'
            have FO := Lib.hid (HX.out.below hb1.out)
            have FB := Lib.hid (stepB hB.out hb1.out)
            have room := Lib.hid (room2 (n := O.length) (by omega))
            obtain ⟨⟨x0, x1⟩, ⟨y0, y1⟩⟩ := SA.out _ FB.out
            clear HX hB
            by_cases hs : P < Q
            · rw [if_pos hs] at hU
              go_wp2_with (at_builtin; refine wpList_append_own _ rfl _ _ 22 rfl w.heap.size 38 i0 (.agg #[.int .i64 0, .int .i64 0]) 2 16 Try.underlying22 hi0 hz0 hz1 hz2 rfl (by decide) _ _ _ rfl (OwnS.alloc FO.out _) ⟨_, 0, none⟩ 1 1 [.int .i64 P, .int .i64 Q] rfl rfl (news2 _ _ _) (ones2 _ _) room.out.1 room.out.2 (FB.out.alloc FB.out.size _).size ?_)
              intro v' w6 hown' hgrow _
              have B6 := Lib.hid ((FB.out.alloc FB.out.size _).grown hgrow (FB.out.alloc FB.out.size _).size (fun j hj => OwnS.lt FO.out j hj))
              have own6 : Hid (OwnS w6 w.heap.size v' (O ++ [(P, Q)])) := OwnS.snoc hown'
              clear x0 x1 y0 y1 s0 s1
              obtain ⟨⟨x0, x1⟩, ⟨y0, y1⟩⟩ := SA.out _ B6.out
              clear hown' hgrow room FO FB SA
              go_wp2_with fail
              by_cases hc : xq < yq
              · rw [if_pos hc] at hU
                go_wp2_with fail
                go_quiet (fail)
                go_wp2_with fail
                exact ⟨⟨ar, (yp, yq) :: br, O ++ [(P, Q)], TA.out, HB.out, own6.out, below_drewN B6.out _, by rw [List.length_append, show ([(P, Q)] : List Spn).length = 1 from rfl, List.length_cons]; omega, hU.out⟩, by show ar.length + (br.length + 1) < (ar.length + 1) + (br.length + 1); omega⟩
              · rw [if_neg hc] at hU
                go_wp2_with fail
                go_quiet (fail)
                go_wp2_with fail
                exact ⟨⟨(xp, xq) :: ar, br, O ++ [(P, Q)], HA.out, TB.out, own6.out, below_drewN B6.out _, by rw [List.length_append, show ([(P, Q)] : List Spn).length = 1 from rfl, List.length_cons]; omega, hU.out⟩, by show (ar.length + 1) + br.length < (ar.length + 1) + (br.length + 1); omega⟩
            · rw [if_neg hs, List.append_nil] at hU
              clear room SA
              by_cases hc : xq < yq
              · rw [if_pos hc] at hU
                go_wp2_with fail
                go_quiet (fail)
                go_wp2_with fail
                exact ⟨⟨ar, (yp, yq) :: br, O, TA.out, HB.out, FO.out, below_drewN FB.out _, by rw [List.length_cons]; omega, hU.out⟩, by show ar.length + (br.length + 1) < (ar.length + 1) + (br.length + 1); omega⟩
              · rw [if_neg hc] at hU
                go_wp2_with fail
                go_quiet (fail)
                go_wp2_with fail
                exact ⟨⟨(xp, xq) :: ar, br, O, HA.out, TB.out, FO.out, below_drewN FB.out _, by rw [List.length_cons]; omega, hU.out⟩, by show (ar.length + 1) + br.length < (ar.length + 1) + (br.length + 1); omega⟩
    · have hnil : coL a' b' = [] := by
        by_cases h0 : 0 < a'.length
        · rw [List.eq_nil_of_length_eq_zero (show b'.length = 0 by omega), co_nil2]
        · rw [List.eq_nil_of_length_eq_zero (show a'.length = 0 by omega), co_nil]
      rw [hnil, List.append_nil] at hU
      have hO := Lib.hid hU.out
      obtain ⟨pa', ca', rfl⟩ := HA.out.nil
      obtain ⟨pb', cb', rfl⟩ := HB.out.nil
      rw [hO.out] at HX
      obtain ⟨pv, cv, rfl, -⟩ := HX.out.shape
      clear hU hnil hlen hO HA HB
      obtain ⟨N', hN'⟩ : ∃ N', a'.length = N' := ⟨_, rfl⟩
      obtain ⟨M', hM'⟩ : ∃ M', b'.length = M' := ⟨_, rfl⟩
      rw [hN', hM'] at hx ⊢
      clear hN' hM'
      by_cases h0 : 0 < N'
      · have h1 : ¬ 0 < M' := by omega
        clear hx
        go_wp2_with fail
        go_ret
        exact ⟨_, rfl, HX.out, hB.out⟩
      · clear hx
        go_wp2_with fail
        go_ret
        exact ⟨_, rfl, HX.out, hB.out⟩
end Go.Proofs.Ytmfhjgddpkecfaa.Sp
