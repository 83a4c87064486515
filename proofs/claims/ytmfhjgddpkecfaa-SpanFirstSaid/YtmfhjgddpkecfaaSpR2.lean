/-
  Contract of the reference of layer 8: Normal.
-/
import Derived.Test.YtmfhjgddpkecfaaSpR1
import Derived.Deep.RegionHeld
namespace Go.Proofs.Ytmfhjgddpkecfaa.Sp
open Go.RowKit

/-- Spans of the call's own. -/
def NoEnd (L : List Spn) (w : World) (e : Ending) (w' : World) : Prop := ∃ v, e = .returned v ∧ OwnS w' w.heap.size v L ∧ Below w.heap.size w w'
theorem OwnS.shape {w : World} {B : Nat} {v : Value} {l : List Spn} (h : OwnS w B v l) : ∃ p c, v = .slice p l.length c ∧ (0 < l.length → ∃ g, p = some ⟨g, 0, none⟩ ∧ B ≤ g ∧ g < w.heap.size) := by
  rcases h.form with ⟨rfl, rfl⟩ | ⟨g, c, rfl, h1, h2⟩
  · exact ⟨none, 0, rfl, fun h => absurd h (Nat.lt_irrefl _)⟩
  · exact ⟨_, c, rfl, fun _ => ⟨g, rfl, h1, h2⟩⟩
theorem sh_at {acc : List Spn} {j : Nat} {y : Spn} (h : j ≤ acc.length) : (shL acc j y)[j]? = some y := by
  unfold shL
  have hl : (acc.take j).length = j := by rw [List.length_take]; omega
  rw [List.getElem?_append_right (by omega), hl, Nat.sub_self]; rfl
theorem set_below {B g : Nat} {a w : World} (h : Below B a w) (hg : B ≤ g) (i : Nat) (u : Value) : Below B a (w.setCell ⟨g, i, none⟩ u) := h.setCell (p := ⟨g, i, none⟩) hg u
theorem cell_far {w : World} {g b : Nat} {i j : Nat} {u : Value} (h : b ≠ g) : (w.setCell ⟨g, i, none⟩ u).cell? ⟨b, j, none⟩ = w.cell? ⟨b, j, none⟩ := World.cell?_setCell_other _ _ _ _ (fun e => h (by cases e; rfl))
set_option maxHeartbeats 4000000 in
set_option maxRecDepth 100000 in
theorem rnormal_any (l : List Spn) (v : Value) (w : World) (hl : Spns w v l) (hll : l.length ≤ 100000) : Calls Try.prog 14 #[v] w (NoEnd (normL l) w) := by
  have HA := Lib.hid hl
  obtain ⟨pa, ca, rfl⟩ := hl.nil
  clear hl
  obtain ⟨S, hS⟩ : ∃ S, srtF [] l = S := ⟨_, rfl⟩
  obtain ⟨R, hR⟩ : ∃ R, normL l = R := ⟨_, rfl⟩
  have HJ : Hid (joF [] S = R) := by rw [← hS]; exact hR
  obtain ⟨N, hN⟩ : ∃ N, l.length = N := ⟨_, rfl⟩
  rw [hR]
  rw [hN] at hll HA ⊢
  have HN := Lib.hid hN
  have HS := Lib.hid hS
  obtain ⟨i0, hi0, hz0, hz1, hz2⟩ := info_parts info_spn
  clear hN hR hS
  go_enter Try.func14, Try.ntmps14
  go_wp2_with fail
  go_loopw [3, 4] (fun v i wr => ∃ (acc : List Spn) (j : Nat), i = .int .i64 (j : Int) ∧ j ≤ N ∧ acc.length ≤ j ∧ Hid (Below w.heap.size w wr) ∧ Hid (OwnS wr w.heap.size v acc) ∧ Hid (srtF acc (l.drop j) = S)) (fun _ i _ => N - (intOf i).toNat)
  case atStart => exact ⟨[], 0, rfl, Nat.zero_le _, Nat.zero_le _, Below.refl _ _, OwnS.nil _ _, HS.out⟩
  case round =>
    obtain ⟨acc, j, rfl, hj, hal, hB, hown, hst⟩ := hrel
    by_cases hlt : j < N
    · have hlt' : (j : Int) < (N : Int) := by omega
      obtain ⟨x, hx⟩ : ∃ x, l[j]? = some x := ⟨_, List.getElem?_eq_getElem (by rw [HN.out]; exact hlt)⟩
      obtain ⟨ba, oa, c1, e1, a1⟩ := HA.out.open (by rw [HN.out]; omega)
      rw [HN.out] at e1
      simp only [Value.slice.injEq] at e1
      obtain ⟨rfl, -, rfl⟩ := e1
      obtain ⟨x0, x1⟩ := a1.at_ j x hx
      have la := a1.lt
      have X0 := Lib.hid x0
      have X1 := Lib.hid x1
      replace x0 := (hB.out.cell la).trans x0
      replace x1 := (hB.out.cell la).trans x1
      by_cases hc : x.2 ≤ x.1
      · have hn := Lib.hid (srt_skip hx hc hst.out)
        have HB := Lib.hid (below_drewN hB.out 0)
        clear hst hx a1
        obtain ⟨p, q⟩ := x
        simp only at x0 x1 hc
        clear X0 X1 HB
        go_wp2_with fail
        go_quiet (fail)
        go_wp2_with fail
        exact ⟨⟨acc, j + 1, rfl, hlt, Nat.le_succ_of_le hal, below_drewN hB.out _, hown.out, hn.out⟩, by simp [intOf]; omega⟩
      · have hn := Lib.hid (srt_ins hx hc hst.out)
        have hil := Lib.hid (ins_len x acc)
        clear hst hx a1
        obtain ⟨p, q⟩ := x
        obtain ⟨pv, cv, rfl, hp⟩ := hown.out.shape
        have hp := Lib.hid hp
        simp only at x0 x1 hc X0 X1
        have hal2 : (acc.length : Int) ≤ 100000 := by omega
        go_wp2_with fail
        go_quiet (fail)
        go_wp2_with fail
        go_loopw [5] (fun kv wr2 => ∃ k : Nat, kv = .int .i64 (k : Int) ∧ k ≤ acc.length ∧ Hid (Below w.heap.size w wr2) ∧ Hid (OwnS wr2 w.heap.size (.slice pv acc.length cv) acc) ∧ Hid (ins (p, q) acc = acc.take k ++ ins (p, q) (acc.drop k))) (fun kv _ => acc.length - (intOf kv).toNat)
        case atStart => exact ⟨0, rfl, Nat.zero_le _, below_drewN hB.out _, hown.out, rfl⟩
        case round =>
          obtain ⟨k, rfl, hk, hB2, hown2, hins⟩ := hrel
          have y0 := (hB2.out.cell la).trans X0.out
          have y1 := (hB2.out.cell la).trans X1.out
          clear x0 x1
          by_cases hkl : k < acc.length
          · have hkl' : (k : Int) < (acc.length : Int) := by omega
            obtain ⟨y, hy⟩ : ∃ y, acc[k]? = some y := ⟨_, List.getElem?_eq_getElem hkl⟩
            obtain ⟨g, rfl, hg, -⟩ := hp.out (by omega)
            obtain ⟨z0, z1⟩ := hown2.out.at_ hy
            by_cases hyx : y.1 < p
            · have hins2 := Lib.hid (ins_next hy hyx hins.out)
              obtain ⟨yp, yq⟩ := y
              simp only at z0 z1 hyx
              clear hy hins
              go_wp2_with fail
              go_quiet (fail)
              go_wp2_with fail
              exact ⟨⟨k + 1, rfl, hkl, below_drewN hB2.out _, hown2.out, hins2.out⟩, by simp [intOf]; omega⟩
            · have hins2 : Hid (ins (p, q) acc = shL acc k (p, q)) := ins_stop hy hyx hins.out
              obtain ⟨yp, yq⟩ := y
              simp only at z0 z1 hyx
              clear hy
              have room := Lib.hid (room2 (n := acc.length) (by omega))
              have FB := Lib.hid (fun n => below_drewN hB2.out n)
              have FO := Lib.hid (fun n => (show OwnS (wr.drewN n) w.heap.size (.slice (some ⟨g, 0, none⟩) acc.length cv) acc from hown2.out))
              have ho := Lib.hid hown2.out
              clear hB2 hown2 hins
              go_wp2_with fail
              go_quiet (fail)
              go_wp2_with (at_builtin; refine wpList_append_own _ rfl _ _ 22 rfl w.heap.size 38 i0 (.agg #[.int .i64 0, .int .i64 0]) 2 16 Try.underlying22 hi0 hz0 hz1 hz2 rfl (by decide) _ _ _ rfl (OwnS.alloc (FO.out _) _) ⟨_, 0, none⟩ 1 1 [.int .i64 p, .int .i64 q] rfl rfl (news2 _ _ _) (ones2 _ _) room.out.1 room.out.2 ((FB.out _).alloc (FB.out _).size _).size ?_)
              intro v' w6 hown' hgrow _
              have k6 : Hid (Below w.heap.size w w6) := ((FB.out _).alloc (FB.out _).size _).grown hgrow ((FB.out _).alloc (FB.out _).size _).size (fun j hj => OwnS.lt ho.out j hj)
              have own6 : OwnS w6 w.heap.size v' (shL acc acc.length (p, q)) := by
                rw [← sh_start]
                exact OwnS.snoc hown'
              obtain ⟨p6, c6, rfl, hp6⟩ := own6.shape
              rw [sh_len acc _ (Nat.le_refl _)] at own6 hp6 ⊢
              obtain ⟨g6, rfl, hg6, -⟩ := hp6 (Nat.succ_pos _)
              have own6 := Lib.hid own6
              clear hown' hgrow ho FB FO room hp6
              go_wp2_with fail
              go_loopw [6] (fun jv wr3 => ∃ (m : Nat) (y : Spn), jv = .int .i64 (m : Int) ∧ k ≤ m ∧ m ≤ acc.length ∧ Hid (Below w.heap.size w wr3) ∧ Hid (OwnS wr3 w.heap.size (.slice (some ⟨g6, 0, none⟩) (acc.length + 1) c6) (shL acc m y))) (fun jv _ => (intOf jv).toNat)
              case atStart => exact ⟨acc.length, (p, q), rfl, hk, Nat.le_refl _, k6.out, own6.out⟩
              case round =>
                clear own6 k6
                obtain ⟨m, y, rfl, hkm, hm, hB3, hown3⟩ := hrel
                by_cases hgt : k < m
                · obtain ⟨m, rfl⟩ : ∃ n, m = n + 1 := ⟨m - 1, by omega⟩
                  have hgt' : (k : Int) < (m : Int) + 1 := by omega
                  obtain ⟨z, hz⟩ : ∃ z, acc[m]? = some z := ⟨_, List.getElem?_eq_getElem (by omega)⟩
                  obtain ⟨z0, z1⟩ := hown3.out.at_ (sh_get (y := y) hm hz)
                  obtain ⟨u0, u1⟩ := hown3.out.at_ (sh_at (y := y) hm)
                  have f0 := hown3.out.frozen ((m + 1) * 2)
                  have f1 := hown3.out.frozen ((m + 1) * 2 + 1)
                  have hset := Lib.hid (hown3.out.set (j := m + 1) (by rw [sh_len acc y hm]; omega) z)
                  have hbel := Lib.hid (set_below (set_below hB3.out hg6 ((m + 1) * 2) (.int .i64 z.1)) hg6 ((m + 1) * 2 + 1) (.int .i64 z.2))
                  rw [sh_step hm hz] at hset
                  obtain ⟨zp, zq⟩ := z
                  obtain ⟨yp, yq⟩ := y
                  simp only at z0 z1 u0 u1 hset hbel
                  have hm2 : (m : Int) < (acc.length : Int) := by omega
                  have hm3 : (m : Int) + 1 ≤ (acc.length : Int) := by omega
                  have hk2 := Lib.hid (show k ≤ m by omega)
                  have hm4 := Lib.hid (show m ≤ acc.length by omega)
                  clear hz hown3 hB3 hkm
                  go_wp2_with fail
                  exact ⟨⟨m, (zp, zq), rfl, hk2.out, hm4.out, hbel.out, hset.out⟩, by simp [intOf]⟩
                · obtain rfl : m = k := by omega
                  have hgt' : ¬ (m : Int) < (m : Int) := by omega
                  have x0 := (hB3.out.cell la).trans X0.out
                  have x1 := (hB3.out.cell la).trans X1.out
                  obtain ⟨u0, u1⟩ := hown3.out.at_ (sh_at (y := y) hm)
                  have f0 := hown3.out.frozen (m * 2)
                  have f1 := hown3.out.frozen (m * 2 + 1)
                  have hset := Lib.hid (hown3.out.set (j := m) (by rw [sh_len acc y hm]; omega) (p, q))
                  have hbel := Lib.hid (set_below (set_below hB3.out hg6 (m * 2) (.int .i64 p)) hg6 (m * 2 + 1) (.int .i64 q))
                  rw [sh_set acc y (p, q) hm, ← hins2.out] at hset
                  obtain ⟨yp, yq⟩ := y
                  simp only at u0 u1 hset hbel
                  have hm2 : (m : Int) < (acc.length : Int) + 1 := by omega
                  have hlen2 : Hid ((ins (p, q) acc).length ≤ j + 1) := by show _ ≤ _; rw [hil.out]; omega
                  clear hown3 hB3 hkm
                  go_wp2_with fail
                  exact ⟨⟨ins (p, q) acc, j + 1, rfl, hlt, hlen2.out, hbel.out, hset.out, hn.out⟩, by simp [intOf]; omega⟩
          · have hke : k = acc.length := by omega
            have hkl' : decide (k < acc.length) = false := decide_eq_false (by omega)
            have hins2 : Hid (ins (p, q) acc = shL acc k (p, q)) := by
              subst hke
              exact ins_end hins.out
            have room := Lib.hid (room2 (n := acc.length) (by omega))
            have FB := Lib.hid (fun n => below_drewN hB2.out n)
            have FO := Lib.hid (fun n => (show OwnS (wr.drewN n) w.heap.size (.slice pv acc.length cv) acc from hown2.out))
            have ho := Lib.hid hown2.out
            clear hB2 hown2 hins hke hkl
            go_wp2_with fail
            go_quiet (fail)
            go_wp2_with (at_builtin; refine wpList_append_own _ rfl _ _ 22 rfl w.heap.size 38 i0 (.agg #[.int .i64 0, .int .i64 0]) 2 16 Try.underlying22 hi0 hz0 hz1 hz2 rfl (by decide) _ _ _ rfl (OwnS.alloc (FO.out _) _) ⟨_, 0, none⟩ 1 1 [.int .i64 p, .int .i64 q] rfl rfl (news2 _ _ _) (ones2 _ _) room.out.1 room.out.2 ((FB.out _).alloc (FB.out _).size _).size ?_)
            intro v' w6 hown' hgrow _
            have k6 : Hid (Below w.heap.size w w6) := ((FB.out _).alloc (FB.out _).size _).grown hgrow ((FB.out _).alloc (FB.out _).size _).size (fun j hj => OwnS.lt ho.out j hj)
            have own6 : OwnS w6 w.heap.size v' (shL acc acc.length (p, q)) := by
              rw [← sh_start]
              exact OwnS.snoc hown'
            obtain ⟨p6, c6, rfl, hp6⟩ := own6.shape
            rw [sh_len acc _ (Nat.le_refl _)] at own6 hp6 ⊢
            obtain ⟨g6, rfl, hg6, -⟩ := hp6 (Nat.succ_pos _)
            have own6 := Lib.hid own6
            clear hown' hgrow ho FB FO room hp6
            go_wp2_with fail
            go_loopw [6] (fun jv wr3 => ∃ (m : Nat) (y : Spn), jv = .int .i64 (m : Int) ∧ k ≤ m ∧ m ≤ acc.length ∧ Hid (Below w.heap.size w wr3) ∧ Hid (OwnS wr3 w.heap.size (.slice (some ⟨g6, 0, none⟩) (acc.length + 1) c6) (shL acc m y))) (fun jv _ => (intOf jv).toNat)
            case atStart => exact ⟨acc.length, (p, q), rfl, hk, Nat.le_refl _, k6.out, own6.out⟩
            case round =>
              clear own6 k6
              obtain ⟨m, y, rfl, hkm, hm, hB3, hown3⟩ := hrel
              by_cases hgt : k < m
              · obtain ⟨m, rfl⟩ : ∃ n, m = n + 1 := ⟨m - 1, by omega⟩
                have hgt' : (k : Int) < (m : Int) + 1 := by omega
                obtain ⟨z, hz⟩ : ∃ z, acc[m]? = some z := ⟨_, List.getElem?_eq_getElem (by omega)⟩
                obtain ⟨z0, z1⟩ := hown3.out.at_ (sh_get (y := y) hm hz)
                obtain ⟨u0, u1⟩ := hown3.out.at_ (sh_at (y := y) hm)
                have f0 := hown3.out.frozen ((m + 1) * 2)
                have f1 := hown3.out.frozen ((m + 1) * 2 + 1)
                have hset := Lib.hid (hown3.out.set (j := m + 1) (by rw [sh_len acc y hm]; omega) z)
                have hbel := Lib.hid (set_below (set_below hB3.out hg6 ((m + 1) * 2) (.int .i64 z.1)) hg6 ((m + 1) * 2 + 1) (.int .i64 z.2))
                rw [sh_step hm hz] at hset
                obtain ⟨zp, zq⟩ := z
                obtain ⟨yp, yq⟩ := y
                simp only at z0 z1 u0 u1 hset hbel
                have hm2 : (m : Int) < (acc.length : Int) := by omega
                have hm3 : (m : Int) + 1 ≤ (acc.length : Int) := by omega
                have hk2 := Lib.hid (show k ≤ m by omega)
                have hm4 := Lib.hid (show m ≤ acc.length by omega)
                clear hz hown3 hB3 hkm
                go_wp2_with fail
                exact ⟨⟨m, (zp, zq), rfl, hk2.out, hm4.out, hbel.out, hset.out⟩, by simp [intOf]⟩
              · obtain rfl : m = k := by omega
                have hgt' : ¬ (m : Int) < (m : Int) := by omega
                have x0 := (hB3.out.cell la).trans X0.out
                have x1 := (hB3.out.cell la).trans X1.out
                obtain ⟨u0, u1⟩ := hown3.out.at_ (sh_at (y := y) hm)
                have f0 := hown3.out.frozen (m * 2)
                have f1 := hown3.out.frozen (m * 2 + 1)
                have hset := Lib.hid (hown3.out.set (j := m) (by rw [sh_len acc y hm]; omega) (p, q))
                have hbel := Lib.hid (set_below (set_below hB3.out hg6 (m * 2) (.int .i64 p)) hg6 (m * 2 + 1) (.int .i64 q))
                rw [sh_set acc y (p, q) hm, ← hins2.out] at hset
                obtain ⟨yp, yq⟩ := y
                simp only at u0 u1 hset hbel
                have hm2 : (m : Int) < (acc.length : Int) + 1 := by omega
                have hlen2 : Hid ((ins (p, q) acc).length ≤ j + 1) := by show _ ≤ _; rw [hil.out]; omega
                clear hown3 hB3 hkm
                go_wp2_with fail
                exact ⟨⟨ins (p, q) acc, j + 1, rfl, hlt, hlen2.out, hbel.out, hset.out, hn.out⟩, by simp [intOf]; omega⟩
    · obtain rfl : j = N := by omega
      have hlt' : ¬ (j : Int) < (j : Int) := by omega
      have hS := srt_done (show srtF acc (l.drop l.length) = S by rw [HN.out]; exact hst.out)
      subst hS
      rename World => W1
      obtain ⟨pv, cv, rfl, hp⟩ := hown.out.shape
      have hp := Lib.hid hp
      have hal2 : acc.length ≤ 100000 := by omega
      clear hst hlt hlt' HS
      go_wp2_with fail
      go_loopw [7, 8] (fun vo iv wr4 => ∃ (o : List Spn) (i : Nat), iv = .int .i64 (i : Int) ∧ i ≤ acc.length ∧ o.length ≤ i ∧ Hid (Below W1.heap.size W1 wr4) ∧ Hid (OwnS wr4 W1.heap.size vo o) ∧ Hid (joF o (acc.drop i) = R)) (fun _ iv _ => acc.length - (intOf iv).toNat)
      case atStart => exact ⟨[], 0, rfl, Nat.zero_le _, Nat.zero_le _, Below.refl _ _, OwnS.nil _ _, HJ.out⟩
      case round =>
        obtain ⟨o, i, rfl, hi, hol, hB4, hown4, hjo⟩ := hrel
        by_cases hlt4 : i < acc.length
        · have hlt4' : (i : Int) < (acc.length : Int) := by omega
          obtain ⟨x, hx⟩ : ∃ x, acc[i]? = some x := ⟨_, List.getElem?_eq_getElem hlt4⟩
          obtain ⟨g, rfl, hg, hgl⟩ := hp.out (by omega)
          obtain ⟨x0, x1⟩ := hown.out.at_ hx
          replace x0 := (hB4.out.cell hgl).trans x0
          replace x1 := (hB4.out.cell hgl).trans x1
          rcases List.eq_nil_or_concat o with rfl | ⟨d, c, rfl⟩
          · have hnx : Hid (joF [x] (acc.drop (i + 1)) = R) := by
              have := hjo.out
              rw [drop_at hx, jo_start] at this
              exact this
            obtain ⟨p4, c4, rfl, -⟩ := hown4.out.shape
            obtain ⟨p, q⟩ := x
            simp only [List.length_nil] at x0 x1 hol hown4 ⊢
            have room := Lib.hid (room2 (n := ([] : List Spn).length) (Nat.zero_le _))
            have FB := Lib.hid (fun n => below_drewN hB4.out n)
            have FO := Lib.hid (fun n => (show OwnS (wr.drewN n) W1.heap.size (.slice p4 0 c4) [] from hown4.out))
            clear hx hjo hB4
            go_wp2_with fail
            go_quiet (fail)
            go_wp2_with (at_builtin; refine wpList_append_own _ rfl _ _ 22 rfl W1.heap.size 38 i0 (.agg #[.int .i64 0, .int .i64 0]) 2 16 Try.underlying22 hi0 hz0 hz1 hz2 rfl (by decide) _ _ _ rfl (OwnS.alloc (FO.out _) _) ⟨_, 0, none⟩ 1 1 [.int .i64 p, .int .i64 q] rfl rfl (news2 _ _ _) (ones2 _ _) room.out.1 room.out.2 ((FB.out _).alloc (FB.out _).size _).size ?_)
            intro v' w6 hown' hgrow _
            have k6 : Hid (Below W1.heap.size W1 w6) := ((FB.out _).alloc (FB.out _).size _).grown hgrow ((FB.out _).alloc (FB.out _).size _).size (fun j hj => OwnS.lt hown4.out j hj)
            have own6 : Hid (OwnS w6 W1.heap.size v' ([] ++ [(p, q)])) := OwnS.snoc hown'
            clear hown' hgrow FB FO room hown4
            go_wp2_with fail
            exact ⟨⟨[(p, q)], i + 1, rfl, hlt4, by show 1 ≤ _; omega, k6.out, own6.out, hnx.out⟩, by simp [intOf]; omega⟩
          · rw [List.concat_eq_append] at hol hown4 hjo
            obtain ⟨p4, c4, rfl, hp4⟩ := hown4.out.shape
            have hdl : (d ++ [c]).length = d.length + 1 := by rw [List.length_append]; rfl
            rw [hdl] at hown4 hp4 hol ⊢
            obtain ⟨g4, rfl, hg4, hgl4⟩ := hp4 (Nat.succ_pos _)
            obtain ⟨z0, z1⟩ := hown4.out.at_ (get_last d c)
            have f1 := hown4.out.frozen (d.length * 2 + 1)
            have e0 : (0 : Int) ≤ (d.length : Int) := by omega
            have e1 : (d.length : Int) < (d.length : Int) + 1 := by omega
            have hd0 : (d.length : Int) ≤ 100000 := by omega
            by_cases hm : x.1 ≤ c.2
            · have hnx : Hid (joF (d ++ [(c.1, max c.2 x.2)]) (acc.drop (i + 1)) = R) := by
                have := hjo.out
                rw [drop_at hx, jo_merge hm] at this
                exact this
              have hM : max c.2 x.2 = if c.2 < x.2 then x.2 else c.2 := by split <;> omega
              rw [hM] at hnx
              have hset : Hid (∀ n, OwnS ((wr.drewN n).setCell ⟨g4, d.length * 2 + 1, none⟩ (.int .i64 (if c.2 < x.2 then x.2 else c.2))) W1.heap.size (.slice (some ⟨g4, 0, none⟩) (d.length + 1) c4) (d ++ [(c.1, if c.2 < x.2 then x.2 else c.2)])) := fun n => by
                have := OwnS.setB (w := wr.drewN n) hown4.out (get_last d c) (if c.2 < x.2 then x.2 else c.2)
                rw [set_last] at this
                exact this
              have hbel : Hid (∀ n, Below W1.heap.size W1 ((wr.drewN n).setCell ⟨g4, d.length * 2 + 1, none⟩ (.int .i64 (if c.2 < x.2 then x.2 else c.2)))) := fun n => set_below (below_drewN hB4.out n) hg4 (d.length * 2 + 1) _
              clear hM
              obtain ⟨p, q⟩ := x
              obtain ⟨cp, cq⟩ := c
              simp only at x0 x1 z0 z1 hm hset hbel hnx
              have hlen : Hid ((d ++ [(cp, if cq < q then q else cq)]).length ≤ i + 1) := by show _ ≤ _; rw [List.length_append]; show _ + 1 ≤ _; omega
              clear hx hjo hB4 hown4 hp4 hdl
              go_wp2_with fail
              go_quiet (fail)
              go_wp2_with fail
              go_region
              go_wp2_with fail
              exact ⟨⟨d ++ [(cp, if cq < q then q else cq)], i + 1, rfl, hlt4, hlen.out, hbel.out _, hset.out _, hnx.out⟩, by simp [intOf]; omega⟩
            · have hnx : Hid (joF (d ++ [c] ++ [x]) (acc.drop (i + 1)) = R) := by
                have := hjo.out
                rw [drop_at hx, jo_next hm] at this
                exact this
              have hlen : Hid ((d ++ [c] ++ [x]).length ≤ i + 1) := by show _ ≤ _; rw [List.length_append, hdl]; show _ + 1 + 1 ≤ _; omega
              have room := Lib.hid (room2 (n := (d ++ [c]).length) (by rw [hdl]; omega))
              obtain ⟨O, hO⟩ : ∃ O, d ++ [c] = O := ⟨_, rfl⟩
              rw [hO] at hown4 hnx hlen room
              have FB := Lib.hid (fun n => below_drewN hB4.out n)
              have FO := Lib.hid (fun n => (show OwnS (wr.drewN n) W1.heap.size (.slice (some ⟨g4, 0, none⟩) (d.length + 1) c4) O from hown4.out))
              have ho := Lib.hid hown4.out
              clear hO hdl
              obtain ⟨p, q⟩ := x
              obtain ⟨cp, cq⟩ := c
              simp only at x0 x1 z0 z1 hm hnx
              clear hx hjo hB4 hown4 hp4
              go_wp2_with fail
              go_quiet (fail)
              go_wp2_with (at_builtin; refine wpList_append_own _ rfl _ _ 22 rfl W1.heap.size 38 i0 (.agg #[.int .i64 0, .int .i64 0]) 2 16 Try.underlying22 hi0 hz0 hz1 hz2 rfl (by decide) _ _ _ rfl (OwnS.alloc (FO.out _) _) ⟨_, 0, none⟩ 1 1 [.int .i64 p, .int .i64 q] rfl rfl (news2 _ _ _) (ones2 _ _) room.out.1 room.out.2 ((FB.out _).alloc (FB.out _).size _).size ?_)
              intro v' w6 hown' hgrow _
              have k6 : Hid (Below W1.heap.size W1 w6) := ((FB.out _).alloc (FB.out _).size _).grown hgrow ((FB.out _).alloc (FB.out _).size _).size (fun j hj => OwnS.lt ho.out j hj)
              have own6 : Hid (OwnS w6 W1.heap.size v' (O ++ [(p, q)])) := OwnS.snoc hown'
              clear hown' hgrow FB FO room ho
              go_wp2_with fail
              exact ⟨⟨O ++ [(p, q)], i + 1, rfl, hlt4, hlen.out, k6.out, own6.out, hnx.out⟩, by simp [intOf]; omega⟩
        · obtain rfl : i = acc.length := by omega
          have hlt4' : ¬ (acc.length : Int) < (acc.length : Int) := by omega
          have he : o = R := by
            have := hjo.out
            rw [List.drop_length, jo_end] at this
            exact this
          subst he
          have hfin := Lib.hid (hown4.out.mono hB.out.size)
          have hbel := Lib.hid (hB.out.trans (hB4.out.mono hB.out.size))
          clear hjo hown4 hB4 hown hB hp
          go_wp2_with fail
          go_ret
          exact ⟨_, rfl, hfin.out, hbel.out⟩
end Go.Proofs.Ytmfhjgddpkecfaa.Sp
