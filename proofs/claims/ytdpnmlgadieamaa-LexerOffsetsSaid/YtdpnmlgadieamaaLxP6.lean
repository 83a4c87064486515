/-
  Contracts of the program of layer 7: written, Print.
-/
import Derived.Test.YtdpnmlgadieamaaLxP5
import Derived.Lib.AppendStr
namespace Go.Proofs.Ytdpnmlgadieamaa.Lx
open Go.RowKit

theorem pcO_len {x : LexI} (ht : x.t.length ≤ 20000) : ((pcO x).getD []).length ≤ 40010 := by
  have hq := qb_len x.t
  have ht2 := textL_len x.n
  unfold pcO
  split
  · show x.t.length ≤ _; omega
  · split
    · show x.t.length ≤ _; omega
    · split
      · show (textL x.n).length ≤ _; omega
      · split
        · split
          · show (34 :: (qb x.t ++ [34])).length ≤ _
            rw [List.length_cons, List.length_append]
            show _ + 1 + 1 ≤ _
            omega
          · exact Nat.zero_le _
        · exact Nat.zero_le _
def WrEnd (x : LexI) (w : World) (e : Ending) (w' : World) : Prop := e = .returned (.tuple #[.string (toS ((pcO x).getD [])), .bool (pcO x).isSome]) ∧ Below w.heap.size w w'
theorem ret_sb {a a' : ByteArray} {b b' : Bool} (h1 : a = a') (h2 : b = b') : Ending.returned (.tuple #[.string a, .bool b]) = .returned (.tuple #[.string a', .bool b']) := by rw [h1, h2]
set_option maxHeartbeats 1000000 in
set_option maxRecDepth 100000 in
theorem pwritten_any (x : LexI) (w : World) (ht : x.t.length ≤ 20000) (hn : In64 x.n) : Calls Try.prog 28 #[.agg (lxL x.k (toS x.t) x.n x.a)] w (WrEnd x w) := by
  obtain ⟨k, t, n, a⟩ := x
  have c1 := Lib.hid (fun w => pdecimal_any n w hn.1 hn.2)
  have c2 := Lib.hid (fun w => qQuote_any (toS t) w (by rw [toS_size]; show t.length ≤ _; have : t.length ≤ 20000 := ht; omega))
  rw [data_toS] at c2
  unfold QtEnd at c2
  have hB0 := (Below.refl w.heap.size w).alloc (Nat.le_refl _) (.cells (lxL k (toS t) n a) 35)
  show Calls Try.prog 28 #[.agg (lxL k (toS t) n a)] w _
  unfold WrEnd
  obtain ⟨X, hX⟩ : ∃ X, toS t = X := ⟨_, rfl⟩
  rw [hX] at hB0 c2 ⊢
  have HX := Lib.hid hX
  by_cases k1 : k = 1
  · have F := Lib.hid (show pcO ⟨k, t, n, a⟩ = some t by unfold pcO; rw [if_pos k1])
    rw [F.out]
    subst k1
    clear ht hn F c1 c2
    go_enter Try.func28, Try.ntmps28
    go_wp2_with fail
    (try simp only [Exit.inBlock, Exit.then]); refine bodyPost_ret (results_tmp2 rfl _ _ _) rfl ?_
    exact ⟨ret_sb (by rw [← HX.out]; rfl) rfl, hB0⟩
  · have b1 : (k == 1) = false := beq_false_of_ne k1
    by_cases k4 : k = 4
    · have F := Lib.hid (show pcO ⟨k, t, n, a⟩ = some t by unfold pcO; rw [if_neg k1, if_pos k4])
      rw [F.out]
      subst k4
      clear ht hn F c1 c2
      go_enter Try.func28, Try.ntmps28
      go_wp2_with fail
      (try simp only [Exit.inBlock, Exit.then]); refine bodyPost_ret (results_tmp2 rfl _ _ _) rfl ?_
      exact ⟨ret_sb (by rw [← HX.out]; rfl) rfl, hB0⟩
    · have b4 : (k == 4) = false := beq_false_of_ne k4
      by_cases k2 : k = 2
      · have F := Lib.hid (show pcO ⟨k, t, n, a⟩ = some (textL n) by unfold pcO; rw [if_neg k1, if_neg k4, if_pos k2])
        rw [F.out]
        subst k2
        clear ht hn F c2
        go_enter Try.func28, Try.ntmps28
        go_wp2_with fail
        refine (c1.out _).mono ?_; rintro e w1 ⟨rfl, m1⟩
        go_wp2_with fail
        (try simp only [Exit.inBlock, Exit.then]); refine bodyPost_ret (results_tmp2 rfl _ _ _) rfl ?_
        exact ⟨ret_sb rfl rfl, stepB hB0 m1⟩
      · have b2 : (k == 2) = false := beq_false_of_ne k2
        by_cases k3 : k = 3
        · have F := Lib.hid (show pcO ⟨k, t, n, a⟩ = if qok t = true then some (34 :: (qb t ++ [34])) else none by unfold pcO; rw [if_neg k1, if_neg k4, if_neg k2, if_pos k3])
          rw [F.out]
          subst k3
          unfold qtV qtE at c2
          clear ht hn F c1
          by_cases hq : qok t = true
          · rw [if_pos hq, if_pos hq] at c2
            rw [if_pos hq]
            clear hq
            go_enter Try.func28, Try.ntmps28
            go_wp2_with fail
            refine (c2.out _).mono ?_; rintro e w1 ⟨rfl, m1⟩
            go_wp2_with fail
            (try simp only [Exit.inBlock, Exit.then]); refine bodyPost_ret (results_tmp2 rfl _ _ _) rfl ?_
            exact ⟨ret_sb rfl rfl, stepB hB0 m1⟩
          · rw [if_neg hq, if_neg hq] at c2
            rw [if_neg hq]
            clear hq
            go_enter Try.func28, Try.ntmps28
            go_wp2_with fail
            refine (c2.out _).mono ?_; rintro e w1 ⟨rfl, m1⟩
            go_wp2_with fail
            (try simp only [Exit.inBlock, Exit.then]); refine bodyPost_ret (results_tmp2 rfl _ _ _) rfl ?_
            exact ⟨ret_sb rfl rfl, stepB hB0 m1⟩
        · have b3 : (k == 3) = false := beq_false_of_ne k3
          have F := Lib.hid (show pcO ⟨k, t, n, a⟩ = none by unfold pcO; rw [if_neg k1, if_neg k4, if_neg k2, if_neg k3])
          rw [F.out]
          clear ht hn F c1 c2
          go_enter Try.func28, Try.ntmps28
          go_wp2_with fail
          (try simp only [Exit.inBlock, Exit.then]); refine bodyPost_ret (results_tmp2 rfl _ _ _) rfl ?_
          exact ⟨ret_sb rfl rfl, hB0⟩
theorem room_str {n m : Nat} (h1 : n ≤ 1000000000) (h2 : m ≤ 40010) : n + m ≤ maxLen ∧ n + m ≤ 140737488355328 := ⟨by unfold maxLen; omega, by omega⟩
theorem room1_big {n : Nat} (h : n ≤ 1000000000) : n + 1 ≤ maxLen ∧ (n + 1) * 1 ≤ 140737488355328 := ⟨by unfold maxLen; omega, by omega⟩
theorem OwnB.text {w : World} {B : Nat} {v : Value} {o t : List UInt8} (h : w.ownsRow B 5 1 v (o.length + (toS t).size) (bytC o ++ Lib.strCells (toS t))) : OwnB w B v (o ++ t) := by
  unfold OwnB
  rw [List.length_append, bytC_app, ← toS_size t]
  exact h
theorem prF_nothing {acc : List UInt8} {f : Bool} {l : List LexI} {j : Nat} {x : LexI} {R : List UInt8} (hj : l[j]? = some x) (hR : prF acc f (l.drop j) = R) (h : (pcO x).isSome = false) : prF acc f (l.drop (j + 1)) = R := by
  refine prF_none hj ?_ hR
  cases hh : pcO x with
  | none => rfl
  | some _ => rw [hh] at h; exact Bool.noConfusion h
theorem prF_text {acc : List UInt8} {f : Bool} {l : List LexI} {j : Nat} {x : LexI} {R : List UInt8} (hj : l[j]? = some x) (hR : prF acc f (l.drop j) = R) (h : (pcO x).isSome = true) : prF (acc ++ (if f = true then [32] else []) ++ (pcO x).getD []) true (l.drop (j + 1)) = R := by
  cases hh : pcO x with
  | none => rw [hh] at h; exact absurd h (by decide)
  | some t => exact prF_some hj hh hR
set_option maxHeartbeats 4000000 in
set_option maxRecDepth 100000 in
theorem qPrint_any (l : List LexI) (v : Value) (w : World) (hl : Lexs w v l) (hm : Mild l) : Calls Try.prog 17 #[v] w fun e w' => e = .returned (.string (toS (prF [] false l))) ∧ Below w.heap.size w w' := by
  obtain ⟨p, c, hv⟩ := hl.nil
  subst hv
  have HL := Lib.hid hl
  have HM := Lib.hid hm.2
  obtain ⟨N, hN⟩ : ∃ N, l.length = N := ⟨_, rfl⟩
  have hN1 : N ≤ 20000 := by rw [← hN]; exact hm.1
  obtain ⟨R, hR⟩ : ∃ R, prF [] false l = R := ⟨_, rfl⟩
  rw [hN, hR]
  have HN := Lib.hid hN
  have HR := Lib.hid hR
  have cW := Lib.hid (fun x h1 h2 w => pwritten_any x w h1 h2)
  obtain ⟨i0, hi0, hz0, hz1, hz2⟩ := info_parts info_u8
  rw [hN] at hl
  clear hl hm hN hR
  go_enter Try.func17, Try.ntmps17
  go_wp2_with fail
  go_loopw [3, 4, 11] (fun v b x wr => ∃ (acc : List UInt8) (f : Bool) (j : Nat), b = .bool (!f) ∧ x = .int .i64 (j : Int) ∧ j ≤ N ∧ acc.length ≤ j * 50000 ∧ Hid (Below w.heap.size w wr) ∧ Hid (OwnB wr w.heap.size v acc) ∧ Hid (prF acc f (l.drop j) = R)) (fun _ _ x _ => N - (intOf x).toNat)
  case atStart => exact ⟨[], false, 0, rfl, rfl, Nat.zero_le _, Nat.zero_le _, Below.refl _ _, OwnB.nil _ _, HR.out⟩
  case round =>
    obtain ⟨acc, f, j, rfl, rfl, hj, hal, hB, hown, hR⟩ := hrel
    by_cases hlt : j < N
    · have hlt' : (j : Int) < (N : Int) := by omega
      have hal2 : acc.length ≤ 1000000000 := Nat.le_trans hal (Nat.le_trans (Nat.mul_le_mul_right 50000 (Nat.le_trans hj hN1)) (by decide))
      obtain ⟨x, hx⟩ : ∃ x, l[j]? = some x := ⟨_, List.getElem?_eq_getElem (by rw [HN.out]; exact hlt)⟩
      obtain ⟨bb, off, cc, e1, ha⟩ := HL.out.open (show 0 < l.length by rw [HN.out]; omega)
      rw [HN.out] at e1
      simp only [Value.slice.injEq] at e1
      obtain ⟨rfl, -, rfl⟩ := e1
      obtain ⟨y0, y1, y2, y3⟩ := ha.at_ j x hx
      have lb := ha.lt
      have y0 := (hB.out.cell lb).trans y0
      have y1 := (hB.out.cell lb).trans y1
      have y2 := (hB.out.cell lb).trans y2
      have y3 := (hB.out.cell lb).trans y3
      have mx := HM.out x (List.mem_of_getElem? hx)
      have no := Lib.hid (fun h => prF_nothing hx hR.out h)
      have ye := Lib.hid (fun h => prF_text hx hR.out h)
      have c1 := Lib.hid (cW.out x mx.1 mx.2)
      unfold WrEnd at c1
      have hp := pcO_len mx.1
      generalize (pcO x).getD [] = t at c1 ye hp
      generalize (pcO x).isSome = g at c1 no ye
      obtain ⟨k, tx, n, a⟩ := x
      simp only at y0 y1 y2 y3 c1
      generalize toS tx = X at y1 c1
      have n0 := Lib.hid (Blk.new wr 35 lx0)
      have n1 := Lib.hid (blk_row n0.out (lxL k X n a))
      have hB2 := Lib.hid (below_row ((Below.refl wr.heap.size wr).alloc (Nat.le_refl _) lxO) (Nat.le_refl _) (lxL k X n a))
      have hw2 := Lib.hid (own_below8 hown.out hB2.out)
      have hB3 := Lib.hid (stepB hB.out hB2.out)
      have hal := Lib.hid hal
      clear hx ha hR mx cW hB hown
      go_wp2_with (first | (refine wpList_load_row rfl 35 (.tmp 6) rfl wr.heap.size rfl 35 _ (0, 0) _ n1.out Try.underlying35 rfl (lx_size _ _ _ _) ?_) | (refine wpList_store_row rfl 35 (.tmp 6) (.tmp 14) rfl wr.heap.size (lxL k X n a) rfl rfl 35 _ n0.out (lx_size _ _ _ _) rfl (lx_ones _ _ _ _) ?_))
      refine (c1.out _).mono ?_; rintro e w2 ⟨rfl, k2⟩
      have B2 := Lib.hid (stepB hB3.out k2)
      have own2 := Lib.hid (own_below8 hw2.out k2)
      clear n0 n1 hB2 hw2 hB3 k2 y0 y1 y2 y3 c1
      cases g with
      | false =>
        have hr := Lib.hid (no.out rfl)
        have hq : Hid (acc.length ≤ (j + 1) * 50000) := Nat.le_trans hal.out (Nat.mul_le_mul_right _ (Nat.le_succ j))
        clear no ye
        go_wp2_with fail
        exact ⟨⟨acc, f, j + 1, rfl, rfl, hlt, hq.out, B2.out, own2.out, hr.out⟩, by simp [intOf]; omega⟩
      | true =>
        have hr := Lib.hid (ye.out rfl)
        have hq := Lib.hid (show ((acc ++ (if f = true then [32] else []) ++ t).length ≤ (j + 1) * 50000) by
          have h0 := hal.out
          rw [List.length_append, List.length_append, Nat.add_mul]
          have : (if f = true then [32] else ([] : List UInt8)).length ≤ 1 := by split <;> decide
          omega)
        clear no ye
        cases f with
        | false =>
          have rs := room_str hal2 hp
          go_wp2_with (at_builtin; refine Lib.wpList_append_own_string _ rfl _ _ 30 9 rfl w.heap.size 5 i0 Try.underlying30 Try.underlying9 hi0 hz0 hz1 hz2 _ _ _ rfl own2.out (toS t) rfl (by rw [toS_size]; exact rs.1) (by rw [toS_size]; exact rs.2) B2.out.size ?_)
          intro v' w6 hown' hgrow _
          have k6 : Below w.heap.size w w6 := B2.out.grown hgrow B2.out.size (fun j hj => OwnB.lt own2.out j hj)
          have hf : Hid (OwnB w6 w.heap.size v' (acc ++ t)) := OwnB.text hown'
          have hr2 := Lib.hid (show prF (acc ++ t) true (l.drop (j + 1)) = R by have := hr.out; simpa using this)
          have hq2 := Lib.hid (show (acc ++ t).length ≤ (j + 1) * 50000 by have := hq.out; simpa using this)
          clear hown' hgrow
          go_wp2_with fail
          exact ⟨⟨acc ++ t, true, j + 1, rfl, rfl, hlt, hq2.out, k6, hf.out, hr2.out⟩, by simp [intOf]; omega⟩
        | true =>
          have room := room1_big hal2
          go_wp2_with (at_builtin; refine wpList_append_own _ rfl _ _ 30 rfl w.heap.size 5 i0 (.int .u8 0) 1 1 Try.underlying30 hi0 hz0 hz1 hz2 rfl (by decide) _ _ _ rfl (OwnB.alloc own2.out _) ⟨w2.heap.size, 0, none⟩ 1 1 [.int .u8 32] rfl rfl (news1 _ _) (ones1 _) room.1 room.2 (B2.out.alloc B2.out.size _).size ?_)
          intro v' w6 hown' hgrow _
          have k6 : Hid (Below w.heap.size w w6) := (B2.out.alloc B2.out.size _).grown hgrow (B2.out.alloc B2.out.size _).size (fun j hj => OwnB.lt own2.out j hj)
          have hf : Hid (OwnB w6 w.heap.size v' (acc ++ [32])) := step_own (c := 32) hown' rfl
          clear hown' hgrow room
          have rs := room_str (n := (acc ++ [32]).length) (m := t.length) (by rw [List.length_append]; show _ + 1 ≤ _; omega) hp
          go_wp2_with (at_builtin; refine Lib.wpList_append_own_string _ rfl _ _ 30 9 rfl w.heap.size 5 i0 Try.underlying30 Try.underlying9 hi0 hz0 hz1 hz2 _ _ _ rfl hf.out (toS t) rfl (by rw [toS_size]; exact rs.1) (by rw [toS_size]; exact rs.2) k6.out.size ?_)
          intro v'' w7 hown' hgrow _
          have k7 : Below w.heap.size w w7 := k6.out.grown hgrow k6.out.size (fun j hj => OwnB.lt hf.out j hj)
          have hf2 : Hid (OwnB w7 w.heap.size v'' (acc ++ [32] ++ t)) := OwnB.text (by rw [List.length_append]; exact hown')
          clear hown' hgrow hf
          go_wp2_with fail
          exact ⟨⟨acc ++ [32] ++ t, true, j + 1, rfl, rfl, hlt, hq.out, k7, hf2.out, hr.out⟩, by simp [intOf]; omega⟩
    · obtain rfl : j = N := by omega
      have hlt' : ¬ (j : Int) < (j : Int) := by omega
      have F : Hid (acc = R) := by
        have := hR.out
        rw [← HN.out, List.drop_length] at this
        exact this
      have hcv := OwnB.conv hown.out
      clear hR
      go_wp2_with fail
      go_ret
      exact ⟨by rw [← F.out]; rfl, hB.out⟩
end Go.Proofs.Ytdpnmlgadieamaa.Lx
