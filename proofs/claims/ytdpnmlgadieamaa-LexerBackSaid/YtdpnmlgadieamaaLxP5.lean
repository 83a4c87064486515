/-
  Contracts of the program of layer 7: Quote, digits, decimal, written.
-/
import Derived.Test.YtdpnmlgadieamaaLxP2
import Derived.Test.YtdpnmlgadieamaaLxR7
namespace Go.Proofs.Ytdpnmlgadieamaa.Lx
open Go.RowKit

set_option maxHeartbeats 2000000 in
set_option maxRecDepth 100000 in
theorem qQuote_any (s : ByteArray) (w : World) (hs : s.size ≤ 100000) : Calls Try.prog 15 #[.string s] w (QtEnd s.data.toList w) := by
  have hs' : (s.size : Int) ≤ 100000 := by omega
  obtain ⟨i0, hi0, hz0, hz1, hz2⟩ := info_parts info_u8
  have cc := Lib.hid (fun a w => charAt_any s a w)
  have h0 := Lib.hid (show OwnB (w.alloc (.cells #[.int .u8 34] 5)) w.heap.size (.slice (some ⟨w.heap.size, 0, none⟩) 1 1) ([34] ++ qb (s.data.toList.take 0)) from World.ownsRow_lit (base := w.heap.size) (e := 5) (size := 1) w #[.int .u8 34] 1 (Nat.le_refl _) (by decide) rfl)
  have hB0 := (Below.refl w.heap.size w).alloc (Nat.le_refl _) (.cells #[.int .u8 34] 5)
  go_enter Try.func15, Try.ntmps15
  go_wp2_with fail
  go_loopw [4, 10] (fun v x wr => ∃ (o : List UInt8) (j : Nat), x = .int .i64 (j : Int) ∧ j ≤ s.size ∧ o.length ≤ 1 + 2 * j ∧ Below w.heap.size w wr ∧ Hid (OwnB wr w.heap.size v o) ∧ Hid (o = [34] ++ qb (s.data.toList.take j)) ∧ Hid (qok (s.data.toList.take j) = true)) (fun _ x _ => s.size - (intOf x).toNat)
  case atStart => exact ⟨_, 0, rfl, Nat.zero_le _, Nat.le_refl _, hB0, h0.out, rfl, rfl⟩
  case round =>
    obtain ⟨o, j, rfl, hj, hol, hB, hown, ho, hok⟩ := hrel
    by_cases hlt : j < s.size
    · have hlt' : (j : Int) < (s.size : Int) := by omega
      obtain ⟨c, hc⟩ : ∃ c, s[j] = c := ⟨_, rfl⟩
      obtain ⟨D, hD⟩ : ∃ D, c.toNat = D := ⟨_, rfl⟩
      have hv := chA_in hlt
      rw [hc, hD] at hv
      have c1 := Lib.hid (cc.out j)
      rw [hv] at c1
      have tn := Lib.hid (show ∀ m, qb [c] = m → o ++ m = [34] ++ qb (s.data.toList.take (j + 1)) from fun m hm => by rw [take_next hlt hc, qb_app, hm, ho.out, List.append_assoc])
      have on := Lib.hid (fun hq => qok_next hlt hc hq hok.out)
      have bad := Lib.hid (fun hq => qok_bad hlt hc hq)
      rw [hD] at on bad
      have HD := Lib.hid hD
      have hDl : D ≤ 255 := by have := c.toNat_lt; omega
      have c2 := Lib.hid (fun w => pplain_any (D : Int) w)
      rw [plI_nat] at c2
      have c3 := Lib.hid (fun w => pescape_any (D : Int) w)
      clear hc hD ho hv cc
      by_cases hp : (chN D && D != 34 && D != 92) = true
      · rw [hp] at c2
        simp at hp
        have h10 : D ≠ 10 := fun e => by rw [e] at hp; exact absurd hp.1.1 (by decide)
        have hT := Lib.hid (tn.out _ (qb_char (by rw [HD.out]; exact h10) (by rw [HD.out]; exact hp.1.2) (by rw [HD.out]; exact hp.2)))
        have hO := Lib.hid (on.out (by unfold qcN; rw [hp.1.1]; simp))
        have n1 : ((D : Int) == -1) = false := beq_false_of_ne (by omega)
        clear tn on bad hp c3
        have room := room1 (n := o.length) (by omega)
        go_wp2_with fail
        refine (c1.out _).mono ?_; rintro e w1 ⟨rfl, rfl⟩
        go_wp2_with fail
        refine (c2.out _).mono ?_; rintro e w1 ⟨rfl, rfl⟩
        go_wp2_with (at_builtin; refine wpList_append_own _ rfl _ _ 30 rfl w.heap.size 5 i0 (.int .u8 0) 1 1 Try.underlying30 hi0 hz0 hz1 hz2 rfl (by decide) _ _ _ rfl (OwnB.alloc hown.out _) ⟨wr.heap.size, 0, none⟩ 1 1 [.int .u8 (D : Int)] rfl rfl (news1 _ _) (ones1 _) room.1 room.2 (hB.alloc hB.size _).size ?_)
        intro v' w6 hown' hgrow _
        have k6 : Below w.heap.size w w6 := (hB.alloc hB.size _).grown hgrow (by have := hB.size; simp; omega) (fun j hj => OwnB.lt hown.out j hj)
        have hf : Hid (OwnB w6 w.heap.size v' (o ++ [c])) := step_own (by rw [HD.out]; exact hown') rfl
        clear hown' hgrow
        go_wp2_with fail
        exact ⟨⟨o ++ [c], j + 1, rfl, hlt, by rw [List.length_append]; show _ + 1 ≤ _; omega, k6, hf.out, hT.out, hO.out⟩, by simp [intOf]; omega⟩
      · have hp' : (chN D && D != 34 && D != 92) = false := by simpa using hp
        rw [hp'] at c2
        by_cases hq : D = 34 ∨ D = 92 ∨ D = 10
        · have hX : ∃ E : UInt8, escO (D : Int) = (E.toNat : Int) ∧ qb [c] = [92, E] := by
            rcases hq with h | h | h
            · exact ⟨c, by rw [HD.out, h]; rfl, qb_esc (by rw [HD.out]; exact .inl h)⟩
            · exact ⟨c, by rw [HD.out, h]; rfl, qb_esc (by rw [HD.out]; exact .inr h)⟩
            · exact ⟨110, by rw [h]; rfl, qb_line (by rw [HD.out]; exact h)⟩
          obtain ⟨E, hE, hqb⟩ := hX
          rw [hE] at c3
          have hT := Lib.hid (tn.out _ hqb)
          have hO := Lib.hid (on.out (by rcases hq with h | h | h <;> rw [h] <;> rfl))
          obtain ⟨G, hG⟩ : ∃ G, E.toNat = G := ⟨_, rfl⟩
          have hGl : G ≤ 255 := by have := E.toNat_lt; omega
          rw [hG] at c3
          have HG := Lib.hid hG
          have n1 : ((G : Int) == -1) = false := beq_false_of_ne (by omega)
          clear tn on bad hp hp' hE hqb hG hq HD
          have room := room1 (n := o.length) (by omega)
          go_wp2_with fail
          refine (c1.out _).mono ?_; rintro e w1 ⟨rfl, rfl⟩
          go_wp2_with fail
          refine (c2.out _).mono ?_; rintro e w1 ⟨rfl, rfl⟩
          go_wp2_with fail
          refine (c3.out _).mono ?_; rintro e w1 ⟨rfl, rfl⟩
          go_wp2_with (at_builtin; refine wpList_append_own _ rfl _ _ 30 rfl w.heap.size 5 i0 (.int .u8 0) 1 1 Try.underlying30 hi0 hz0 hz1 hz2 rfl (by decide) _ _ _ rfl (OwnB.alloc hown.out _) ⟨wr.heap.size, 0, none⟩ 1 1 [.int .u8 92] rfl rfl (news1 _ _) (ones1 _) room.1 room.2 (hB.alloc hB.size _).size ?_)
          intro v' w6 hown' hgrow _
          have k6 : Below w.heap.size w w6 := (hB.alloc hB.size _).grown hgrow (by have := hB.size; simp; omega) (fun j hj => OwnB.lt hown.out j hj)
          have hf : Hid (OwnB w6 w.heap.size v' (o ++ [92])) := step_own (c := 92) hown' rfl
          clear hown' hgrow room
          have hol2 : (o ++ [92]).length ≤ 200002 := by rw [List.length_append]; show _ + 1 ≤ _; omega
          have room := room1 (n := (o ++ [92]).length) (by omega)
          go_wp2_with (at_builtin; refine wpList_append_own _ rfl _ _ 30 rfl w.heap.size 5 i0 (.int .u8 0) 1 1 Try.underlying30 hi0 hz0 hz1 hz2 rfl (by decide) _ _ _ rfl (OwnB.alloc hf.out _) ⟨w6.heap.size, 0, none⟩ 1 1 [.int .u8 (G : Int)] rfl rfl (news1 _ _) (ones1 _) room.1 room.2 (k6.alloc k6.size _).size ?_)
          intro v'' w7 hown' hgrow _
          have k7 : Below w.heap.size w w7 := (k6.alloc k6.size _).grown hgrow (by have := k6.size; simp; omega) (fun j hj => OwnB.lt hf.out j hj)
          have hf2 : Hid (OwnB w7 w.heap.size v'' (o ++ [92] ++ [E])) := step_own (by rw [HG.out, List.length_append]; exact hown') rfl
          clear hown' hgrow hf
          go_wp2_with fail
          exact ⟨⟨o ++ [92] ++ [E], j + 1, rfl, hlt, by rw [List.length_append, List.length_append]; show _ + 1 + 1 ≤ _; omega, k7, hf2.out, by show _ = _; rw [List.append_assoc]; exact hT.out, hO.out⟩, by simp [intOf]; omega⟩
        · have hE : escO (D : Int) = -1 := by
            unfold escO
            rw [if_neg (by omega), if_neg (by omega), if_neg (by omega)]
          rw [hE] at c3
          have hch : chN D = false := by
            cases hx : chN D
            · rfl
            · simp [hx] at hp
              exact absurd (hp (by omega)) (by omega)
          have F := Lib.hid (bad.out (by unfold qcN; rw [hch, beq_false_of_ne (by omega)]; rfl))
          clear tn on bad hp hp' hE hch
          have room := room1 (n := o.length) (by omega)
          go_wp2_with fail
          refine (c1.out _).mono ?_; rintro e w1 ⟨rfl, rfl⟩
          go_wp2_with fail
          refine (c2.out _).mono ?_; rintro e w1 ⟨rfl, rfl⟩
          go_wp2_with fail
          refine (c3.out _).mono ?_; rintro e w1 ⟨rfl, rfl⟩
          go_wp2_with (at_builtin; refine wpList_append_own _ rfl _ _ 30 rfl w.heap.size 5 i0 (.int .u8 0) 1 1 Try.underlying30 hi0 hz0 hz1 hz2 rfl (by decide) _ _ _ rfl (OwnB.alloc hown.out _) ⟨wr.heap.size, 0, none⟩ 1 1 [.int .u8 92] rfl rfl (news1 _ _) (ones1 _) room.1 room.2 (hB.alloc hB.size _).size ?_)
          intro v' w6 hown' hgrow _
          have k6 : Below w.heap.size w w6 := (hB.alloc hB.size _).grown hgrow (by have := hB.size; simp; omega) (fun j hj => OwnB.lt hown.out j hj)
          clear hown' hgrow
          go_wp2_with fail
          (try simp only [Exit.inBlock, Exit.then]); refine bodyPost_ret (results_tmp2 rfl _ _ _) rfl ?_
          exact ⟨ret_se (by rw [F.out.1]; rfl) F.out.2.symm, k6⟩
    · obtain rfl : j = s.size := by omega
      have hlt' : ¬ (s.size : Int) < (s.size : Int) := by omega
      have F := Lib.hid (qok_all hok.out)
      have ho2 := Lib.hid (show o ++ [34] = qtV s.data.toList by rw [F.out.1, ho.out]; rfl)
      clear hok ho
      have room := room1 (n := o.length) (by omega)
      go_wp2_with (at_builtin; refine wpList_append_own _ rfl _ _ 30 rfl w.heap.size 5 i0 (.int .u8 0) 1 1 Try.underlying30 hi0 hz0 hz1 hz2 rfl (by decide) _ _ _ rfl (OwnB.alloc hown.out _) ⟨wr.heap.size, 0, none⟩ 1 1 [.int .u8 34] rfl rfl (news1 _ _) (ones1 _) room.1 room.2 (hB.alloc hB.size _).size ?_)
      intro v' w6 hown' hgrow _
      have k6 : Below w.heap.size w w6 := (hB.alloc hB.size _).grown hgrow (by have := hB.size; simp; omega) (fun j hj => OwnB.lt hown.out j hj)
      have hf : OwnB w6 w.heap.size v' (o ++ [34]) := step_own (c := 34) hown' rfl
      have hcv := hf.conv
      clear hown' hgrow hf
      go_wp2_with fail
      (try simp only [Exit.inBlock, Exit.then]); refine bodyPost_ret (results_tmp2 rfl _ _ _) rfl ?_
      exact ⟨ret_se (by rw [ho2.out]) F.out.2.symm, k6⟩
/-! ### Numbers in decimal -/
theorem digs_small {m : Nat} (h : m < 10) : digs m = [UInt8.ofNat (48 + m)] := by
  unfold digs lenD
  rw [if_pos h]
  show [UInt8.ofNat (48 + m / 10 ^ 0 % 10)] = _
  rw [Nat.pow_zero, Nat.div_one, Nat.mod_eq_of_lt h]
theorem digs_big {m : Nat} (h : 10 ≤ m) (hm : m ≤ 9223372036854775808) : digs m = digs (m / 10) ++ [UInt8.ofNat (48 + m % 10)] := by
  have e : digs m = lowD m (lenD 18 (m / 10) + 1) := by
    unfold digs
    rw [show lenD 19 m = lenD 18 (m / 10) + 1 by rw [lenD]; exact if_neg (by omega)]
  rw [e, lowD_snoc, digs_of (m / 10) (lenD 18 (m / 10)) (by omega) (lenD_isLen 18 (m / 10) (by omega))]
theorem digs_len (m : Nat) : (digs m).length ≤ 20 := by unfold digs; rw [lowD_length]; exact lenD_le 19 m
theorem own_below8 {w w' : World} {B : Nat} {v : Value} {l : List UInt8} (h : OwnB w B v l) (hb : Below w.heap.size w w') : OwnB w' B v l := own_below h hb
theorem pdigits_any (M : Nat) : ∀ (w : World), M ≤ 9223372036854775808 → Calls Try.prog 52 #[.int .i64 (-(M : Int))] w fun e w' => ∃ v, e = .returned v ∧ OwnB w' w.heap.size v (digs M) ∧ Below w.heap.size w w' := by
  induction M using Nat.strongRecOn with
  | _ M ih =>
    intro w hM
    obtain ⟨i0, hi0, hz0, hz1, hz2⟩ := info_parts info_u8
    obtain ⟨Q, hQ⟩ : ∃ Q, M / 10 = Q := ⟨_, rfl⟩
    obtain ⟨R, hR⟩ : ∃ R, M % 10 = R := ⟨_, rfl⟩
    have hR9 : R ≤ 9 := by omega
    obtain ⟨z, hz⟩ : ∃ z : Int, -(M : Int) = z := ⟨_, rfl⟩
    have e1 : z.tdiv 10 = -(Q : Int) := by
      rw [← hz, ← hQ, Int.neg_tdiv]; rfl
    have e2 : z.tmod 10 = -(R : Int) := by
      rw [← hz, ← hR, Int.neg_tmod]; rfl
    have hcell : Hid (((UInt8.ofNat (48 + R)).toNat : Int) = 48 + (R : Int)) := by
      show _ = _
      rw [UInt8.toNat_ofNat']
      omega
    have e3 : IntKind.u8.wrap (48 + (R : Int)) = 48 + (R : Int) := by rw [IntKind.wrap_u8]; omega
    rw [hz]
    by_cases h10 : M < 10
    · have hg : ¬ z ≤ -10 := by omega
      have hd := Lib.hid (show digs M = [] ++ [UInt8.ofNat (48 + R)] by rw [digs_small h10, ← hR, Nat.mod_eq_of_lt h10]; rfl)
      have room := room1 (n := ([] : List UInt8).length) (by decide)
      have hzl : -10 < z := by omega
      clear ih hM hQ hR e1 h10 hz
      go_enter Try.func52, Try.ntmps52
      go_wp2_with (at_builtin; refine wpList_append_own _ rfl _ _ 30 rfl w.heap.size 5 i0 (.int .u8 0) 1 1 Try.underlying30 hi0 hz0 hz1 hz2 rfl (by decide) _ _ _ rfl (OwnB.alloc (OwnB.nil w w.heap.size) _) ⟨w.heap.size, 0, none⟩ 1 1 [.int .u8 (48 + (R : Int))] rfl rfl (news1 _ _) (ones1 _) room.1 room.2 ((Below.refl w.heap.size w).alloc (Nat.le_refl _) _).size ?_)
      intro v' w6 hown' hgrow _
      have k6 : Below w.heap.size w w6 := ((Below.refl w.heap.size w).alloc (Nat.le_refl _) _).grown hgrow (by simp) (fun j hj => OwnB.lt (OwnB.nil w w.heap.size) j hj)
      have hf : Hid (OwnB w6 w.heap.size v' ([] ++ [UInt8.ofNat (48 + R)])) := step_own (by rw [hcell.out]; exact hown') rfl
      clear hown' hgrow
      go_wp2_with fail
      go_ret
      exact ⟨_, rfl, by rw [hd.out]; exact hf.out, k6⟩
    · have hg : z ≤ -10 := by omega
      have hd := Lib.hid (show digs M = digs Q ++ [UInt8.ofNat (48 + R)] by rw [digs_big (by omega) hM, hQ, hR])
      have c1 := Lib.hid (fun w => ih Q (by omega) w (by omega))
      have hl := digs_len Q
      have room := room1 (n := (digs Q).length) (by omega)
      have e4 : IntKind.i64.wrap (-(Q : Int)) = -(Q : Int) := IntWalk.i64_in _ (by omega)
      clear ih hM hQ hR h10 hz
      generalize digs Q = L at c1 hd hl room
      go_enter Try.func52, Try.ntmps52
      go_wp2_with fail
      refine (c1.out _).mono ?_; rintro e w1 ⟨v, rfl, own, k1⟩
      have hown := Lib.hid own
      clear own
      go_wp2_with (at_builtin; refine wpList_append_own _ rfl _ _ 30 rfl w.heap.size 5 i0 (.int .u8 0) 1 1 Try.underlying30 hi0 hz0 hz1 hz2 rfl (by decide) _ _ _ rfl (OwnB.alloc hown.out _) ⟨w1.heap.size, 0, none⟩ 1 1 [.int .u8 (48 + (R : Int))] rfl rfl (news1 _ _) (ones1 _) room.1 room.2 (k1.alloc k1.size _).size ?_)
      intro v' w6 hown' hgrow _
      have k6 : Below w.heap.size w w6 := (k1.alloc k1.size _).grown hgrow (by have := k1.size; simp; omega) (fun j hj => OwnB.lt hown.out j hj)
      have hf : Hid (OwnB w6 w.heap.size v' (L ++ [UInt8.ofNat (48 + R)])) := step_own (by rw [hcell.out]; exact hown') rfl
      clear hown' hgrow
      go_wp2_with fail
      go_ret
      exact ⟨_, rfl, by rw [hd.out]; exact hf.out, k6⟩
theorem pdecimal_any (n : Int) (w : World) (h0 : -9223372036854775808 ≤ n) (h1 : n ≤ 9223372036854775807) : Calls Try.prog 44 #[.int .i64 n] w fun e w' => e = .returned (.string (toS (textL n))) ∧ Below w.heap.size w w' := by
  have c1 := Lib.hid (fun w => pdigits_any n.natAbs w (by omega))
  have hl := digs_len n.natAbs
  by_cases hn : n < 0
  · rw [show -((n.natAbs : Nat) : Int) = n by omega] at c1
    have hT := Lib.hid (show textL n = 45 :: digs n.natAbs by unfold textL; rw [if_pos hn])
    generalize digs n.natAbs = L at c1 hl hT
    have ha : ∀ W : World, (Op.stringOp .add ⟨#[45]⟩ (toS L)).run Try.prog W = .ok (.string (toS (45 :: L))) W := add_lists [45] L (by show 1 + _ ≤ _; omega)
    clear hl
    go_enter Try.func44, Try.ntmps44
    go_wp2_with fail
    refine (c1.out _).mono ?_; rintro e w1 ⟨v, rfl, own, k1⟩
    have hcv := own.conv
    clear own
    go_wp2_with fail
    go_ret
    exact ⟨by rw [hT.out]; rfl, k1⟩
  · rw [show -((n.natAbs : Nat) : Int) = -n by omega] at c1
    have hT := Lib.hid (show textL n = digs n.natAbs by unfold textL; rw [if_neg hn])
    generalize digs n.natAbs = L at c1 hl hT
    have e1 : IntKind.i64.wrap (-n) = -n := IntWalk.i64_in _ (by omega)
    clear hl
    go_enter Try.func44, Try.ntmps44
    go_wp2_with fail
    refine (c1.out _).mono ?_; rintro e w1 ⟨v, rfl, own, k1⟩
    have hcv := own.conv
    clear own
    go_wp2_with fail
    go_ret
    exact ⟨by rw [hT.out]; rfl, k1⟩
end Go.Proofs.Ytdpnmlgadieamaa.Lx
