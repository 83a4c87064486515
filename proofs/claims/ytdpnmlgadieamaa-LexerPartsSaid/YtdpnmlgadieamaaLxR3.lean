/-
  Contract of the reference of layer 7: Quote.
-/
import Derived.Test.YtdpnmlgadieamaaLxR2
namespace Go.Proofs.Ytdpnmlgadieamaa.Lx
open Go.RowKit

/-- The lexeme of a string, and the error. -/
def qok (l : List UInt8) : Bool := l.all fun c => qcN c.toNat
def qtV (l : List UInt8) : List UInt8 := if qok l = true then 34 :: (qb l ++ [34]) else []
def qtE (l : List UInt8) : Int := if qok l = true then 0 else 5
def QtEnd (l : List UInt8) (w : World) (e : Ending) (w' : World) : Prop := e = .returned (.tuple #[.string (toS (qtV l)), .int .i64 (qtE l)]) ∧ Below w.heap.size w w'
theorem qb_app : ∀ (l m : List UInt8), qb (l ++ m) = qb l ++ qb m
  | [], _ => rfl
  | c :: l, m => by rw [List.cons_append, qb, qb, qb_app l m, List.append_assoc]
theorem qb_line {c : UInt8} (h : c.toNat = 10) : qb [c] = [92, 110] := by unfold qb; rw [if_pos h]; rfl
theorem qb_esc {c : UInt8} (h : c.toNat = 34 ∨ c.toNat = 92) : qb [c] = [92, c] := by unfold qb; rw [if_neg (by omega), if_pos h]; rfl
theorem qb_char {c : UInt8} (h : c.toNat ≠ 10) (h1 : c.toNat ≠ 34) (h2 : c.toNat ≠ 92) : qb [c] = [c] := by unfold qb; rw [if_neg h, if_neg (by omega)]; rfl
theorem qb_len (l : List UInt8) : (qb l).length ≤ 2 * l.length := by
  induction l with
  | nil => exact Nat.le_refl _
  | cons c l ih =>
    rw [qb, List.length_append, List.length_cons]
    split
    · show 2 + _ ≤ _; omega
    · split
      · show 2 + _ ≤ _; omega
      · show 1 + _ ≤ _; omega
theorem take_next {s : ByteArray} {j : Nat} {c : UInt8} (h : j < s.size) (hc : s[j] = c) : s.data.toList.take (j + 1) = s.data.toList.take j ++ [c] := by
  have e : s.data.toList[j]? = some c := by
    rw [← hc, List.getElem?_eq_getElem (by rw [len_data]; exact h)]; rfl
  rw [List.take_add_one, e]; rfl
theorem qok_next {s : ByteArray} {j : Nat} {c : UInt8} (h : j < s.size) (hc : s[j] = c) (hq : qcN c.toNat = true) (hn : qok (s.data.toList.take j) = true) : qok (s.data.toList.take (j + 1)) = true := by
  rw [take_next h hc]
  unfold qok at hn ⊢
  rw [List.all_append, hn]
  simp [hq]
theorem qok_bad {s : ByteArray} {j : Nat} {c : UInt8} (h : j < s.size) (hc : s[j] = c) (hq : qcN c.toNat = false) : qtV s.data.toList = [] ∧ qtE s.data.toList = 5 := by
  have hm : c ∈ s.data.toList := by rw [← hc]; exact List.getElem_mem (by rw [len_data]; exact h)
  have : ¬ qok s.data.toList = true := fun e => by
    have := List.all_eq_true.1 e c hm
    rw [hq] at this
    exact absurd this (by decide)
  unfold qtV qtE
  rw [if_neg this, if_neg this]
  exact ⟨rfl, rfl⟩
theorem qok_all {s : ByteArray} (hn : qok (s.data.toList.take s.size) = true) : qtV s.data.toList = 34 :: qb (s.data.toList.take s.size) ++ [34] ∧ qtE s.data.toList = 0 := by
  rw [List.take_of_length_le (by rw [len_data]; exact Nat.le_refl _)] at hn ⊢
  unfold qtV qtE
  rw [if_pos hn, if_pos hn]
  exact ⟨rfl, rfl⟩
theorem ret_se {a a' : ByteArray} {b b' : Int} (h1 : a = a') (h2 : b = b') : Ending.returned (.tuple #[.string a, .int .i64 b]) = .returned (.tuple #[.string a', .int .i64 b']) := by rw [h1, h2]
theorem own_two {w : World} {B : Nat} {v : Value} {o : List UInt8} {c d : UInt8} (h : w.ownsRow B 5 1 v (o.length + 2) (bytC o ++ [.int .u8 (c.toNat : Int), .int .u8 (d.toNat : Int)])) : OwnB w B v (o ++ [c, d]) := by
  unfold OwnB
  rw [List.length_append, bytC_app]; exact h
set_option maxHeartbeats 2000000 in
set_option maxRecDepth 100000 in
theorem rquote_any (s : ByteArray) (w : World) (hs : s.size ≤ 100000) : Calls Try.prog 16 #[.string s] w (QtEnd s.data.toList w) := by
  have hs' : (s.size : Int) ≤ 100000 := by omega
  obtain ⟨i0, hi0, hz0, hz1, hz2⟩ := info_parts info_u8
  have h0 := Lib.hid (show OwnB (w.alloc (.cells #[.int .u8 34] 5)) w.heap.size (.slice (some ⟨w.heap.size, 0, none⟩) 1 1) ([34] ++ qb (s.data.toList.take 0)) from World.ownsRow_lit (base := w.heap.size) (e := 5) (size := 1) w #[.int .u8 34] 1 (Nat.le_refl _) (by decide) rfl)
  have hB0 := (Below.refl w.heap.size w).alloc (Nat.le_refl _) (.cells #[.int .u8 34] 5)
  go_enter Try.func16, Try.ntmps16
  go_wp2_with fail
  go_loopw [4, 5] (fun v x wr => ∃ (o : List UInt8) (j : Nat), x = .int .i64 (j : Int) ∧ j ≤ s.size ∧ o.length ≤ 1 + 2 * j ∧ Below w.heap.size w wr ∧ Hid (OwnB wr w.heap.size v o) ∧ Hid (o = [34] ++ qb (s.data.toList.take j)) ∧ Hid (qok (s.data.toList.take j) = true)) (fun _ x _ => s.size - (intOf x).toNat)
  case atStart => exact ⟨_, 0, rfl, Nat.zero_le _, Nat.le_refl _, hB0, h0.out, rfl, rfl⟩
  case round =>
    obtain ⟨o, j, rfl, hj, hol, hB, hown, ho, hok⟩ := hrel
    by_cases hlt : j < s.size
    · have hlt' : (j : Int) < (s.size : Int) := by omega
      obtain ⟨c, hc⟩ : ∃ c, s[j] = c := ⟨_, rfl⟩
      obtain ⟨D, hD⟩ : ∃ D, c.toNat = D := ⟨_, rfl⟩
      have hdn : s[j].toNat = D := by rw [hc, hD]
      have tn := Lib.hid (show ∀ m, qb [c] = m → o ++ m = [34] ++ qb (s.data.toList.take (j + 1)) from fun m hm => by rw [take_next hlt hc, qb_app, hm, ho.out, List.append_assoc])
      have on := Lib.hid (fun hq => qok_next hlt hc hq hok.out)
      have bad := Lib.hid (fun hq => qok_bad hlt hc hq)
      rw [hD] at on bad
      have HD := Lib.hid hD
      clear hc hD ho
      by_cases h10 : D = 10
      · have hT := Lib.hid (tn.out _ (qb_line (by rw [HD.out]; exact h10)))
        have hO := Lib.hid (on.out (by rw [h10]; rfl))
        subst h10
        clear tn on bad
        have room := room2 (n := o.length) (by omega)
        go_wp2_with (at_builtin; refine wpList_append_own _ rfl _ _ 30 rfl w.heap.size 5 i0 (.int .u8 0) 1 1 Try.underlying30 hi0 hz0 hz1 hz2 rfl (by decide) _ _ _ rfl (OwnB.alloc hown.out _) ⟨wr.heap.size, 0, none⟩ 2 2 [.int .u8 92, .int .u8 110] rfl rfl (news2 _ _ _) (ones2 _ _) room.1 room.2 (hB.alloc hB.size _).size ?_)
        intro v' w6 hown' hgrow _
        have k6 : Below w.heap.size w w6 := (hB.alloc hB.size _).grown hgrow (by have := hB.size; simp; omega) (fun j hj => OwnB.lt hown.out j hj)
        have hf : Hid (OwnB w6 w.heap.size v' (o ++ [92, 110])) := own_two hown'
        clear hown' hgrow
        go_wp2_with fail
        exact ⟨⟨o ++ [92, 110], j + 1, rfl, hlt, by rw [List.length_append]; show _ + 2 ≤ _; omega, k6, hf.out, hT.out, hO.out⟩, by simp [intOf]; omega⟩
      · have hb10 : ((D : Int) == 10) = false := beq_false_of_ne (by omega)
        by_cases hch : chN D = true
        · have hch' : ¬ (D : Int) < 32 ∧ ¬ (126 : Int) < (D : Int) := by unfold chN at hch; simp at hch; omega
          obtain ⟨g1, g2⟩ := hch'
          have hO := Lib.hid (on.out (by unfold qcN; rw [hch]; simp))
          by_cases hq : D = 34 ∨ D = 92
          · have hT := Lib.hid (tn.out _ (qb_esc (by rw [HD.out]; exact hq)))
            have hcell := Lib.hid (show (Value.int .u8 (D : Int)) = .int .u8 (c.toNat : Int) by rw [HD.out])
            clear tn on bad hch
            rcases hq with rfl | rfl <;>
            · have room := room1 (n := o.length) (by omega)
              go_wp2_with (at_builtin; refine wpList_append_own _ rfl _ _ 30 rfl w.heap.size 5 i0 (.int .u8 0) 1 1 Try.underlying30 hi0 hz0 hz1 hz2 rfl (by decide) _ _ _ rfl (OwnB.alloc hown.out _) ⟨wr.heap.size, 0, none⟩ 1 1 [.int .u8 92] rfl rfl (news1 _ _) (ones1 _) room.1 room.2 (hB.alloc hB.size _).size ?_)
              intro v' w6 hown' hgrow _
              have k6 : Below w.heap.size w w6 := (hB.alloc hB.size _).grown hgrow (by have := hB.size; simp; omega) (fun j hj => OwnB.lt hown.out j hj)
              have hf : Hid (OwnB w6 w.heap.size v' (o ++ [92])) := step_own (c := 92) hown' rfl
              clear hown' hgrow room
              have hol2 : (o ++ [92]).length ≤ 200002 := by rw [List.length_append]; show _ + 1 ≤ _; omega
              have room := room1 (n := (o ++ [92]).length) (by omega)
              go_wp2_with (at_builtin; refine wpList_append_own _ rfl _ _ 30 rfl w.heap.size 5 i0 (.int .u8 0) 1 1 Try.underlying30 hi0 hz0 hz1 hz2 rfl (by decide) _ _ _ rfl (OwnB.alloc hf.out _) ⟨w6.heap.size, 0, none⟩ 1 1 [_] rfl rfl (news1 _ _) (ones1 _) room.1 room.2 (k6.alloc k6.size _).size ?_)
              intro v'' w7 hown' hgrow _
              have k7 : Below w.heap.size w w7 := (k6.alloc k6.size _).grown hgrow (by have := k6.size; simp; omega) (fun j hj => OwnB.lt hf.out j hj)
              have hf2 : Hid (OwnB w7 w.heap.size v'' (o ++ [92] ++ [c])) := step_own (by rw [← hcell.out, List.length_append]; exact hown') rfl
              clear hown' hgrow hf
              go_wp2_with fail
              exact ⟨⟨o ++ [92] ++ [c], j + 1, rfl, hlt, by rw [List.length_append, List.length_append]; show _ + 1 + 1 ≤ _; omega, k7, hf2.out, by show _ = _; rw [List.append_assoc]; exact hT.out, hO.out⟩, by simp [intOf]; omega⟩
          · have x1 : ((D : Int) == 34) = false := beq_false_of_ne (by omega)
            have x2 : ((D : Int) == 92) = false := beq_false_of_ne (by omega)
            have hT := Lib.hid (tn.out _ (qb_char (by rw [HD.out]; exact h10) (by rw [HD.out]; omega) (by rw [HD.out]; omega)))
            clear tn on bad hch hq
            have room := room1 (n := o.length) (by omega)
            go_wp2_with (at_builtin; refine wpList_append_own _ rfl _ _ 30 rfl w.heap.size 5 i0 (.int .u8 0) 1 1 Try.underlying30 hi0 hz0 hz1 hz2 rfl (by decide) _ _ _ rfl (OwnB.alloc hown.out _) ⟨wr.heap.size, 0, none⟩ 1 1 [.int .u8 (D : Int)] rfl rfl (news1 _ _) (ones1 _) room.1 room.2 (hB.alloc hB.size _).size ?_)
            intro v' w6 hown' hgrow _
            have k6 : Below w.heap.size w w6 := (hB.alloc hB.size _).grown hgrow (by have := hB.size; simp; omega) (fun j hj => OwnB.lt hown.out j hj)
            have hf : Hid (OwnB w6 w.heap.size v' (o ++ [c])) := step_own (by rw [HD.out]; exact hown') rfl
            clear hown' hgrow
            go_wp2_with fail
            exact ⟨⟨o ++ [c], j + 1, rfl, hlt, by rw [List.length_append]; show _ + 1 ≤ _; omega, k6, hf.out, hT.out, hO.out⟩, by simp [intOf]; omega⟩
        · have hch : chN D = false := by simpa using hch
          have F := Lib.hid (bad.out (by unfold qcN; rw [hch, beq_false_of_ne h10]; rfl))
          clear tn on bad
          by_cases h32 : D < 32
          · have g1 : (D : Int) < 32 := by omega
            clear hch
            go_wp2_with fail
            (try simp only [Exit.inBlock, Exit.then]); refine bodyPost_ret (results_tmp2 rfl _ _ _) rfl ?_
            exact ⟨ret_se (by rw [F.out.1]; rfl) F.out.2.symm, hB⟩
          · have g1 : ¬ (D : Int) < 32 := by omega
            have g2 : (126 : Int) < (D : Int) := by unfold chN at hch; simp at hch; omega
            clear hch
            go_wp2_with fail
            (try simp only [Exit.inBlock, Exit.then]); refine bodyPost_ret (results_tmp2 rfl _ _ _) rfl ?_
            exact ⟨ret_se (by rw [F.out.1]; rfl) F.out.2.symm, hB⟩
    · obtain rfl : j = s.size := by omega
      have hlt' : ¬ (s.size : Int) < (s.size : Int) := by omega
      have F := Lib.hid (qok_all hok.out)
      have ho2 := Lib.hid (show o ++ [34] = qtV s.data.toList by rw [F.out.1, ho.out]; rfl)
      clear hok ho
      have room := room1 (n := o.length) (by omega)
      go_wp2_with (at_builtin; refine wpList_append_own _ rfl _ _ 30 rfl w.heap.size 5 i0 (.int .u8 0) 1 1 Try.underlying30 hi0 hz0 hz1 hz2 rfl (by decide) _ _ _ rfl (OwnB.alloc hown.out _) ⟨wr.heap.size, 0, none⟩ 1 1 [.int .u8 34] rfl rfl (news1 _ _) (ones1 _) room.1 room.2 (hB.alloc hB.size _).size ?_)
      intro v' w6 hown' hgrow _
      have k6 : Below w.heap.size w w6 := (hB.alloc hB.size _).grown hgrow (by have := hB.size; simp; omega) (fun j hj => OwnB.lt hown.out j hj)
      have hf : OwnB w6 w.heap.size v' (o ++ [34]) := step_own (c := 34) hown' rfl
      have hcv := hf.conv
      clear hown' hgrow hf
      go_wp2_with fail
      (try simp only [Exit.inBlock, Exit.then]); refine bodyPost_ret (results_tmp2 rfl _ _ _) rfl ?_
      exact ⟨ret_se (by rw [ho2.out]) F.out.2.symm, k6⟩
end Go.Proofs.Ytdpnmlgadieamaa.Lx
