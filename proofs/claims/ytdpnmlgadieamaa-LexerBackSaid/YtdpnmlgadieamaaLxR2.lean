/-
  Contract of the reference of layer 7: text.
-/
import Derived.Test.YtdpnmlgadieamaaLxOwn
namespace Go.Proofs.Ytdpnmlgadieamaa.Lx
open Go.RowKit

/-- The characters of the string that begins at a place, where it ends or its error is, and the error. -/
def txV (s : ByteArray) (a : Nat) : List UInt8 × Nat × Bool := tx [] 1 (rest s (a + 1))
def txE (s : ByteArray) (a : Nat) : Int := if (txV s a).2.2 = true then 0 else 5
def TxEnd (s : ByteArray) (a : Nat) (w : World) (e : Ending) (w' : World) : Prop :=
  e = .returned (.tuple #[.string (toS (txV s a).1), .int .i64 ((a + (txV s a).2.1 : Nat) : Int), .int .i64 (txE s a)]) ∧ Below w.heap.size w w'
theorem tx_end3 {s : ByteArray} {a : Nat} {x : List UInt8} {p q : Nat} {b : Bool} (h : (x, p, b) = txV s a) (hq : q = a + p) :
    (toS x = toS (txV s a).1 ∧ (q : Int) = ((a + (txV s a).2.1 : Nat) : Int) ∧ (if b = true then (0 : Int) else 5) = txE s a) := by
  unfold txE
  rw [← h]
  exact ⟨rfl, by rw [hq], rfl⟩
theorem ret3 {a a' : ByteArray} {b b' c c' : Int} (h : a = a' ∧ b = b' ∧ c = c') : Ending.returned (.tuple #[.string a, .int .i64 b, .int .i64 c]) = .returned (.tuple #[.string a', .int .i64 b', .int .i64 c']) := by rw [h.1, h.2.1, h.2.2]
theorem tx_at {s : ByteArray} {p : Nat} (h : p < s.size) (o : List UInt8) (k : Nat) : tx o k (rest s p) = tx o k (s[p] :: rest s (p + 1)) := by rw [rest_at h]
theorem step_own {w : World} {B : Nat} {v : Value} {o : List UInt8} {c : UInt8} {n : Nat} (h : w.ownsRow B 5 1 v (o.length + 1) (bytC o ++ [.int .u8 (c.toNat : Int)])) (_hn : n = 0) : OwnB w B v (o ++ [c]) := by
  unfold OwnB
  rw [List.length_append, bytC_snoc]; exact h
set_option maxHeartbeats 2000000 in
set_option maxRecDepth 100000 in
theorem rtext_any (s : ByteArray) (b : Nat) (w : World) (hs : s.size ≤ 1000000) (hb : b < s.size) : Calls Try.prog 43 #[.string s, .int .i64 (b : Int)] w (TxEnd s b w) := by
  have hs' : (s.size : Int) ≤ 1000000 := by omega
  obtain ⟨i0, hi0, hz0, hz1, hz2⟩ := info_parts info_u8
  go_enter Try.func43, Try.ntmps43
  go_wp2_with fail
  go_loopw [7, 8] (fun v x wr => ∃ (o : List UInt8) (p k : Nat), x = .int .i64 (p : Int) ∧ p ≤ s.size ∧ o.length ≤ p ∧ Hid (p = b + k) ∧ Below w.heap.size w wr ∧ Hid (OwnB wr w.heap.size v o) ∧ Hid (tx o k (rest s p) = txV s b)) (fun _ x _ => s.size - (intOf x).toNat)
  case atStart => exact ⟨[], b + 1, 1, rfl, hb, Nat.zero_le _, rfl, Below.refl _ _, OwnB.nil _ _, rfl⟩
  case round =>
    obtain ⟨o, p, k, rfl, hp, hop, hpk, hB, hown, hT⟩ := hrel
    by_cases hlt : p < s.size
    · have hlt' : (p : Int) < (s.size : Int) := by omega
      obtain ⟨c, hc⟩ : ∃ c, s[p] = c := ⟨_, rfl⟩
      obtain ⟨D, hD⟩ : ∃ D, c.toNat = D := ⟨_, rfl⟩
      have hdn : s[p].toNat = D := by rw [hc, hD]
      have hT2 : Hid (tx o k (c :: rest s (p + 1)) = txV s b) := by
        show _ = _
        rw [← hc, ← tx_at hlt]; exact hT.out
      have HD := Lib.hid hD
      clear hT hc hD
      by_cases h34 : D = 34
      · have E := Lib.hid (tx_end3 ((tx_quote o k (rest s (p + 1)) (by rw [HD.out]; exact h34)).symm.trans hT2.out) (q := p + 1) (by rw [hpk.out]; omega))
        have hcv := OwnB.conv hown.out
        subst h34
        clear hT2
        go_wp2_with fail
        (try simp only [Exit.inBlock, Exit.then]); refine bodyPost_ret (results_tmp3 rfl _ _ _) rfl ?_
        exact ⟨ret3 E.out, hB⟩
      · have hb34 : ((D : Int) == 34) = false := beq_false_of_ne (by omega)
        by_cases hch : chN D = true
        · have hch' : ¬ (D : Int) < 32 ∧ ¬ (126 : Int) < (D : Int) := by unfold chN at hch; simp at hch; omega
          obtain ⟨g1, g2⟩ := hch'
          by_cases h92 : D = 92
          · by_cases hlt1 : p + 1 < s.size
            · have hlt1' : ((p : Int) + 1 == (s.size : Int)) = false := beq_false_of_ne (by omega)
              have hlt2' : (p : Int) + 1 < (s.size : Int) := by omega
              have q1 : (0 : Int) ≤ (p : Int) + 1 := by omega
              have q2 : ((p : Int) + 1).toNat = p + 1 := by omega
              obtain ⟨d, hd⟩ : ∃ d, s[p + 1] = d := ⟨_, rfl⟩
              obtain ⟨E, hE⟩ : ∃ E, d.toNat = E := ⟨_, rfl⟩
              have hen : s[p + 1].toNat = E := by rw [hd, hE]
              have hT3 : Hid (tx o k (c :: d :: rest s (p + 2)) = txV s b) := by
                show _ = _
                rw [← hd, show p + 2 = p + 1 + 1 from rfl, ← rest_at hlt1]; exact hT2.out
              have HE := Lib.hid hE
              have HC := Lib.hid (show c.toNat = 92 by rw [HD.out]; exact h92)
              clear hT2 hd hE HD
              subst h92
              by_cases hq : E = 34 ∨ E = 92
              · have hT4 := Lib.hid ((tx_esc o k (rest s (p + 2)) HC.out (by rw [HE.out]; exact hq)).symm.trans hT3.out)
                have hcell := Lib.hid (show (Value.int .u8 (E : Int)) = .int .u8 (d.toNat : Int) by rw [HE.out])
                clear hT3
                rcases hq with rfl | rfl <;>
                · have room := room1 (n := o.length) (by omega)
                  go_wp2_with (at_builtin; refine wpList_append_own _ rfl _ _ 30 rfl w.heap.size 5 i0 (.int .u8 0) 1 1 Try.underlying30 hi0 hz0 hz1 hz2 rfl (by decide) _ _ _ rfl (OwnB.alloc hown.out _) ⟨wr.heap.size, 0, none⟩ 1 1 [.int .u8 _] rfl rfl (news1 _ _) (ones1 _) room.1 room.2 (hB.alloc hB.size _).size ?_)
                  intro v' w6 hown' hgrow _
                  have k6 : Below w.heap.size w w6 := (hB.alloc hB.size _).grown hgrow (by have := hB.size; simp; omega) (fun j hj => OwnB.lt hown.out j hj)
                  have hf : Hid (OwnB w6 w.heap.size v' (o ++ [d])) := step_own (by rw [← hcell.out]; exact hown') rfl
                  clear hown' hgrow
                  go_wp2_with fail
                  exact ⟨⟨o ++ [d], p + 2, k + 2, rfl, by omega, by rw [List.length_append]; show _ + 1 ≤ _; omega, by show p + 2 = b + (k + 2); rw [hpk.out]; omega, k6, hf.out, hT4.out⟩, by simp [intOf]; omega⟩

              · have x1 : ((E : Int) != 34) = true := bne_iff_ne.2 (by omega)
                have x2 : ((E : Int) != 92) = true := bne_iff_ne.2 (by omega)
                by_cases h110 : E = 110
                · have hT4 := Lib.hid ((tx_line o k (rest s (p + 2)) HC.out (by rw [HE.out]; exact h110)).symm.trans hT3.out)
                  subst h110
                  clear hT3 hq
                  have room := room1 (n := o.length) (by omega)
                  go_wp2_with (at_builtin; refine wpList_append_own _ rfl _ _ 30 rfl w.heap.size 5 i0 (.int .u8 0) 1 1 Try.underlying30 hi0 hz0 hz1 hz2 rfl (by decide) _ _ _ rfl (OwnB.alloc hown.out _) ⟨wr.heap.size, 0, none⟩ 1 1 [.int .u8 10] rfl rfl (news1 _ _) (ones1 _) room.1 room.2 (hB.alloc hB.size _).size ?_)
                  intro v' w6 hown' hgrow _
                  have k6 : Below w.heap.size w w6 := (hB.alloc hB.size _).grown hgrow (by have := hB.size; simp; omega) (fun j hj => OwnB.lt hown.out j hj)
                  have hf : Hid (OwnB w6 w.heap.size v' (o ++ [10])) := step_own hown' rfl
                  clear hown' hgrow
                  go_wp2_with fail
                  exact ⟨⟨o ++ [10], p + 2, k + 2, rfl, by omega, by rw [List.length_append]; show _ + 1 ≤ _; omega, by show p + 2 = b + (k + 2); rw [hpk.out]; omega, k6, hf.out, hT4.out⟩, by simp [intOf]; omega⟩

                · have x3 : ((E : Int) != 110) = true := bne_iff_ne.2 (by omega)
                  have F := Lib.hid (tx_end3 ((tx_other o k (rest s (p + 2)) HC.out (by rw [HE.out]; omega) (by rw [HE.out]; omega) (by rw [HE.out]; exact h110)).symm.trans hT3.out) hpk.out)
                  clear hT3 hq
                  go_wp2_with fail
                  (try simp only [Exit.inBlock, Exit.then]); refine bodyPost_ret (results_tmp3 rfl _ _ _) rfl ?_
                  exact ⟨ret3 F.out, hB⟩
            · have hpe : p + 1 = s.size := by omega
              have hlt1' : ((p : Int) + 1 == (s.size : Int)) = true := beq_iff_eq.2 (by omega)
              have hr : rest s (p + 1) = [] := rest_end (Nat.le_of_eq hpe.symm)
              rw [hr] at hT2
              have F := Lib.hid (tx_end3 ((tx_end o k (by rw [HD.out]; exact h92)).symm.trans hT2.out) hpk.out)
              subst h92
              clear hT2 hr
              go_wp2_with fail
              (try simp only [Exit.inBlock, Exit.then]); refine bodyPost_ret (results_tmp3 rfl _ _ _) rfl ?_
              exact ⟨ret3 F.out, hB⟩
          · have hb92 : ((D : Int) != 92) = true := bne_iff_ne.2 (by omega)
            have hT4 := Lib.hid ((tx_char o k (rest s (p + 1)) (by rw [HD.out]; exact h34) (by rw [HD.out]; exact hch) (by rw [HD.out]; exact h92)).symm.trans hT2.out)
            clear hT2 hch
            have room := room1 (n := o.length) (by omega)
            go_wp2_with (at_builtin; refine wpList_append_own _ rfl _ _ 30 rfl w.heap.size 5 i0 (.int .u8 0) 1 1 Try.underlying30 hi0 hz0 hz1 hz2 rfl (by decide) _ _ _ rfl (OwnB.alloc hown.out _) ⟨wr.heap.size, 0, none⟩ 1 1 [.int .u8 (D : Int)] rfl rfl (news1 _ _) (ones1 _) room.1 room.2 (hB.alloc hB.size _).size ?_)
            intro v' w6 hown' hgrow _
            have k6 : Below w.heap.size w w6 := (hB.alloc hB.size _).grown hgrow (by have := hB.size; simp; omega) (fun j hj => OwnB.lt hown.out j hj)
            have hf : Hid (OwnB w6 w.heap.size v' (o ++ [c])) := step_own (by rw [HD.out]; exact hown') rfl
            clear hown' hgrow
            go_wp2_with fail
            exact ⟨⟨o ++ [c], p + 1, k + 1, rfl, by omega, by rw [List.length_append]; show _ + 1 ≤ _; omega, by show p + 1 = b + (k + 1); rw [hpk.out]; omega, k6, hf.out, hT4.out⟩, by simp [intOf]; omega⟩

        · have hch : chN D = false := by simpa using hch
          have F := Lib.hid (tx_end3 ((tx_bad o k (rest s (p + 1)) (by rw [HD.out]; exact h34) (by rw [HD.out]; exact hch)).symm.trans hT2.out) hpk.out)
          clear hT2
          by_cases h32 : D < 32
          · have g1 : (D : Int) < 32 := by omega
            clear hch
            go_wp2_with fail
            (try simp only [Exit.inBlock, Exit.then]); refine bodyPost_ret (results_tmp3 rfl _ _ _) rfl ?_
            exact ⟨ret3 F.out, hB⟩
          · have g1 : ¬ (D : Int) < 32 := by omega
            have g2 : (126 : Int) < (D : Int) := by unfold chN at hch; simp at hch; omega
            clear hch
            go_wp2_with fail
            (try simp only [Exit.inBlock, Exit.then]); refine bodyPost_ret (results_tmp3 rfl _ _ _) rfl ?_
            exact ⟨ret3 F.out, hB⟩
    · obtain rfl : p = s.size := by omega
      have hlt' : ¬ (s.size : Int) < (s.size : Int) := by omega
      have hr : rest s s.size = [] := rest_end (Nat.le_refl _)
      rw [hr] at hT
      have F := Lib.hid (tx_end3 ((tx_nil o k).symm.trans hT.out) hpk.out)
      clear hT hr
      go_wp2_with fail
      (try simp only [Exit.inBlock, Exit.then]); refine bodyPost_ret (results_tmp3 rfl _ _ _) rfl ?_
      exact ⟨ret3 F.out, hB⟩
end Go.Proofs.Ytdpnmlgadieamaa.Lx
