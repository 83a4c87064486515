/-
  Contracts of the program of layer 7: arrows, marks, the characters of strings.
-/
import Derived.Test.YtdpnmlgadieamaaLxP1
namespace Go.Proofs.Ytdpnmlgadieamaa.Lx
open Go.RowKit

def arB (s : ByteArray) (a : Nat) : Bool := chA s a == 45 && chA s (a + 1) == 62
theorem parrow_any (s : ByteArray) (a : Nat) (w : World) (ha : a ≤ 1000000) : Calls Try.prog 46 #[.string s, .int .i64 (a : Int)] w fun e w' => e = .returned (.bool (arB s a)) ∧ w = w' := by
  have c1 := Lib.hid (fun w => charAt_any s a w)
  have c2 := Lib.hid (fun w => charAt_any s (a + 1) w)
  have F := Lib.hid (show arB s a = (chA s a == 45 && chA s (a + 1) == 62) from rfl)
  generalize arB s a = R at F ⊢
  generalize chA s a = x at c1 F
  generalize chA s (a + 1) = y at c2 F
  by_cases hx : x = 45
  · subst hx
    go_enter Try.func46, Try.ntmps46
    go_wp2_with fail
    refine (c1.out _).mono ?_; rintro e w1 ⟨rfl, rfl⟩
    go_wp2_with fail
    refine (c2.out _).mono ?_; rintro e w1 ⟨rfl, rfl⟩
    go_wp2_with fail
    go_ret
    exact ⟨ret_bool (by rw [F.out]; rfl), rfl⟩
  · have b : (x == 45) = false := beq_false_of_ne hx
    go_enter Try.func46, Try.ntmps46
    go_wp2_with fail
    refine (c1.out _).mono ?_; rintro e w1 ⟨rfl, rfl⟩
    go_wp2_with fail
    go_ret
    exact ⟨ret_bool (by rw [F.out, b]; rfl), rfl⟩
/-- The mark at a place, or nothing. -/
def mkA (s : ByteArray) (a : Nat) : List UInt8 := if arB s a = true then [45, 62] else if h : a < s.size then (if markN s[a].toNat = true then [s[a]] else []) else []
theorem arB_in {s : ByteArray} {a : Nat} (h : arB s a = true) : a + 1 < s.size ∧ rest s a = 45 :: 62 :: rest s (a + 2) := by
  unfold arB at h
  simp at h
  obtain ⟨h1, h2⟩ := h
  have l1 : a < s.size := by
    rcases Nat.lt_or_ge a s.size with x | x
    · exact x
    · rw [chA_out x] at h1; exact absurd h1 (by decide)
  have l2 : a + 1 < s.size := by
    rcases Nat.lt_or_ge (a + 1) s.size with x | x
    · exact x
    · rw [chA_out x] at h2; exact absurd h2 (by decide)
  rw [chA_in l1] at h1
  rw [chA_in l2] at h2
  have e1 : s[a] = 45 := UInt8.toNat_inj.1 (show s[a].toNat = 45 by omega)
  have e2 : s[a + 1] = 62 := UInt8.toNat_inj.1 (show s[a + 1].toNat = 62 by omega)
  exact ⟨l2, by rw [rest_at l1, rest_at l2, e1, e2]⟩
theorem arB_gt {s : ByteArray} {a : Nat} (h : a < s.size) : arB s a = (s[a].toNat == 45 && gtB (rest s (a + 1))) := by
  unfold arB
  rw [chA_in h, Bool.eq_iff_iff]
  rcases Nat.lt_or_ge (a + 1) s.size with x | x
  · rw [chA_in x, rest_at x]
    unfold gtB
    simp
    omega
  · rw [chA_out x, rest_end x]
    unfold gtB
    simp
set_option maxHeartbeats 1000000 in
set_option maxRecDepth 100000 in
theorem pmarkAt_any (s : ByteArray) (a : Nat) (w : World) (ha : a ≤ 1000000) : Calls Try.prog 30 #[.string s, .int .i64 (a : Int)] w fun e w' => e = .returned (.string (toS (mkA s a))) ∧ w = w' := by
  have c1 := Lib.hid (fun w => parrow_any s a w ha)
  have c2 := Lib.hid (fun w => charAt_any s a w)
  by_cases har : arB s a = true
  · obtain ⟨l2, hr⟩ := arB_in har
    have hM : Hid (s.extract a (a + 2) = toS (mkA s a)) := by
      show _ = _
      rw [cut_is, hr]
      unfold mkA
      rw [if_pos har]; rfl
    rw [har] at c1
    generalize toS (mkA s a) = X at hM ⊢
    have hx := hM.out
    have q1 : (a : Int) ≤ (a : Int) + 2 := by omega
    have q2 : (a : Int) + 2 ≤ (s.size : Int) := by omega
    have q3 : ((a : Int) + 2).toNat = a + 2 := by omega
    have q4 : (0 : Int) ≤ (a : Int) + 2 := by omega
    clear hr l2 har c2 hM
    go_enter Try.func30, Try.ntmps30
    go_wp2_with fail
    refine (c1.out _).mono ?_; rintro e w1 ⟨rfl, rfl⟩
    go_wp2_with fail
    go_ret
    exact ⟨by rw [← hx]; rfl, rfl⟩
  · have har : arB s a = false := by simpa using har
    rw [har] at c1
    by_cases hlt : a < s.size
    · have hv := Lib.hid (chA_in hlt)
      obtain ⟨c, hc⟩ : ∃ c, s[a] = c := ⟨_, rfl⟩
      obtain ⟨D, hD⟩ : ∃ D, c.toNat = D := ⟨_, rfl⟩
      have hdn : s[a].toNat = D := by rw [hc, hD]
      rw [hdn] at hv
      rw [hv.out] at c2
      have hE : mkA s a = if markN D = true then [c] else [] := by
        unfold mkA
        rw [if_neg (by rw [har]; decide), dif_pos hlt, hdn, hc]
      by_cases hm : markN D = true
      · have hx : s.extract a (a + 1) = toS (mkA s a) := by
          rw [hE, if_pos hm, cut_is, rest_at hlt, hc]; rfl
        generalize toS (mkA s a) = X at hx ⊢
        have q1 : (a : Int) ≤ (a : Int) + 1 := by omega
        have q2 : (a : Int) + 1 ≤ (s.size : Int) := by omega
        have q3 : ((a : Int) + 1).toNat = a + 1 := by omega
        have q4 : (0 : Int) ≤ (a : Int) + 1 := by omega
        have h15 : D = 123 ∨ D = 125 ∨ D = 40 ∨ D = 41 ∨ D = 91 ∨ D = 93 ∨ D = 44 ∨ D = 59 ∨ D = 58 ∨ D = 61 ∨ D = 43 ∨ D = 45 ∨ D = 42 ∨ D = 47 ∨ D = 46 := by
          unfold markN at hm
          simpa using hm
        have HX := Lib.hid hx
        clear hE hm hv hdn hD hc har
        rcases h15 with rfl | rfl | rfl | rfl | rfl | rfl | rfl | rfl | rfl | rfl | rfl | rfl | rfl | rfl | rfl <;>
        · go_enter Try.func30, Try.ntmps30
          go_wp2_with fail
          refine (c1.out _).mono ?_; rintro e w1 ⟨rfl, rfl⟩
          go_wp2_with fail
          refine (c2.out _).mono ?_; rintro e w1 ⟨rfl, rfl⟩
          go_wp2_with fail
          go_ret
          exact ⟨by rw [← HX.out]; rfl, rfl⟩
      · have hE' := Lib.hid (show toS (mkA s a) = ⟨#[]⟩ by rw [hE, if_neg hm]; rfl)
        have h15 : ¬ (D = 123 ∨ D = 125 ∨ D = 40 ∨ D = 41 ∨ D = 91 ∨ D = 93 ∨ D = 44 ∨ D = 59 ∨ D = 58 ∨ D = 61 ∨ D = 43 ∨ D = 45 ∨ D = 42 ∨ D = 47 ∨ D = 46) := by
          unfold markN at hm
          simpa using hm
        have bs : ∀ k : Nat, D ≠ k → ((D : Int) == (k : Int)) = false := fun k h => beq_false_of_ne (by omega)
        have b1 : ((D : Int) == 123) = false := bs 123 (by omega)
        have b2 : ((D : Int) == 125) = false := bs 125 (by omega)
        have b3 : ((D : Int) == 40) = false := bs 40 (by omega)
        have b4 : ((D : Int) == 41) = false := bs 41 (by omega)
        have b5 : ((D : Int) == 91) = false := bs 91 (by omega)
        have b6 : ((D : Int) == 93) = false := bs 93 (by omega)
        have b7 : ((D : Int) == 44) = false := bs 44 (by omega)
        have b8 : ((D : Int) == 59) = false := bs 59 (by omega)
        have b9 : ((D : Int) == 58) = false := bs 58 (by omega)
        have b10 : ((D : Int) == 61) = false := bs 61 (by omega)
        have b11 : ((D : Int) == 43) = false := bs 43 (by omega)
        have b12 : ((D : Int) == 45) = false := bs 45 (by omega)
        have b13 : ((D : Int) == 42) = false := bs 42 (by omega)
        have b14 : ((D : Int) == 47) = false := bs 47 (by omega)
        have b15 : ((D : Int) == 46) = false := bs 46 (by omega)
        clear hE hm hv hdn hD hc har bs h15
        go_enter Try.func30, Try.ntmps30
        go_wp2_with fail
        refine (c1.out _).mono ?_; rintro e w1 ⟨rfl, rfl⟩
        go_wp2_with fail
        refine (c2.out _).mono ?_; rintro e w1 ⟨rfl, rfl⟩
        go_wp2_with fail
        go_ret
        exact ⟨by rw [hE'.out]; rfl, rfl⟩
    · have hv := chA_out (show s.size ≤ a by omega)
      rw [hv] at c2
      have hE' := Lib.hid (show toS (mkA s a) = ⟨#[]⟩ by unfold mkA; rw [if_neg (by rw [har]; decide), dif_neg hlt]; rfl)
      clear hv har hlt
      go_enter Try.func30, Try.ntmps30
      go_wp2_with fail
      refine (c1.out _).mono ?_; rintro e w1 ⟨rfl, rfl⟩
      go_wp2_with fail
      refine (c2.out _).mono ?_; rintro e w1 ⟨rfl, rfl⟩
      go_wp2_with fail
      go_ret
      exact ⟨by rw [hE'.out]; rfl, rfl⟩
theorem mkA_mkL (s : ByteArray) (h : s.data.toList ≠ []) : (mkA s 0 == s.data.toList) = mkL s.data.toList := by
  have hl := len_data s
  have h0 : 0 < s.size := by
    rw [← hl]
    exact List.length_pos_iff.2 h
  by_cases har : arB s 0 = true
  · have e : mkA s 0 = [45, 62] := by unfold mkA; rw [if_pos har]
    obtain ⟨_, hr⟩ := arB_in har
    rw [e, ← rest_zero, hr]
    cases rest s (0 + 2) with
    | nil => rfl
    | cons x r => rfl
  · have har : arB s 0 = false := by simpa using har
    have e : mkA s 0 = if markN s[0].toNat = true then [s[0]] else [] := by
      unfold mkA
      rw [if_neg (by rw [har]; decide), dif_pos h0]
    have hd : s.data.toList = s[0] :: rest s 1 := by rw [← rest_zero, rest_at h0]
    rw [arB_gt h0] at har
    rw [e, hd]
    have hne : (mkL (s[0] :: rest s 1)) = (match rest s 1 with | [] => markN s[0].toNat | _ => false) := by
      cases hr : rest s 1 with
      | nil =>
        unfold mkL
        rw [beq_false_of_ne (by simp)]; rfl
      | cons x r =>
        unfold mkL
        show (_ || false) = false
        rw [Bool.or_false]
        refine beq_false_of_ne fun e => ?_
        injection e with e1 e2
        injection e2 with e2 e3
        rw [show rest s (0 + 1) = rest s 1 from rfl, hr, e1, e2] at har
        exact absurd (show true = false from har) (by decide)
    rw [hne]
    cases hr : rest s 1 with
    | nil =>
      by_cases hm : markN s[0].toNat = true
      · rw [if_pos hm, hm]
        exact beq_self_eq_true _
      · rw [if_neg hm]
        simp at hm
        rw [hm]; rfl
    | cons x r =>
      by_cases hm : markN s[0].toNat = true
      · rw [if_pos hm]
        exact beq_false_of_ne (by simp)
      · rw [if_neg hm]; rfl
theorem qMark_any (s : ByteArray) (w : World) : Calls Try.prog 19 #[.string s] w fun e w' => e = .returned (.bool (mkL s.data.toList)) ∧ Below w.heap.size w w' := by
  by_cases h : s.data.toList = []
  · have hq : s.toList.isEmpty = true := by rw [Lib.toList_data, h]; rfl
    have E := Lib.hid (show mkL s.data.toList = false by rw [h]; rfl)
    clear h
    go_enter Try.func19, Try.ntmps19
    go_wp2_with fail
    go_ret
    exact ⟨ret_bool E.out.symm, Below.refl _ _⟩
  · have hq : s.toList.isEmpty = false := by
      rw [Lib.toList_data]
      cases hh : s.data.toList with
      | nil => exact absurd hh h
      | cons _ _ => rfl
    have hX : ((toS (mkA s 0)).toList == s.toList) = mkL s.data.toList := by
      rw [toS_list, Lib.toList_data]
      exact mkA_mkL s h
    have c1 := Lib.hid (fun w => pmarkAt_any s 0 w (by decide))
    generalize toS (mkA s 0) = X at hX c1
    generalize mkL s.data.toList = R at hX ⊢
    clear h
    go_enter Try.func19, Try.ntmps19
    go_wp2_with fail
    refine (c1.out _).mono ?_; rintro e w1 ⟨rfl, rfl⟩
    go_wp2_with fail
    go_ret
    exact ⟨ret_bool (by first | rfl | rw [hX] | simp [hX]), Below.refl _ _⟩
/-! ### The characters of strings -/
/-- A character at a place, and how many bytes it takes; 0 of both if there is none. -/
def stR (s : ByteArray) (a : Nat) : Int × Int :=
  if plI (chA s a) = true then (chA s a, 1) else if chA s a ≠ 92 then (0, 0) else if escI (chA s (a + 1)) = -1 then (0, 0) else (escI (chA s (a + 1)), 2)
set_option maxHeartbeats 1000000 in
theorem pstr_any (s : ByteArray) (a : Nat) (w : World) (ha : a ≤ 1000000) : Calls Try.prog 48 #[.string s, .int .i64 (a : Int)] w fun e w' => e = .returned (.tuple #[.int .i32 (stR s a).1, .int .i64 (stR s a).2]) ∧ w = w' := by
  have c1 := Lib.hid (fun w => charAt_any s a w)
  have c2 := Lib.hid (fun w => charAt_any s (a + 1) w)
  have F := Lib.hid (show stR s a = if plI (chA s a) = true then (chA s a, 1) else if chA s a ≠ 92 then (0, 0) else if escI (chA s (a + 1)) = -1 then (0, 0) else (escI (chA s (a + 1)), 2) from rfl)
  have b1 := chA_bd s a
  have b2 := chA_bd s (a + 1)
  generalize stR s a = R at F ⊢
  generalize chA s a = x at c1 F b1
  generalize chA s (a + 1) = y at c2 F b2
  have c3 := Lib.hid (fun w => pplain_any x w)
  have c4 := Lib.hid (fun w => pescaped_any y w)
  by_cases hp : plI x = true
  · have G := Lib.hid (show R = (x, 1) by rw [F.out, if_pos hp])
    rw [hp] at c3
    clear F hp
    go_enter Try.func48, Try.ntmps48
    go_wp2_with fail
    refine (c1.out _).mono ?_; rintro e w1 ⟨rfl, rfl⟩
    go_wp2_with fail
    refine (c3.out _).mono ?_; rintro e w1 ⟨rfl, rfl⟩
    go_wp2_with fail
    (try simp only [Exit.inBlock, Exit.then]); refine bodyPost_ret (results_tmp2 rfl _ _ _) rfl ?_
    exact ⟨by rw [G.out]; rfl, rfl⟩
  · have hp' : plI x = false := by simpa using hp
    rw [hp'] at c3
    by_cases h92 : x = 92
    · subst h92
      by_cases he : escI y = -1
      · have G := Lib.hid (show R = (0, 0) by rw [F.out, if_neg hp, if_neg (fun h => h rfl), if_pos he])
        rw [he] at c4
        clear F hp he hp'
        go_enter Try.func48, Try.ntmps48
        go_wp2_with fail
        refine (c1.out _).mono ?_; rintro e w1 ⟨rfl, rfl⟩
        go_wp2_with fail
        refine (c3.out _).mono ?_; rintro e w1 ⟨rfl, rfl⟩
        go_wp2_with fail
        refine (c2.out _).mono ?_; rintro e w1 ⟨rfl, rfl⟩
        go_wp2_with fail
        refine (c4.out _).mono ?_; rintro e w1 ⟨rfl, rfl⟩
        go_wp2_with fail
        (try simp only [Exit.inBlock, Exit.then]); refine bodyPost_ret (results_tmp2 rfl _ _ _) rfl ?_
        exact ⟨by rw [G.out]; rfl, rfl⟩
      · have G := Lib.hid (show R = (escI y, 2) by rw [F.out, if_neg hp, if_neg (fun h => h rfl), if_neg he])
        generalize escI y = z at c4 G he
        have bz : (z == -1) = false := beq_false_of_ne he
        clear F hp he hp'
        go_enter Try.func48, Try.ntmps48
        go_wp2_with fail
        refine (c1.out _).mono ?_; rintro e w1 ⟨rfl, rfl⟩
        go_wp2_with fail
        refine (c3.out _).mono ?_; rintro e w1 ⟨rfl, rfl⟩
        go_wp2_with fail
        refine (c2.out _).mono ?_; rintro e w1 ⟨rfl, rfl⟩
        go_wp2_with fail
        refine (c4.out _).mono ?_; rintro e w1 ⟨rfl, rfl⟩
        go_wp2_with fail
        (try simp only [Exit.inBlock, Exit.then]); refine bodyPost_ret (results_tmp2 rfl _ _ _) rfl ?_
        exact ⟨by rw [G.out]; rfl, rfl⟩
    · have G := Lib.hid (show R = (0, 0) by rw [F.out, if_neg hp, if_pos h92])
      have bx : (x != 92) = true := bne_iff_ne.2 h92
      clear F hp hp' h92
      go_enter Try.func48, Try.ntmps48
      go_wp2_with fail
      refine (c1.out _).mono ?_; rintro e w1 ⟨rfl, rfl⟩
      go_wp2_with fail
      refine (c3.out _).mono ?_; rintro e w1 ⟨rfl, rfl⟩
      go_wp2_with fail
      (try simp only [Exit.inBlock, Exit.then]); refine bodyPost_ret (results_tmp2 rfl _ _ _) rfl ?_
      exact ⟨by rw [G.out]; rfl, rfl⟩
/-- One step of a string: a character, or its end. -/
theorem st_step (s : ByteArray) (a : Nat) :
    (∃ (d : UInt8) (n : Nat), stR s a = ((d.toNat : Int), (n : Int)) ∧ 1 ≤ n ∧ n ≤ 2 ∧ a + n ≤ s.size ∧ ∀ o k, tx o k (rest s a) = tx (o ++ [d]) (k + n) (rest s (a + n))) ∨
    (stR s a = (0, 0) ∧ ∀ o k, tx o k (rest s a) = if chA s a = 34 then (o, k + 1, true) else ([], k, false)) := by
  unfold stR
  rcases Nat.lt_or_ge a s.size with l1 | l1
  · rw [chA_in l1, plI_nat, rest_at l1]
    generalize s[a] = c
    by_cases hp : (chN c.toNat && c.toNat != 34 && c.toNat != 92) = true
    · rw [if_pos hp]
      simp at hp
      exact .inl ⟨c, 1, rfl, Nat.le_refl _, by decide, l1, fun o k => tx_char o k _ hp.1.2 hp.1.1 hp.2⟩
    · rw [if_neg hp]
      by_cases h92 : c.toNat = 92
      · rw [if_neg (by omega)]
        rcases Nat.lt_or_ge (a + 1) s.size with l2 | l2
        · rw [chA_in l2, rest_at l2]
          generalize s[a + 1] = d
          by_cases e1 : d.toNat = 34 ∨ d.toNat = 92
          · have he : escI (d.toNat : Int) = (d.toNat : Int) := by
              unfold escI
              rcases e1 with e | e <;> rw [e] <;> rfl
            rw [he, if_neg (by omega)]
            exact .inl ⟨d, 2, rfl, by decide, Nat.le_refl _, l2, fun o k => tx_esc o k _ h92 e1⟩
          · by_cases e2 : d.toNat = 110
            · have he : escI (d.toNat : Int) = 10 := by rw [e2]; rfl
              rw [he, if_neg (by decide)]
              exact .inl ⟨10, 2, rfl, by decide, Nat.le_refl _, l2, fun o k => tx_line o k _ h92 e2⟩
            · have he : escI (d.toNat : Int) = -1 := by
                unfold escI
                rw [if_neg (by omega), if_neg (by omega), if_neg (by omega)]
              rw [he, if_pos rfl]
              exact .inr ⟨rfl, fun o k => by rw [tx_other o k _ h92 (by omega) (by omega) e2, if_neg (by omega)]⟩
        · rw [chA_out l2, rest_end l2]
          exact .inr ⟨rfl, fun o k => by rw [tx_end o k h92, if_neg (by omega)]⟩
      · rw [if_pos (by omega)]
        refine .inr ⟨rfl, fun o k => ?_⟩
        by_cases h34 : c.toNat = 34
        · rw [tx_quote o k _ h34, if_pos (by omega)]
        · have hch : chN c.toNat = false := by
            simp at hp
            cases hc : chN c.toNat
            · rfl
            · exact absurd (hp hc h34) h92
          rw [tx_bad o k _ h34 hch, if_neg (by omega)]
  · rw [chA_out l1, rest_end l1]
    exact .inr ⟨rfl, fun o k => by rw [tx_nil, if_neg (by decide)]⟩
end Go.Proofs.Ytdpnmlgadieamaa.Lx
