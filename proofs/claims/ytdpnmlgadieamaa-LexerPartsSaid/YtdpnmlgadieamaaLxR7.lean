/-
  Contract of the reference of layer 7: Print.
-/
import Derived.Test.YtdpnmlgadieamaaLxR6
namespace Go.Proofs.Ytdpnmlgadieamaa.Lx
open Go.RowKit

/-- What is written of a lexeme, if anything. -/
def pcO (x : LexI) : Option (List UInt8) :=
  if x.k = 1 then some x.t else if x.k = 4 then some x.t else if x.k = 2 then some (textL x.n) else if x.k = 3 then (if qok x.t = true then some (34 :: (qb x.t ++ [34])) else none) else none
def prF : List UInt8 → Bool → List LexI → List UInt8
  | acc, _, [] => acc
  | acc, b, x :: r => match pcO x with
    | none => prF acc b r
    | some t => prF (acc ++ (if b = true then [32] else []) ++ t) true r
theorem prF_none {acc : List UInt8} {b : Bool} {l : List LexI} {j : Nat} {x : LexI} {R : List UInt8} (hj : l[j]? = some x) (h : pcO x = none) (hR : prF acc b (l.drop j) = R) : prF acc b (l.drop (j + 1)) = R := by
  have hlt := (List.getElem?_eq_some_iff.1 hj)
  rw [List.drop_eq_getElem_cons hlt.1, hlt.2, prF, h] at hR
  exact hR
theorem prF_some {acc : List UInt8} {b : Bool} {l : List LexI} {j : Nat} {x : LexI} {R t : List UInt8} (hj : l[j]? = some x) (h : pcO x = some t) (hR : prF acc b (l.drop j) = R) : prF (acc ++ (if b = true then [32] else []) ++ t) true (l.drop (j + 1)) = R := by
  have hlt := (List.getElem?_eq_some_iff.1 hj)
  rw [List.drop_eq_getElem_cons hlt.1, hlt.2, prF, h] at hR
  exact hR
theorem lenD_le : ∀ f m : Nat, lenD f m ≤ f + 1
  | 0, _ => Nat.le_refl _
  | f + 1, m => by
    unfold lenD
    split
    · omega
    · have := lenD_le f (m / 10); omega
theorem textL_len (n : Int) : (textL n).length ≤ 100 := by
  have h : ∀ m : Nat, (digs m).length ≤ 20 := fun m => by unfold digs; rw [lowD_length]; exact lenD_le 19 m
  unfold textL
  split
  · rw [List.length_cons]; have := h n.natAbs; omega
  · have := h n.natAbs; omega
/-- Short texts, numbers of 64 bits. -/
def Mild (l : List LexI) : Prop := l.length ≤ 20000 ∧ ∀ x ∈ l, x.t.length ≤ 20000 ∧ In64 x.n
set_option maxHeartbeats 4000000 in
set_option maxRecDepth 100000 in
theorem rprint_any (l : List LexI) (v : Value) (w : World) (hl : Lexs w v l) (hm : Mild l) : Calls Try.prog 18 #[v] w fun e w' => e = .returned (.string (toS (prF [] false l))) ∧ Below w.heap.size w w' := by
  obtain ⟨p, c, hv⟩ := hl.nil
  subst hv
  have HL := Lib.hid hl
  have HM := Lib.hid hm.2
  obtain ⟨N, hN⟩ : ∃ N, l.length = N := ⟨_, rfl⟩
  have hN1 : N ≤ 20000 := by rw [← hN]; exact hm.1
  obtain ⟨R, hR⟩ : ∃ R, prF [] false l = R := ⟨_, rfl⟩
  rw [hN, hR]
  have HN := Lib.hid hN
  have HR := Lib.hid hR
  have c1 := Lib.hid (fun n h0 h1 w => refText_any n w h0 h1)
  have c2 := Lib.hid (fun s hs w => rquote_any s w hs)
  rw [hN] at hl
  clear hl hm hN hR
  go_enter Try.func18, Try.ntmps18
  go_wp2_with fail
  go_loopw [3, 4, 5] (fun s b x wr => ∃ (acc : List UInt8) (f : Bool) (j : Nat), s = .string (toS acc) ∧ b = .bool f ∧ x = .int .i64 (j : Int) ∧ j ≤ N ∧ acc.length ≤ j * 50000 ∧ Hid (Below w.heap.size w wr) ∧ Hid (prF acc f (l.drop j) = R)) (fun _ _ x _ => N - (intOf x).toNat)
  case atStart => exact ⟨[], false, 0, rfl, rfl, rfl, Nat.zero_le _, Nat.zero_le _, Below.refl _ _, HR.out⟩
  case round =>
    obtain ⟨acc, f, j, rfl, rfl, rfl, hj, hal, hB, hR⟩ := hrel
    by_cases hlt : j < N
    · have hlt' : (j : Int) < (N : Int) := by omega
      have hal2 : acc.length ≤ 1000000000 := Nat.le_trans hal (Nat.le_trans (Nat.mul_le_mul_right 50000 (Nat.le_trans hj hN1)) (by decide))
      obtain ⟨x, hx⟩ : ∃ x, l[j]? = some x := ⟨_, List.getElem?_eq_getElem (by rw [HN.out]; exact hlt)⟩
      obtain ⟨bb, off, cc, e1, ha⟩ := HL.out.open (show 0 < l.length by rw [HN.out]; omega)
      rw [HN.out] at e1
      simp only [Value.slice.injEq] at e1
      obtain ⟨rfl, -, rfl⟩ := e1
      obtain ⟨y0, y1, y2, -⟩ := ha.at_ j x hx
      have lb := ha.lt
      have y0 := (hB.out.cell lb).trans y0
      have y1 := (hB.out.cell lb).trans y1
      have y2 := (hB.out.cell lb).trans y2
      have mx := HM.out x (List.mem_of_getElem? hx)
      have no := Lib.hid (fun h => prF_none hx h hR.out)
      have ye := Lib.hid (fun t h => prF_some (t := t) hx h hR.out)
      obtain ⟨k, t, n, a⟩ := x
      simp only at y0 y1 y2 mx
      obtain ⟨mt, mn⟩ := mx
      have mt := Lib.hid mt
      have mn := Lib.hid mn
      have hp1 : Hid (∀ m : List UInt8, m.length ≤ 40010 → ((acc ++ (if f = true then [32] else []) ++ m).length ≤ (j + 1) * 50000)) := fun m h => by
        rw [List.length_append, List.length_append, Nat.add_mul]
        have : (if f = true then [32] else ([] : List UInt8)).length ≤ 1 := by split <;> decide
        omega
      have a1 : ∀ W : World, (Op.stringOp .add (toS acc) ⟨#[32]⟩).run Try.prog W = .ok (.string (toS (acc ++ [32]))) W := add_lists acc [32] (by show _ + 1 ≤ _; omega)
      have a2 : Hid (∀ m : List UInt8, m.length ≤ 40010 → ∀ W : World, (Op.stringOp .add (toS (acc ++ [32])) (toS m)).run Try.prog W = .ok (.string (toS (acc ++ [32] ++ m))) W) := fun m h => add_lists (acc ++ [32]) m (by rw [List.length_append]; show _ + 1 + _ ≤ _; omega)
      have a3 : Hid (∀ m : List UInt8, m.length ≤ 40010 → ∀ W : World, (Op.stringOp .add (toS acc) (toS m)).run Try.prog W = .ok (.string (toS (acc ++ m))) W) := fun m h => add_lists acc m (by omega)
      clear hx ha hR hal hal2
      by_cases k1 : k = 1
      · subst k1
        have hO : Hid (pcO ⟨1, t, n, a⟩ = some t) := rfl
        have hl40 := (show t.length ≤ 40010 by have := mt.out; omega)
        have hp := Lib.hid (hp1.out _ hl40)
        have hr := Lib.hid (ye.out _ hO.out)
        have b2 := a2.out _ hl40
        have b3 := a3.out _ hl40
        clear no ye hp1 a2 a3 hO
        cases f with
        | true =>
          clear c1 c2
          go_wp2_with fail
          exact ⟨⟨acc ++ 32 :: t, true, j + 1, rfl, rfl, rfl, hlt, by have := hp.out; simpa using this, hB.out, by show _ = _; have := hr.out; simpa using this⟩, by simp [intOf]; omega⟩
        | false =>
          clear c1 c2
          go_wp2_with fail
          exact ⟨⟨acc ++ t, true, j + 1, rfl, rfl, rfl, hlt, by have := hp.out; simpa using this, hB.out, by show _ = _; have := hr.out; simpa using this⟩, by simp [intOf]; omega⟩
      · have b1 : (k == 1) = false := beq_false_of_ne k1
        by_cases k4 : k = 4
        · subst k4
          have hO : Hid (pcO ⟨4, t, n, a⟩ = some t) := rfl
          have hl40 := (show t.length ≤ 40010 by have := mt.out; omega)
          have hp := Lib.hid (hp1.out _ hl40)
          have hr := Lib.hid (ye.out _ hO.out)
          have b2 := a2.out _ hl40
          have b3 := a3.out _ hl40
          clear no ye hp1 a2 a3 hO
          cases f with
          | true =>
            clear c1 c2
            go_wp2_with fail
            exact ⟨⟨acc ++ 32 :: t, true, j + 1, rfl, rfl, rfl, hlt, by have := hp.out; simpa using this, hB.out, by show _ = _; have := hr.out; simpa using this⟩, by simp [intOf]; omega⟩
          | false =>
            clear c1 c2
            go_wp2_with fail
            exact ⟨⟨acc ++ t, true, j + 1, rfl, rfl, rfl, hlt, by have := hp.out; simpa using this, hB.out, by show _ = _; have := hr.out; simpa using this⟩, by simp [intOf]; omega⟩
        · have b4 : (k == 4) = false := beq_false_of_ne k4
          by_cases k2 : k = 2
          · subst k2
            have hO : Hid (pcO ⟨2, t, n, a⟩ = some (textL n)) := rfl
            have d1 := Lib.hid (c1.out n mn.out.1 mn.out.2)
            have htb : Hid (textB n = toS (textL n)) := rfl
            rw [htb.out] at d1
            have hl40 := (show (textL n).length ≤ 40010 by have := textL_len n; omega)
            have hp := Lib.hid (hp1.out _ hl40)
            have hr := Lib.hid (ye.out _ hO.out)
            have b2 := a2.out _ hl40
            have b3 := a3.out _ hl40
            clear no ye hp1 a2 a3 hO
            generalize textL n = X at b2 b3 d1 hp hr
            cases f with
            | true =>
              clear c1 c2
              go_wp2_with fail
              refine (d1.out _).mono ?_; rintro e w3 ⟨rfl, k3⟩
              go_wp2_with fail
              exact ⟨⟨acc ++ 32 :: X, true, j + 1, rfl, rfl, rfl, hlt, by have := hp.out; simpa using this, stepB hB.out k3, by show _ = _; have := hr.out; simpa using this⟩, by simp [intOf]; omega⟩
            | false =>
              clear c1 c2
              go_wp2_with fail
              refine (d1.out _).mono ?_; rintro e w3 ⟨rfl, k3⟩
              go_wp2_with fail
              exact ⟨⟨acc ++ X, true, j + 1, rfl, rfl, rfl, hlt, by have := hp.out; simpa using this, stepB hB.out k3, by show _ = _; have := hr.out; simpa using this⟩, by simp [intOf]; omega⟩
          · have b2 : (k == 2) = false := beq_false_of_ne k2
            by_cases k3 : k = 3
            · subst k3
              have d1 := Lib.hid (c2.out (toS t) (by rw [toS_size]; have := mt.out; omega))
              rw [data_toS] at d1
              unfold QtEnd qtV qtE at d1
              by_cases hq : qok t = true
              · have hO : Hid (pcO ⟨3, t, n, a⟩ = some (34 :: (qb t ++ [34]))) := if_pos hq
                rw [if_pos hq, if_pos hq] at d1
                have hqb := qb_len t
                have hl40 := (show (34 :: (qb t ++ [34])).length ≤ 40010 by have := mt.out; rw [List.length_cons, List.length_append]; show _ + 1 + 1 ≤ _; omega)
                have hp := Lib.hid (hp1.out _ hl40)
                have hr := Lib.hid (ye.out _ hO.out)
                have b2 := a2.out _ hl40
                have b3 := a3.out _ hl40
                clear no ye hp1 a2 a3 hO
                generalize 34 :: (qb t ++ [34]) = X at b2 b3 d1 hp hr
                clear hqb hq
                cases f with
                | true =>
                  clear c1 c2
                  go_wp2_with fail
                  refine (d1.out _).mono ?_; rintro e w3 ⟨rfl, k3⟩
                  go_wp2_with fail
                  exact ⟨⟨acc ++ 32 :: X, true, j + 1, rfl, rfl, rfl, hlt, by have := hp.out; simpa using this, stepB hB.out k3, by show _ = _; have := hr.out; simpa using this⟩, by simp [intOf]; omega⟩
                | false =>
                  clear c1 c2
                  go_wp2_with fail
                  refine (d1.out _).mono ?_; rintro e w3 ⟨rfl, k3⟩
                  go_wp2_with fail
                  exact ⟨⟨acc ++ X, true, j + 1, rfl, rfl, rfl, hlt, by have := hp.out; simpa using this, stepB hB.out k3, by show _ = _; have := hr.out; simpa using this⟩, by simp [intOf]; omega⟩
              · have hO : Hid (pcO ⟨3, t, n, a⟩ = none) := if_neg hq
                rw [if_neg hq, if_neg hq] at d1
                have hr := Lib.hid (no.out hO.out)
                have hp := Lib.hid (hp1.out [] (by decide))
                clear c1 c2 no ye hp1 a1 a2 a3 hO hq
                go_wp2_with fail
                refine (d1.out _).mono ?_; rintro e w3 ⟨rfl, k3⟩
                go_wp2_with fail
                exact ⟨⟨acc, f, j + 1, rfl, rfl, rfl, hlt, by have := hp.out; rw [List.append_nil, List.length_append] at this; omega, stepB hB.out k3, hr.out⟩, by simp [intOf]; omega⟩
            · have b3 : (k == 3) = false := beq_false_of_ne k3
              have hO : Hid (pcO ⟨k, t, n, a⟩ = none) := by
                show _ = _
                unfold pcO
                rw [if_neg k1, if_neg k4, if_neg k2, if_neg k3]
              have hr := Lib.hid (no.out hO.out)
              have hp := Lib.hid (hp1.out [] (by decide))
              clear c1 c2 no ye hp1 a1 a2 a3 hO
              go_wp2_with fail
              exact ⟨⟨acc, f, j + 1, rfl, rfl, rfl, hlt, by have := hp.out; rw [List.append_nil, List.length_append] at this; omega, hB.out, hr.out⟩, by simp [intOf]; omega⟩
    · obtain rfl : j = N := by omega
      have hlt' : ¬ (j : Int) < (j : Int) := by omega
      have F : Hid (acc = R) := by
        have := hR.out
        rw [← HN.out, List.drop_length] at this
        exact this
      clear hR
      go_wp2_with fail
      go_ret
      exact ⟨by rw [← F.out]; rfl, hB.out⟩
end Go.Proofs.Ytdpnmlgadieamaa.Lx
