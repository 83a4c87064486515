/-
  Contract of the program of layer 8: Normal.
-/
import Derived.Test.YtmfhjgddpkecfaaSpP3
namespace Go.Proofs.Ytmfhjgddpkecfaa.Sp
open Go.RowKit

/-- A slice of spans in memory. -/
def SpEnd (L : List Spn) (w : World) (e : Ending) (w' : World) : Prop := ∃ v, e = .returned v ∧ Spns w' v L ∧ Below w.heap.size w w'
theorem no_sp {L : List Spn} {w w' : World} {e : Ending} (h : NoEnd L w e w') : SpEnd L w e w' := by
  obtain ⟨v, h1, h2, h3⟩ := h
  exact ⟨v, h1, h2.spns, h3⟩
theorem SpnAt.take {w : World} {b off c : Nat} {l : List Spn} (h : SpnAt w b off c l) {k : Nat} (hk : k ≤ l.length) : Spns w (.slice (some ⟨b, off, none⟩) k c) (l.take k) := by
  have e : (l.take k).length = k := by rw [List.length_take]; omega
  have hc := h.cap
  refine ⟨_, c, by rw [e], by omega, fun _ => ⟨b, off, rfl, h.lt, by omega, fun j x hj => h.at_ j x ?_⟩⟩
  have hlt := (List.getElem?_eq_some_iff.1 hj).1
  rw [List.getElem?_take, if_pos (by omega)] at hj
  exact hj
theorem SpnAt.drop {w : World} {b off c : Nat} {l : List Spn} (h : SpnAt w b off c l) {k : Nat} (hk : k ≤ l.length) : Spns w (.slice (some ⟨b, off + k * 2, none⟩) (l.length - k) (c - k)) (l.drop k) := by
  have e : (l.drop k).length = l.length - k := List.length_drop
  have hc := h.cap
  refine ⟨_, c - k, by rw [e], by omega, fun _ => ⟨b, off + k * 2, rfl, h.lt, by omega, fun j x hj => ?_⟩⟩
  rw [List.getElem?_drop] at hj
  have := h.at_ _ x hj
  rw [show off + k * 2 + j * 2 = off + (k + j) * 2 by omega]
  exact this
theorem norm_one {x : Spn} (h : x.1 < x.2) : normL [x] = [x] := norm_same (a := [x]) h
theorem norm_one0 {x : Spn} (h : ¬ x.1 < x.2) : normL [x] = [] := by
  have : normL [x] = joinL (srtF [] [x]) := rfl
  rw [this, srtF, if_pos (by omega)]; rfl
theorem spns_nil (w : World) (p : Option Addr) (c : Nat) : Spns w (.slice p 0 c) [] := ⟨p, c, rfl, Nat.zero_le _, fun h => absurd h (Nat.lt_irrefl _)⟩
theorem spns_new (W : World) (p q : Int) : Spns (W.alloc (.cells #[.int .i64 p, .int .i64 q] 38)) (.slice (some ⟨W.heap.size, 0, none⟩) 1 1) [(p, q)] := by
  refine ⟨_, 1, rfl, Nat.le_refl _, fun _ => ⟨W.heap.size, 0, rfl, by rw [size_alloc]; exact Nat.lt_succ_self _, Nat.le_refl _, fun j x hj => ?_⟩⟩
  match j, hj with
  | 0, hj =>
    simp at hj
    subst hj
    exact ⟨World.cell?_alloc_mark W #[.int .i64 p, .int .i64 q] _ (0, 0) 0, World.cell?_alloc_mark W #[.int .i64 p, .int .i64 q] _ (0, 0) 1⟩
set_option maxHeartbeats 4000000 in
set_option maxRecDepth 100000 in
theorem pnormal_rec : ∀ (n : Nat) (l : List Spn) (v : Value) (w : World), l.length = n → n ≤ 20000 → Spns w v l → Calls Try.prog 13 #[v] w (SpEnd (normL l) w) := by
  intro n
  induction n using Nat.strongRecOn with
  | ind n ih =>
    intro l v w hn hn1 hv
    by_cases h0 : n = 0
    · obtain rfl : l = [] := List.eq_nil_of_length_eq_zero (by omega)
      obtain ⟨p, c, rfl⟩ := hv.nil
      clear ih hv
      go_enter Try.func13, Try.ntmps13
      go_wp2_with fail
      go_quiet (fail)
      go_wp2_with fail
      go_ret
      exact ⟨_, rfl, spns_nil _ _ _, below_drewN (Below.refl _ _) _⟩
    · by_cases h1 : n = 1
      · obtain ⟨x, rfl⟩ : ∃ x, l = [x] := List.length_eq_one_iff.1 (by omega)
        obtain ⟨b, off, c, rfl, ha⟩ := hv.open (Nat.succ_pos _)
        obtain ⟨x0, x1⟩ := ha.at_ 0 x rfl
        simp only [Nat.zero_mul, Nat.add_zero] at x0 x1
        have hc := ha.cap
        by_cases hx : x.1 < x.2
        · rw [norm_one hx]
          obtain ⟨p, q⟩ := x
          simp only at x0 x1 hx
          clear ih hv ha
          go_enter Try.func13, Try.ntmps13
          go_wp2_with fail
          go_quiet (fail)
          go_wp2_with fail
          go_ret
          exact ⟨_, rfl, spns_new _ p q, (below_drewN (Below.refl w.heap.size w) _).alloc (Nat.le_refl _) _⟩
        · rw [norm_one0 hx]
          obtain ⟨p, q⟩ := x
          simp only at x0 x1 hx
          clear ih hv ha
          go_enter Try.func13, Try.ntmps13
          go_wp2_with fail
          go_quiet (fail)
          go_wp2_with fail
          go_ret
          exact ⟨_, rfl, spns_nil _ _ _, below_drewN (Below.refl _ _) _⟩
      · obtain ⟨b, off, c, rfl, ha⟩ := hv.open (by omega)
        obtain ⟨k, hk⟩ : ∃ k, n / 2 = k := ⟨_, rfl⟩
        have hk1 : 1 ≤ k := by omega
        have hk2 : k < n := by omega
        have hck : ¬ c = k := by have := ha.cap; omega
        have hcap := ha.cap
        have cL := Lib.hid (fun W (hB : Below w.heap.size w W) => ih k hk2 (l.take k) _ W (by rw [List.length_take]; omega) (by omega) ((ha.below hB).take (by omega)))
        have cD := Lib.hid (fun W (hB : Below w.heap.size w W) => ih (n - k) (by omega) (l.drop k) _ W (by rw [List.length_drop, hn]) (by omega) ((ha.below hB).drop (by omega)))
        have hU := Lib.hid (mg_half l k)
        have la := norm_len (l.take k)
        have lb := norm_len (l.drop k)
        rw [List.length_take] at la
        rw [List.length_drop] at lb
        have cM := Lib.hid (fun W va vb (h1 : Spns W va (normL (l.take k))) (h2 : Spns W vb (normL (l.drop k))) => pmerge_any (normL (l.take k)) (normL (l.drop k)) va vb W h1 h2 (by omega) (by omega))
        rw [hU.out] at cM
        rw [hn] at cD hcap ⊢
        generalize normL (l.take k) = A at cL cM
        generalize normL (l.drop k) = B at cD cM
        generalize normL l = U at cM ⊢
        have n0 : ((n : Int) == 0) = false := beq_false_of_ne (by omega)
        have n1 : ((n : Int) == 1) = false := beq_false_of_ne (by omega)
        have e2 : (n : Int) / 2 = (k : Int) := by omega
        have p1 : (k : Int) ≤ (c : Int) := by omega
        have p2 : (k : Int) ≤ (n : Int) := by omega
        have p3 : (n : Int) ≤ (c : Int) := by omega
        clear ih hv ha hn hU la lb hk h0 h1
        go_enter Try.func13, Try.ntmps13
        go_wp2_with fail
        go_quiet (fail)
        go_wp2_with fail
        have hB0 := Lib.hid (below_drewN (Below.refl w.heap.size w) nq)
        have hB1 := Lib.hid hB0.out.drew
        go_region_held3 (fun W => Below w.heap.size w W) (first | exact B6.out | exact B5.out | exact B4.out | exact hB1.out | exact hB0.out)
          (first
            | (go_at_call 30; refine (cM.out _ _ _ s4.out s5.out).mono ?_; rintro e w6 ⟨v6, rfl, n6, k6⟩; have B6 := Lib.hid (stepB B5.out k6); have s6 := Lib.hid n6.spns)
            | (go_at_call 13; refine (cD.out _ B4.out).mono ?_; rintro e w5 ⟨v5, rfl, n5, k5⟩; have s5 := Lib.hid n5; have B5 := Lib.hid (stepB B4.out k5); replace s4 := Lib.hid (s4.out.below k5))
            | (go_at_call 13; refine (cL.out _ hB1.out).mono ?_; rintro e w4 ⟨v4, rfl, n4, k4⟩; have s4 := Lib.hid n4; have B4 := Lib.hid (stepB hB1.out k4)))
        all_goals (
          go_wp2_with fail
          go_ret
          exact ⟨_, rfl, s6.out, B6.out⟩)
end Go.Proofs.Ytmfhjgddpkecfaa.Sp
