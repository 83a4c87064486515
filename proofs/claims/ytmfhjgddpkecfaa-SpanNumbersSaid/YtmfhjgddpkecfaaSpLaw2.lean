/-
  What the laws of layer 8 use: canonical.
-/
import Derived.Test.YtmfhjgddpkecfaaSpLaw
namespace Go.Proofs.Ytmfhjgddpkecfaa.Sp
open Go.RowKit

theorem can_snoc : ∀ (d : List Spn) (c x : Spn), canonB (d ++ [c, x]) = (canonB (d ++ [c]) && (decide (c.2 < x.1) && decide (x.1 < x.2)))
  | [], c, x => by simp [canonB, Bool.and_assoc]
  | [y], c, x => by simp [canonB, Bool.and_assoc]
  | y :: z :: d, c, x => by
    have ih := can_snoc (z :: d) c x
    have e : ∀ m, canonB (y :: z :: d ++ m) = (decide (y.1 < y.2) && decide (y.2 < z.1) && canonB (z :: d ++ m)) := fun m => rfl
    rw [e, e, ih, Bool.and_assoc, Bool.and_assoc, Bool.and_assoc]
theorem canon_take : ∀ (l : List Spn) (j : Nat), Canon l → Canon (l.take j)
  | _, 0, _ => trivial
  | [], _ + 1, _ => trivial
  | [x], j + 1, h => by
    rw [List.take_succ_cons, List.take_nil]; exact h
  | x :: y :: r, 1, h => canon_head h
  | x :: y :: r, j + 2, h => by
    have ih := canon_take (y :: r) (j + 1) h.2.2
    rw [List.take_succ_cons] at ih
    rw [List.take_succ_cons, List.take_succ_cons]
    exact ⟨h.1, h.2.1, ih⟩
theorem canB_no {l : List Spn} {j : Nat} (h : canonB (l.take j) = false) : canonB l = false := by
  cases e : canonB l
  · rfl
  · have := (canonB_iff _).2 (canon_take l j ((canonB_iff l).1 e))
    rw [h] at this; exact absurd this (by decide)
theorem can_first {l : List Spn} {x : Spn} (hx : l[0]? = some x) : canonB (l.take 1) = decide (x.1 < x.2) := by
  rw [take_at hx]; rfl
theorem can_next {l : List Spn} {i : Nat} {c x : Spn} (hc : l[i]? = some c) (hx : l[i + 1]? = some x) (h : canonB (l.take (i + 1)) = true) : canonB (l.take (i + 2)) = (decide (c.2 < x.1) && decide (x.1 < x.2)) := by
  rw [take_at hc] at h
  rw [take_at hx, take_at hc, List.append_assoc]
  show canonB (l.take i ++ [c, x]) = _
  rw [can_snoc, h, Bool.true_and]
set_option maxHeartbeats 4000000 in
set_option maxRecDepth 100000 in
theorem canonical_any (l : List Spn) (v : Value) (w : World) (hl : Spns w v l) (hll : l.length ≤ 1000000) :
    Calls Try.prog 27 #[v] w fun e w' => e = .returned (.bool (canonB l)) ∧ Below w.heap.size w w' := by
  have HA := Lib.hid hl
  obtain ⟨pa, ca, rfl⟩ := hl.nil
  clear hl
  obtain ⟨R, hR⟩ : ∃ R, canonB l = R := ⟨_, rfl⟩
  obtain ⟨N, hN⟩ : ∃ N, l.length = N := ⟨_, rfl⟩
  rw [hR]
  rw [hN] at hll HA ⊢
  have HN := Lib.hid hN
  have HR := Lib.hid hR
  clear hN hR
  go_enter Try.func27, Try.ntmps27
  go_wp2_with fail
  go_loopw [3] (fun i wr => ∃ (j : Nat), i = .int .i64 (j : Int) ∧ j ≤ N ∧ Below w.heap.size w wr ∧ Hid (canonB (l.take j) = true)) (fun i _ => N - (intOf i).toNat)
  case atStart => exact ⟨0, rfl, Nat.zero_le _, Below.refl _ _, rfl⟩
  case round =>
    obtain ⟨j, rfl, hj, hB, hu⟩ := hrel
    by_cases hlt : j < N
    · have hlt' : (j : Int) < (N : Int) := by omega
      obtain ⟨x, hx⟩ : ∃ x, l[j]? = some x := ⟨_, List.getElem?_eq_getElem (by rw [HN.out]; exact hlt)⟩
      obtain ⟨ba, oa, c1, e1, a1⟩ := HA.out.open (by rw [HN.out]; omega)
      rw [HN.out] at e1
      simp only [Value.slice.injEq] at e1
      obtain ⟨rfl, -, rfl⟩ := e1
      have la := a1.lt
      cases j with
      | zero =>
        obtain ⟨x0, x1⟩ := a1.at_ 0 x hx
        replace x0 := (hB.cell la).trans x0
        replace x1 := (hB.cell la).trans x1
        have hf := Lib.hid (can_first hx)
        have no : Hid (canonB (l.take 1) = false → R = false) := fun h => by rw [← HR.out]; exact canB_no h
        obtain ⟨p, q⟩ := x
        simp only [Nat.zero_mul, Nat.add_zero] at x0 x1 hf
        clear hx a1 la HA hu
        by_cases h1 : q ≤ p
        · have hn := Lib.hid (no.out (hf.out.trans (decide_eq_false (by omega))))
          have d1 : decide (q ≤ p) = true := decide_eq_true h1
          clear no hf
          go_wp2_with fail
          go_quiet (fail)
          go_wp2_with fail
          go_ret
          exact ⟨ret_bool hn.out.symm, below_drewN hB _⟩
        · have hn := Lib.hid (hf.out.trans (decide_eq_true (by omega)))
          have d1 : decide (q ≤ p) = false := decide_eq_false h1
          clear no hf
          go_wp2_with fail
          go_quiet (fail)
          go_wp2_with fail
          exact ⟨⟨1, rfl, hlt, below_drewN hB _, hn.out⟩, by simp [intOf]; omega⟩
      | succ i =>
        obtain ⟨c, hc⟩ : ∃ c, l[i]? = some c := ⟨_, List.getElem?_eq_getElem (by rw [HN.out]; omega)⟩
        obtain ⟨x0, x1⟩ := a1.at_ (i + 1) x hx
        obtain ⟨y0, y1⟩ := a1.at_ i c hc
        replace x0 := (hB.cell la).trans x0
        replace x1 := (hB.cell la).trans x1
        replace y0 := (hB.cell la).trans y0
        replace y1 := (hB.cell la).trans y1
        have hf := Lib.hid (can_next hc hx hu.out)
        have no : Hid (canonB (l.take (i + 2)) = false → R = false) := fun h => by rw [← HR.out]; exact canB_no h
        obtain ⟨p, q⟩ := x
        obtain ⟨r, s⟩ := c
        simp only at x0 x1 y0 y1 hf
        have g1 : (0 : Int) < (i : Int) + 1 := by omega
        have g2 : (i : Int) < (N : Int) := by omega
        have g3 : (i : Int) + 1 < (N : Int) := by omega
        have g4 : IntKind.i64.wrap (i : Int) = (i : Int) := IntWalk.i64_in _ (by omega)
        have g5 : (0 : Int) ≤ (i : Int) := by omega
        have g6 : (0 : Int) ≤ (i : Int) + 1 := by omega
        have g7 : ((i : Int) + 1).toNat = i + 1 := by omega
        clear hx hc a1 la HA hu
        by_cases h1 : q ≤ p
        · have hn := Lib.hid (no.out (hf.out.trans (by rw [decide_eq_false (show ¬ p < q by omega), Bool.and_false])))
          have d1 : decide (q ≤ p) = true := decide_eq_true h1
          clear no hf
          go_wp2_with fail
          go_quiet (fail)
          go_wp2_with fail
          go_ret
          exact ⟨ret_bool hn.out.symm, below_drewN hB _⟩
        · have d1 : decide (q ≤ p) = false := decide_eq_false h1
          by_cases h2 : p ≤ s
          · have hn := Lib.hid (no.out (hf.out.trans (by rw [decide_eq_false (show ¬ s < p by omega), Bool.false_and])))
            have d2 : decide (p ≤ s) = true := decide_eq_true h2
            clear no hf
            go_wp2_with fail
            go_quiet (fail)
            go_wp2_with fail
            go_ret
            exact ⟨ret_bool hn.out.symm, below_drewN hB _⟩
          · have hn := Lib.hid (hf.out.trans (by rw [decide_eq_true (show s < p by omega), decide_eq_true (show p < q by omega), Bool.and_true]))
            have d2 : decide (p ≤ s) = false := decide_eq_false h2
            clear no hf
            go_wp2_with fail
            go_quiet (fail)
            go_wp2_with fail
            exact ⟨⟨i + 2, rfl, hlt, below_drewN hB _, hn.out⟩, by simp [intOf]; omega⟩
    · obtain rfl : j = N := by omega
      have hlt' : ¬ (j : Int) < (j : Int) := by omega
      have hn : Hid (R = true) := by
        have h := hu.out
        rw [List.take_of_length_le (by rw [HN.out]; exact Nat.le_refl _), HR.out] at h
        exact h
      clear hu HA hlt
      go_wp2_with fail
      go_ret
      exact ⟨ret_bool hn.out.symm, hB⟩
end Go.Proofs.Ytmfhjgddpkecfaa.Sp
