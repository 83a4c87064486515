/-
  What the laws of layer 8 use: large, near, canonical.
-/
import Derived.Test.YtmfhjgddpkecfaaSpAwake
namespace Go.Proofs.Ytmfhjgddpkecfaa.Sp
open Go.RowKit

set_option maxHeartbeats 1000000 in
theorem large_any (va vb : Value) (pa pb : Option Addr) (na ca nb cb : Nat) (w : World) (ha : va = .slice pa na ca) (hb : vb = .slice pb nb cb) :
    Calls Try.prog 10 #[va, vb] w fun e w' => e = .returned (.bool (decide (60 < na) || decide (60 < nb))) ∧ w = w' := by
  subst ha hb
  by_cases h1 : 60 < na
  · have h1' : (60 : Int) < (na : Int) := by omega
    rw [decide_eq_true h1, Bool.true_or]
    clear h1
    go_enter Try.func10, Try.ntmps10
    go_wp2_with fail
    go_ret
    exact ⟨rfl, rfl⟩
  · have h1' : ¬ (60 : Int) < (na : Int) := by omega
    rw [decide_eq_false h1, Bool.false_or]
    clear h1
    by_cases h2 : 60 < nb
    · have h2' : (60 : Int) < (nb : Int) := by omega
      rw [decide_eq_true h2]
      clear h2
      go_enter Try.func10, Try.ntmps10
      go_wp2_with fail
      go_ret
      exact ⟨rfl, rfl⟩
    · have h2' : ¬ (60 : Int) < (nb : Int) := by omega
      rw [decide_eq_false h2]
      clear h2
      go_enter Try.func10, Try.ntmps10
      go_wp2_with fail
      go_ret
      exact ⟨rfl, rfl⟩
/-- All ends are from -2^40 to 2^40. -/
def okN (x : Spn) : Bool := decide (-1099511627776 ≤ x.1) && decide (x.1 ≤ 1099511627776) && (decide (-1099511627776 ≤ x.2) && decide (x.2 ≤ 1099511627776))
def nearB (l : List Spn) : Bool := l.all okN
theorem near_ends {l : List Spn} (h : nearB l = true) : Ends (-1099511627776) 1099511627776 l := fun x hx => by
  have := List.all_eq_true.1 h x hx
  unfold okN at this
  simp at this
  omega
theorem near_next {l : List Spn} {j : Nat} {x : Spn} (hj : l[j]? = some x) (h : nearB (l.take j) = true) (hx : okN x = true) : nearB (l.take (j + 1)) = true := by
  unfold nearB at h ⊢
  rw [take_at hj, List.all_append, h]
  simp [hx]
theorem near_no {l : List Spn} {j : Nat} {x : Spn} (hj : l[j]? = some x) (hx : okN x = false) : nearB l = false := by
  cases e : nearB l
  · rfl
  · have := List.all_eq_true.1 e x (List.mem_of_getElem? hj)
    rw [hx] at this; exact absurd this (by decide)
set_option maxHeartbeats 2000000 in
set_option maxRecDepth 100000 in
theorem near_any (l : List Spn) (v : Value) (w : World) (hl : Spns w v l) (hll : l.length ≤ 1000000) :
    Calls Try.prog 28 #[v] w fun e w' => e = .returned (.bool (nearB l)) ∧ Below w.heap.size w w' := by
  have HA := Lib.hid hl
  obtain ⟨pa, ca, rfl⟩ := hl.nil
  clear hl
  obtain ⟨R, hR⟩ : ∃ R, nearB l = R := ⟨_, rfl⟩
  obtain ⟨N, hN⟩ : ∃ N, l.length = N := ⟨_, rfl⟩
  rw [hR]
  rw [hN] at hll HA ⊢
  have HN := Lib.hid hN
  have HR := Lib.hid hR
  clear hN hR
  go_enter Try.func28, Try.ntmps28
  go_wp2_with fail
  go_loopw [3] (fun i wr => ∃ (j : Nat), i = .int .i64 (j : Int) ∧ j ≤ N ∧ Below w.heap.size w wr ∧ Hid (nearB (l.take j) = true)) (fun i _ => N - (intOf i).toNat)
  case atStart => exact ⟨0, rfl, Nat.zero_le _, Below.refl _ _, rfl⟩
  case round =>
    obtain ⟨j, rfl, hj, hB, hu⟩ := hrel
    by_cases hlt : j < N
    · have hlt' : (j : Int) < (N : Int) := by omega
      obtain ⟨x, hx⟩ : ∃ x, l[j]? = some x := ⟨_, List.getElem?_eq_getElem (by rw [HN.out]; exact hlt)⟩
      obtain ⟨ba, oa, c1, e1, a1⟩ := HA.out.open (by rw [HN.out]; omega)
      rw [HN.out] at e1
      simp only [Value.slice.injEq] at e1
      obtain ⟨rfl, -, rfl⟩ := e1
      obtain ⟨x0, x1⟩ := a1.at_ j x hx
      have la := a1.lt
      replace x0 := (hB.cell la).trans x0
      replace x1 := (hB.cell la).trans x1
      have nx := Lib.hid (fun h => near_next hx hu.out h)
      have no : Hid (okN x = false → R = false) := fun h => by rw [← HR.out]; exact near_no hx h
      obtain ⟨p, q⟩ := x
      simp only at x0 x1 nx no
      have ko : Hid (okN (p, q) = true ↔ (-1099511627776 ≤ p ∧ p ≤ 1099511627776 ∧ -1099511627776 ≤ q ∧ q ≤ 1099511627776)) := by
        unfold Hid okN
        simp
        omega
      have kf : Hid (¬ (-1099511627776 ≤ p ∧ p ≤ 1099511627776 ∧ -1099511627776 ≤ q ∧ q ≤ 1099511627776) → R = false) := fun h => no.out (by
        cases e : okN (p, q)
        · rfl
        · exact absurd (ko.out.1 e) h)
      clear hx a1 la HA hu no
      by_cases h1 : p < -1099511627776
      · have hn := Lib.hid (kf.out (by omega))
        clear nx ko kf
        go_wp2_with fail
        go_ret
        exact ⟨ret_bool hn.out.symm, hB⟩
      · by_cases h2 : 1099511627776 < p
        · have hn := Lib.hid (kf.out (by omega))
          clear nx ko kf
          go_wp2_with fail
          go_ret
          exact ⟨ret_bool hn.out.symm, hB⟩
        · by_cases h3 : q < -1099511627776
          · have hn := Lib.hid (kf.out (by omega))
            clear nx ko kf
            go_wp2_with fail
            go_ret
            exact ⟨ret_bool hn.out.symm, hB⟩
          · by_cases h4 : 1099511627776 < q
            · have hn := Lib.hid (kf.out (by omega))
              clear nx ko kf
              go_wp2_with fail
              go_ret
              exact ⟨ret_bool hn.out.symm, hB⟩
            · have hn := Lib.hid (nx.out (ko.out.2 (by omega)))
              clear nx ko kf
              go_wp2_with fail
              exact ⟨⟨j + 1, rfl, hlt, hB, hn.out⟩, by simp [intOf]; omega⟩
    · obtain rfl : j = N := by omega
      have hlt' : ¬ (j : Int) < (j : Int) := by omega
      have hn : Hid (R = true) := by
        have h := hu.out
        rw [List.take_of_length_le (by rw [HN.out]; exact Nat.le_refl _), HR.out] at h
        exact h
      clear hu HA hlt
      go_wp2_with fail
      go_ret
      exact ⟨ret_bool hn.out.symm, hB⟩
end Go.Proofs.Ytmfhjgddpkecfaa.Sp
