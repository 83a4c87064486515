/-
  Contracts of the reference's Same and of the law's light (layer 6).
-/
import Derived.Test.YtandcacobahmbaaDoorDgR4
import Derived.Test.YtandcacobahmbaaDoorDgPR
namespace Go.Proofs.YtandcacobahmbaaDoor.Dg
open Go.RowKit

theorem Nats.at {w : World} {v : Value} {l : List Nat} (h : Nats w v l) {j : Nat} (hj : j < l.length) : ∃ b off c, v = .slice (some ⟨b, off, none⟩) l.length c ∧ b < w.heap.size ∧ w.cell? ⟨b, off + j, none⟩ = some (.int .u64 (l.getD j 0 : Int)) := by
  obtain ⟨b, off, c, hv, ha⟩ := h.open (by omega)
  exact ⟨b, off, c, hv, ha.lt, ha.at_ j hj⟩
theorem take_same {a b : List Nat} (h : a.length = b.length) {j : Nat} (hj : j < a.length) (ht : a.take j = b.take j) (hx : a.getD j 0 = b.getD j 0) : a.take (j + 1) = b.take (j + 1) := by
  rw [List.take_add_one, List.take_add_one, ht]
  have h1 : a[j]? = some (a.getD j 0) := by simp [List.getD, hj]
  have h2 : b[j]? = some (b.getD j 0) := by simp [List.getD, show j < b.length by omega]
  rw [h1, h2, hx]
set_option maxHeartbeats 2000000 in
set_option maxRecDepth 100000 in
theorem same_any (a b : List Nat) (va vb : Value) (w : World) (ha : Nats w va a) (hb : Nats w vb b) (hl : a.length ≤ 1000000) (hl2 : b.length ≤ 1000000) :
    Calls Tryd.prog 23 #[va, vb] w fun e w' => e = .returned (.bool (decide (a = b))) ∧ Below w.heap.size w w' := by
  obtain ⟨R, hR⟩ : ∃ R, decide (a = b) = R := ⟨_, rfl⟩
  rw [hR]
  have HA := Lib.hid ha
  have HB := Lib.hid hb
  obtain ⟨pa, ca, hva⟩ := ha.nil
  obtain ⟨pb, cb, hvb⟩ := hb.nil
  subst hva hvb
  clear ha hb
  by_cases hne : a.length = b.length
  · obtain ⟨N, hN⟩ : ∃ N, b.length = N := ⟨_, rfl⟩
    rw [hN] at hne hl2 HB ⊢
    rw [hne] at hl HA ⊢
    have HN := Lib.hid hN
    have HE := Lib.hid hne
    have HR := Lib.hid hR
    have hne1 : ((N : Int) != (N : Int)) = false := by simp
    clear hN hne hR
    go_enter Tryd.func23, Tryd.ntmps23
    go_wp2_with fail
    go_loopw [5] (fun i wr => ∃ j : Nat, i = .int .i64 (j : Int) ∧ j ≤ N ∧ Below w.heap.size w wr ∧ Hid (a.take j = b.take j)) (fun i _ => N - (intOf i).toNat)
    case atStart => exact ⟨0, rfl, Nat.zero_le _, Below.refl _ _, rfl⟩
    case round =>
      obtain ⟨j, rfl, hj, hB, ht⟩ := hrel
      by_cases hlt : j < N
      · have hlt' : (j : Int) < (N : Int) := by omega
        obtain ⟨ba, oa, c1, e1, l1, k1⟩ := HA.out.at (show j < a.length by rw [HE.out]; exact hlt)
        obtain ⟨bb, ob, c2, e2, l2, k2⟩ := HB.out.at (show j < b.length by rw [HN.out]; exact hlt)
        simp only [Value.slice.injEq] at e1 e2
        obtain ⟨rfl, -, rfl⟩ := e1
        obtain ⟨rfl, -, rfl⟩ := e2
        have k1 := (hB.cell l1).trans k1
        have k2 := (hB.cell l2).trans k2
        by_cases hx : a.getD j 0 = b.getD j 0
        · have hn := Lib.hid (take_same (HE.out.trans HN.out.symm) (by rw [HE.out]; exact hlt) ht.out hx)
          rw [← hx] at k2
          generalize a.getD j 0 = X at k1 k2
          have hxx : ((X : Int) != (X : Int)) = false := by simp
          clear hx ht
          go_wp2_with fail
          go_quiet (fail)
          go_wp2_with fail
          exact ⟨⟨j + 1, rfl, hlt, below_drewN hB _, hn.out⟩, by simp [intOf]; omega⟩
        · have hRf : R = false := by rw [← HR.out]; exact decide_eq_false (fun e => hx (by rw [e]))
          subst hRf
          have hxx : ((a.getD j 0 : Int) != (b.getD j 0 : Int)) = true := bne_iff_ne.2 (by omega)
          generalize a.getD j 0 = X at k1 hxx
          generalize b.getD j 0 = Y at k2 hxx
          clear hx ht HR
          go_wp2_with fail
          go_quiet (fail)
          go_wp2_with fail
          go_ret
          exact ⟨rfl, below_drewN hB _⟩
      · obtain rfl : j = N := by omega
        have hRt : R = true := by
          rw [← HR.out]
          have := ht.out
          rw [← HN.out, List.take_length, HN.out, ← HE.out, List.take_length] at this
          exact decide_eq_true this
        subst hRt
        have hlt' : ¬ (j : Int) < (j : Int) := by omega
        clear ht HR
        go_wp2_with fail
        go_ret
        exact ⟨rfl, hB⟩
  · have hne1 : ((a.length : Int) != (b.length : Int)) = true := bne_iff_ne.2 (by omega)
    have hRf : R = false := by rw [← hR]; exact decide_eq_false (fun e => hne (by rw [e]))
    subst hRf
    clear hl hl2 hne hR HA HB
    go_enter Tryd.func23, Tryd.ntmps23
    go_wp2_with fail
    go_ret
    exact ⟨rfl, Below.refl _ _⟩

/-- All bytes of a list. -/
def tot : List ByteArray → Nat
  | [] => 0
  | s :: l => s.size + tot l
theorem tot_app (a b : List ByteArray) : tot (a ++ b) = tot a + tot b := by
  induction a with
  | nil => show tot b = 0 + tot b; omega
  | cons s a ih => show s.size + tot (a ++ b) = s.size + tot a + tot b; rw [ih]; omega
theorem tot_mem {s : ByteArray} {L : List ByteArray} (h : s ∈ L) : s.size ≤ tot L := by
  induction L with
  | nil => simp at h
  | cons t L ih =>
    rcases List.mem_cons.1 h with e | e
    · rw [e]; show t.size ≤ t.size + tot L; omega
    · have := ih e; show s.size ≤ t.size + tot L; omega
theorem tot_le {L : List ByteArray} {n : Nat} (h : ∀ s ∈ L, s.size ≤ n) : tot L ≤ L.length * n := by
  induction L with
  | nil => exact Nat.zero_le _
  | cons t L ih =>
    have h1 := h t (List.mem_cons_self ..)
    have h2 := ih fun s hs => h s (List.mem_cons_of_mem _ hs)
    show t.size + tot L ≤ (L.length + 1) * n
    rw [Nat.add_mul]; omega
theorem tot_next {L : List ByteArray} {j : Nat} (hj : j < L.length) : tot (L.take (j + 1)) = tot (L.take j) + (L.getD j ⟨#[]⟩).size := by
  rw [List.take_add_one, tot_app]
  have h1 : L[j]? = some (L.getD j ⟨#[]⟩) := by simp [List.getD, hj]
  rw [h1]; rfl
def lightB (L : List ByteArray) : Bool := decide (L.length ≤ 100 ∧ tot L ≤ 3000)
theorem light_short {L : List ByteArray} (h : lightB L = true) : L.length ≤ 100 ∧ tot L ≤ 3000 ∧ Short L := by
  have := of_decide_eq_true h
  exact ⟨this.1, this.2, fun s hs => by have := tot_mem hs; omega⟩
/-- A list of strings, none of them greater than what a machine holds. -/
def Fits (L : List ByteArray) : Prop := ∀ s ∈ L, s.size ≤ 140737488351232
set_option maxHeartbeats 2000000 in
set_option maxRecDepth 100000 in
theorem light_any (L : List ByteArray) (v : Value) (w : World) (hv : Strs w v L) (hr : Fits L) : Calls Tryd.prog 18 #[v] w fun e w' => e = .returned (.bool (lightB L)) ∧ Below w.heap.size w w' := by
  have HV := Lib.hid hv
  have HR := Lib.hid hr
  obtain ⟨p, c, rfl, -, -⟩ := hv
  obtain ⟨R, hR⟩ : ∃ R, lightB L = R := ⟨_, rfl⟩
  rw [hR]
  have hR := Lib.hid hR
  clear hr
  go_enter Tryd.func18, Tryd.ntmps18
  go_wp2_with fail
  go_loopw [3, 4] (fun n i wr => ∃ j u : Nat, n = .int .i64 (u : Int) ∧ i = .int .i64 (j : Int) ∧ j ≤ L.length ∧ j ≤ 101 ∧ w = wr ∧ Hid (u = tot (L.take j)) ∧ (u : Int) ≤ 14214886323474432) (fun _ i _ => L.length - (intOf i).toNat)
  case atStart => exact ⟨0, 0, rfl, rfl, Nat.zero_le _, Nat.zero_le _, by trivial, rfl, by decide⟩
  case round =>
    obtain ⟨j, u, rfl, rfl, hj, hj1, rfl, hu, hub⟩ := hrel
    by_cases hlt : j < L.length
    · have hlt' : (j : Int) < (L.length : Int) := by omega
      by_cases hlt1 : j < 101
      · have hlt1' : (j : Int) < 101 := by omega
        obtain ⟨b, off, c', e1, ha⟩ := HV.out.open (by omega)
        simp only [Value.slice.injEq] at e1
        obtain ⟨rfl, -, rfl⟩ := e1
        have k1 := ha.at_ j hlt
        have hn := Lib.hid (tot_next hlt)
        have hb := tot_le (L := L.take (j + 1)) (n := 140737488351232) (fun s hs => HR.out s (List.mem_of_mem_take hs))
        rw [List.length_take, Nat.min_eq_left (by omega), hn.out, ← hu.out] at hb
        rw [← hu.out] at hn
        generalize L.getD j ⟨#[]⟩ = X at k1 hn hb
        have hb2 : (u : Int) + (X.size : Int) ≤ 14214886323474432 := by
          have : (j + 1) * 140737488351232 ≤ 101 * 140737488351232 := Nat.mul_le_mul_right _ (by omega)
          omega
        have q1 : IntKind.i64.wrap ((u : Int) + (X.size : Int)) = (u : Int) + (X.size : Int) := IntWalk.i64_in _ (by omega)
        have hn' : Hid (u + X.size = tot (L.take (j + 1))) := hn.out.symm
        clear hu hb ha hn
        go_wp2_with fail
        exact ⟨⟨j + 1, u + X.size, rfl, rfl, hlt, by omega, by trivial, hn'.out, hb2⟩, by simp [intOf]; omega⟩
      · obtain rfl : R = false := hR.out.symm.trans (decide_eq_false (by omega))
        have g1 : ¬ (j : Int) < 101 := by omega
        have g2 : ¬ (L.length : Int) ≤ 100 := by omega
        clear hu hR
        go_wp2_with fail
        go_ret
        exact ⟨rfl, Below.refl _ _⟩
    · obtain rfl : j = L.length := by omega
      have g1 : ¬ (L.length : Int) < (L.length : Int) := by omega
      have hu2 : u = tot L := by rw [hu.out, List.take_length]
      by_cases h100 : L.length ≤ 100
      · have g2 : (L.length : Int) ≤ 100 := by omega
        by_cases h3 : tot L ≤ 3000
        · obtain rfl : R = true := hR.out.symm.trans (decide_eq_true ⟨h100, h3⟩)
          have g3 : (u : Int) ≤ 3000 := by omega
          clear hu hR hu2 h3
          go_wp2_with fail
          go_ret
          exact ⟨rfl, Below.refl _ _⟩
        · obtain rfl : R = false := hR.out.symm.trans (decide_eq_false (by omega))
          have g3 : ¬ (u : Int) ≤ 3000 := by omega
          clear hu hR hu2 h3
          go_wp2_with fail
          go_ret
          exact ⟨rfl, Below.refl _ _⟩
      · obtain rfl : R = false := hR.out.symm.trans (decide_eq_false (by omega))
        have g2 : ¬ (L.length : Int) ≤ 100 := by omega
        clear hu hR hu2
        go_wp2_with fail
        go_ret
        exact ⟨rfl, Below.refl _ _⟩
end Go.Proofs.YtandcacobahmbaaDoor.Dg
