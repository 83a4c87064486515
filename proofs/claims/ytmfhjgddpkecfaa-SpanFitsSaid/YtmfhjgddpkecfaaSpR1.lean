/-
  Contracts of the reference of layer 8: Same, Has.
-/
import Derived.Test.YtmfhjgddpkecfaaSpBase
import Derived.Lib.QuietBelow
import Derived.Laws.StructEq
namespace Go.Proofs.Ytmfhjgddpkecfaa.Sp
open Go.RowKit

theorem ret_bool {a b : Bool} (h : a = b) : Ending.returned (.bool a) = .returned (.bool b) := by rw [h]
theorem eqFields_two (fs : List Field) (hf : fs.map (fun f => (f.name, f.type, f.offset)) = [("A", 3, 0), ("B", 3, 1)]) (d : Nat) (k p k' p' : Int) (w : World) :
    (Op.eqFields (d + 1) #[.int .i64 k, .int .i64 p] #[.int .i64 k', .int .i64 p'] fs).run Try.prog w = .ok (k == k' && p == p') w := by
  have hi : ∀ (x : Array Value) (j : Nat) (z : Int), x[j]? = some (.int .i64 z) → (part 3 x j).run Try.prog w = .ok (.int .i64 z) w := fun x j z h => by
    simp [part, isAgg, run_underlying Try.underlying3, h]
  have i0 := hi #[.int .i64 k, .int .i64 p] 0 k rfl
  have i1 := hi #[.int .i64 k, .int .i64 p] 1 p rfl
  have j0 := hi #[.int .i64 k', .int .i64 p'] 0 k' rfl
  have j1 := hi #[.int .i64 k', .int .i64 p'] 1 p' rfl
  have e0 := fun a b => run_equalIn_int (P := Try.prog) w d 3 .i64 .i64 a b Try.underlying3
  obtain ⟨f0, fs, rfl⟩ : ∃ f l, fs = f :: l := by cases fs with | nil => simp at hf | cons f l => exact ⟨f, l, rfl⟩
  obtain ⟨f1, fs, rfl⟩ : ∃ f l, fs = f :: l := by cases fs with | nil => simp at hf | cons f l => exact ⟨f, l, rfl⟩
  obtain rfl : fs = [] := by cases fs with | nil => rfl | cons f l => simp at hf
  · simp only [List.map_cons, List.map_nil, List.cons.injEq, Prod.mk.injEq, and_true] at hf
    obtain ⟨⟨n0, t0, o0⟩, ⟨n1, t1, o1⟩⟩ := hf
    generalize (#[.int .i64 k, .int .i64 p] : Array Value) = X at i0 i1
    generalize (#[.int .i64 k', .int .i64 p'] : Array Value) = Y at j0 j1
    simp only [Op.eqFields, n0, t0, o0, n1, t1, o1]
    cases h0 : k == k' <;> cases h1 : p == p' <;> simp [Sem.run_bind, i0, i1, j0, j1, e0, h0, h1]
theorem eq_spn (a b c d : Int) (w : World) : (Op.equalIn 10000 38 (.agg #[.int .i64 a, .int .i64 b]) (.agg #[.int .i64 c, .int .i64 d])).run Try.prog w = .ok (a == c && b == d) w := by
  have hu : Try.prog.underlying 38 = some (.struct (Try.prog.fieldsOf 38)) := by kernel_rfl
  have h := eqFields_two (Try.prog.fieldsOf 38).toList (by kernel_rfl) 9998 a b c d w
  rw [show (10000 : Nat) = 9999 + 1 from rfl, run_equalIn_struct w 9999 _ _ _ hu (by kernel_rfl), h]
theorem take_same {a b : List Spn} {j : Nat} {x y : Spn} (hx : a[j]? = some x) (hy : b[j]? = some y) (h : a.take j = b.take j) (e : x = y) : a.take (j + 1) = b.take (j + 1) := by
  rw [take_at hx, take_at hy, h, e]
set_option maxHeartbeats 2000000 in
set_option maxRecDepth 100000 in
theorem rsame_any (a b : List Spn) (va vb : Value) (w : World) (ha : Spns w va a) (hb : Spns w vb b) (hla : a.length ≤ 1000000) (hlb : b.length ≤ 1000000) :
    Calls Try.prog 12 #[va, vb] w fun e w' => e = .returned (.bool (decide (a = b))) ∧ Below w.heap.size w w' := by
  have HA := Lib.hid ha
  have HB := Lib.hid hb
  obtain ⟨pa, ca, rfl⟩ := ha.nil
  obtain ⟨pb, cb, rfl⟩ := hb.nil
  clear ha hb
  by_cases hne : a.length = b.length
  · obtain ⟨R, hR⟩ : ∃ R, decide (a = b) = R := ⟨_, rfl⟩
    obtain ⟨N, hN⟩ : ∃ N, b.length = N := ⟨_, rfl⟩
    rw [hR]
    rw [hN] at hne hlb HB ⊢
    rw [hne] at hla HA ⊢
    have HN := Lib.hid hN
    have HE := Lib.hid hne
    have HR := Lib.hid hR
    have hne1 : ((N : Int) != (N : Int)) = false := by simp
    clear hN hne hR
    go_enter Try.func12, Try.ntmps12
    go_wp2_with fail
    go_loopw [5] (fun i wr => ∃ (j : Nat), i = .int .i64 (j : Int) ∧ j ≤ N ∧ Below w.heap.size w wr ∧ Hid (a.take j = b.take j)) (fun i _ => N - (intOf i).toNat)
    case atStart => exact ⟨0, rfl, Nat.zero_le _, Below.refl _ _, rfl⟩
    case round =>
      obtain ⟨j, rfl, hj, hB, hu⟩ := hrel
      by_cases hlt : j < N
      · have hlt' : (j : Int) < (N : Int) := by omega
        obtain ⟨x, hx⟩ : ∃ x, a[j]? = some x := ⟨_, List.getElem?_eq_getElem (by rw [HE.out]; exact hlt)⟩
        obtain ⟨y, hy⟩ : ∃ y, b[j]? = some y := ⟨_, List.getElem?_eq_getElem (by rw [HN.out]; exact hlt)⟩
        obtain ⟨ba, oa, c1, e1, a1⟩ := HA.out.open (by rw [HE.out]; omega)
        obtain ⟨bb, ob, c2, e2, a2⟩ := HB.out.open (by rw [HN.out]; omega)
        rw [HE.out] at e1
        rw [HN.out] at e2
        simp only [Value.slice.injEq] at e1 e2
        obtain ⟨rfl, -, rfl⟩ := e1
        obtain ⟨rfl, -, rfl⟩ := e2
        obtain ⟨x0, x1⟩ := a1.at_ j x hx
        obtain ⟨y0, y1⟩ := a2.at_ j y hy
        have la := a1.lt
        have lb := a2.lt
        replace x0 := (hB.cell la).trans x0
        replace x1 := (hB.cell la).trans x1
        replace y0 := (hB.cell lb).trans y0
        replace y1 := (hB.cell lb).trans y1
        have nx := Lib.hid (fun h => take_same hx hy hu.out h)
        have no : Hid (x ≠ y → R = false) := fun h => by
          rw [← HR.out]
          refine decide_eq_false fun e => h ?_
          rw [e, hy] at hx
          exact (Option.some.inj hx).symm
        obtain ⟨k, p⟩ := x
        obtain ⟨k', p'⟩ := y
        simp only at x0 x1 y0 y1
        have q1 : ∀ W : World, (Op.equalIn 10000 38 (.agg #[.int .i64 k, .int .i64 p]) (.agg #[.int .i64 k', .int .i64 p'])).run Try.prog W = .ok (k == k' && p == p') W := fun W => eq_spn k p k' p' W
        clear hx hy a1 a2 la lb HA HB
        by_cases he : k = k' ∧ p = p'
        · have hb1 : (k == k' && p == p') = true := by rw [he.1, he.2]; simp
          rw [hb1] at q1
          have hn := Lib.hid (nx.out (by rw [he.1, he.2]))
          clear nx no he hb1 hu
          go_wp2_with fail
          go_quiet (fail)
          go_wp2_with fail
          exact ⟨⟨j + 1, rfl, hlt, below_drewN hB _, hn.out⟩, by simp [intOf]; omega⟩
        · have hb1 : (k == k' && p == p') = false := by
            cases hc : (k == k' && p == p')
            · rfl
            · rw [Bool.and_eq_true, beq_iff_eq, beq_iff_eq] at hc
              exact absurd hc he
          rw [hb1] at q1
          have hn := Lib.hid (no.out (fun e => he (by cases e; exact ⟨rfl, rfl⟩)))
          clear nx no he hb1 hu
          go_wp2_with fail
          go_quiet (fail)
          go_wp2_with fail
          go_ret
          exact ⟨ret_bool hn.out.symm, below_drewN hB _⟩
      · obtain rfl : j = N := by omega
        have hlt' : ¬ (j : Int) < (j : Int) := by omega
        have hn : Hid (R = true) := by
          have h := hu.out
          rw [List.take_of_length_le (by rw [HE.out]; exact Nat.le_refl _), List.take_of_length_le (by rw [HN.out]; exact Nat.le_refl _)] at h
          show _ = _
          rw [← HR.out, h]
          exact decide_eq_true rfl
        clear hu HA HB hlt
        go_wp2_with fail
        go_ret
        exact ⟨ret_bool hn.out.symm, hB⟩
  · have hd : decide (a = b) = false := decide_eq_false fun e => hne (by rw [e])
    rw [hd]
    have hne1 : ((a.length : Int) != (b.length : Int)) = true := bne_iff_ne.2 (by omega)
    clear hne HA HB hd
    go_enter Try.func12, Try.ntmps12
    go_wp2_with fail
    go_ret
    exact ⟨rfl, Below.refl _ _⟩
theorem has_next {l : List Spn} {j : Nat} {x : Spn} {n : Int} (hj : l[j]? = some x) (h : hasB (l.take j) n = false) (hx : ¬ (x.1 ≤ n ∧ n < x.2)) : hasB (l.take (j + 1)) n = false := by
  have : hasB (l.take (j + 1)) n = (hasB (l.take j) n || hasB [x] n) := by
    rw [take_at hj]; unfold hasB; rw [List.any_append]
  rw [this, h, Bool.false_or]
  exact has_false fun hm => hx ((mem_one x n).1 hm)
theorem has_yes {l : List Spn} {j : Nat} {x : Spn} {n : Int} (hj : l[j]? = some x) (hx : x.1 ≤ n ∧ n < x.2) : hasB l n = true := (has_iff l n).2 ⟨x, List.mem_of_getElem? hj, hx⟩
set_option maxHeartbeats 2000000 in
set_option maxRecDepth 100000 in
theorem rhas_any (l : List Spn) (v : Value) (n : Int) (w : World) (hl : Spns w v l) (hll : l.length ≤ 1000000) :
    Calls Try.prog 18 #[v, .int .i64 n] w fun e w' => e = .returned (.bool (hasB l n)) ∧ Below w.heap.size w w' := by
  have HA := Lib.hid hl
  obtain ⟨pa, ca, rfl⟩ := hl.nil
  clear hl
  obtain ⟨R, hR⟩ : ∃ R, hasB l n = R := ⟨_, rfl⟩
  obtain ⟨N, hN⟩ : ∃ N, l.length = N := ⟨_, rfl⟩
  rw [hR]
  rw [hN] at hll HA ⊢
  have HN := Lib.hid hN
  have HR := Lib.hid hR
  clear hN hR
  go_enter Try.func18, Try.ntmps18
  go_wp2_with fail
  go_loopw [5] (fun i wr => ∃ (j : Nat), i = .int .i64 (j : Int) ∧ j ≤ N ∧ Below w.heap.size w wr ∧ Hid (hasB (l.take j) n = false)) (fun i _ => N - (intOf i).toNat)
  case atStart => exact ⟨0, rfl, Nat.zero_le _, Below.refl _ _, rfl⟩
  case round =>
    obtain ⟨j, rfl, hj, hB, hu⟩ := hrel
    by_cases hlt : j < N
    · have hlt' : (j : Int) < (N : Int) := by omega
      obtain ⟨x, hx⟩ : ∃ x, l[j]? = some x := ⟨_, List.getElem?_eq_getElem (by rw [HN.out]; exact hlt)⟩
      obtain ⟨ba, oa, c1, e1, a1⟩ := HA.out.open (by rw [HN.out]; omega)
      rw [HN.out] at e1
      simp only [Value.slice.injEq] at e1
      obtain ⟨rfl, -, rfl⟩ := e1
      obtain ⟨x0, x1⟩ := a1.at_ j x hx
      have la := a1.lt
      replace x0 := (hB.cell la).trans x0
      replace x1 := (hB.cell la).trans x1
      have nx := Lib.hid (fun h => has_next hx hu.out h)
      have ye : Hid (x.1 ≤ n ∧ n < x.2 → R = true) := fun h => by rw [← HR.out]; exact has_yes hx h
      obtain ⟨p, q⟩ := x
      simp only at x0 x1 nx ye
      clear hx a1 la HA hu
      by_cases h1 : p ≤ n
      · by_cases h2 : n < q
        · have hn := Lib.hid (ye.out ⟨h1, h2⟩)
          clear nx ye
          go_wp2_with fail
          go_ret
          exact ⟨ret_bool hn.out.symm, (by first | exact hB | exact below_drewN hB _)⟩
        · have hn := Lib.hid (nx.out (fun h => h2 h.2))
          clear nx ye
          go_wp2_with fail
          exact ⟨⟨j + 1, rfl, hlt, (by first | exact hB | exact below_drewN hB _), hn.out⟩, by simp [intOf]; omega⟩
      · have hn := Lib.hid (nx.out (fun h => h1 h.1))
        clear nx ye
        go_wp2_with fail
        exact ⟨⟨j + 1, rfl, hlt, (by first | exact hB | exact below_drewN hB _), hn.out⟩, by simp [intOf]; omega⟩
    · obtain rfl : j = N := by omega
      have hlt' : ¬ (j : Int) < (j : Int) := by omega
      have hn : Hid (R = false) := by
        have h := hu.out
        rw [List.take_of_length_le (by rw [HN.out]; exact Nat.le_refl _), HR.out] at h
        exact h
      clear hu HA hlt
      go_wp2_with fail
      go_ret
      exact ⟨ret_bool hn.out.symm, hB⟩
end Go.Proofs.Ytmfhjgddpkecfaa.Sp
