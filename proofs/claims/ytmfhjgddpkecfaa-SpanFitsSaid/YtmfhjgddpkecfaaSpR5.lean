/-
  Contracts of the reference of layer 8: Inter.
-/
import Derived.Test.YtmfhjgddpkecfaaSpR4
import Derived.Deep.RegionHeld3
namespace Go.Proofs.Ytmfhjgddpkecfaa.Sp
open Go.RowKit

def fX (x y : Spn) : Spn := (max x.1 y.1, min x.2 y.2)
theorem max_if (a b : Int) : max a b = if a < b then b else a := by split <;> omega
theorem min_if (a b : Int) : min a b = if b < a then b else a := by split <;> omega
theorem cross_cons (x : Spn) (a b : List Spn) : crossL (x :: a) b = b.map (fX x) ++ crossL a b := rfl
theorem cross_app : ∀ (a c b : List Spn), crossL (a ++ c) b = crossL a b ++ crossL c b
  | [], _, _ => rfl
  | x :: a, c, b => by rw [List.cons_append, cross_cons, cross_cons, cross_app a c b, List.append_assoc]
theorem cross_len : ∀ (a b : List Spn), (crossL a b).length = a.length * b.length
  | [], b => by rw [List.length_nil, Nat.zero_mul]; rfl
  | x :: a, b => by rw [cross_cons, List.length_append, List.length_map, cross_len a b, List.length_cons, Nat.succ_mul, Nat.add_comm]
theorem cross_next {a b : List Spn} {i : Nat} {x : Spn} (h : a[i]? = some x) : crossL (a.take (i + 1)) b = crossL (a.take i) b ++ (b.take b.length).map (fX x) := by
  rw [take_at h, cross_app, cross_cons, List.take_length]
  show _ ++ (_ ++ []) = _
  rw [List.append_nil]
theorem map_next {b : List Spn} {k : Nat} {x y : Spn} (h : b[k]? = some y) : (b.take (k + 1)).map (fX x) = (b.take k).map (fX x) ++ [(if x.1 < y.1 then y.1 else x.1, if y.2 < x.2 then y.2 else x.2)] := by
  rw [take_at h, List.map_append]
  show _ ++ [(max x.1 y.1, min x.2 y.2)] = _
  rw [max_if, min_if]
theorem OwnS.eq {w : World} {B : Nat} {v : Value} {l m : List Spn} (h : OwnS w B v l) (e : l = m) : OwnS w B v m := e ▸ h
theorem OwnS.drewD {w : World} {B : Nat} {v : Value} {l : List Spn} (h : OwnS w B v l) : OwnS w.drew B v l := h
theorem below_drew {w : World} : Below w.heap.size w w.drew := below_drewN (Below.refl _ w) 1
set_option maxHeartbeats 4000000 in
set_option maxRecDepth 100000 in
theorem rinter_any (a b : List Spn) (va vb : Value) (w : World) (ha : Spns w va a) (hb : Spns w vb b) (hla : a.length ≤ 300) (hlb : b.length ≤ 300) :
    Calls Try.prog 22 #[va, vb] w (NoEnd (interL a b) w) := by
  have hcl := cross_len a b
  have hml : a.length * b.length ≤ 90000 := Nat.mul_le_mul hla hlb
  have c1 := Lib.hid (fun v W (h : Spns W v (crossL a b)) => rnormal_any (crossL a b) v W h (by omega))
  obtain ⟨U, hU⟩ : ∃ U, normL (crossL a b) = U := ⟨_, rfl⟩
  have hU2 : interL a b = U := hU
  rw [hU] at c1
  rw [hU2]
  have HA := Lib.hid ha
  have HB := Lib.hid hb
  obtain ⟨pa, ca, rfl⟩ := ha.nil
  obtain ⟨pb, cb, rfl⟩ := hb.nil
  obtain ⟨N, hN⟩ : ∃ N, a.length = N := ⟨_, rfl⟩
  obtain ⟨M, hM⟩ : ∃ M, b.length = M := ⟨_, rfl⟩
  rw [hN] at hla HA ⊢
  rw [hM] at hlb HB ⊢
  have HN := Lib.hid hN
  have HM := Lib.hid hM
  obtain ⟨i0, hi0, hz0, hz1, hz2⟩ := info_parts info_spn
  have HL : Hid (∀ i k : Nat, i < N → k ≤ M → ∀ x, (crossL (a.take i) b ++ (b.take k).map (fX x)).length ≤ 100000) := fun i k hi hk x => by
    rw [List.length_append, cross_len, List.length_map, List.length_take, List.length_take, hM]
    have : min i a.length * M ≤ 300 * 300 := Nat.mul_le_mul (by omega) hlb
    omega
  clear hU hU2 ha hb hN hM hcl hml
  go_enter Try.func22, Try.ntmps22
  go_wp2_with fail
  go_loopw [5, 6] (fun v iv wr => ∃ (i : Nat), iv = .int .i64 (i : Int) ∧ i ≤ N ∧ Hid (Below w.heap.size w wr) ∧ Hid (OwnS wr w.heap.size v (crossL (a.take i) b))) (fun _ iv _ => N - (intOf iv).toNat)
  case atStart => exact ⟨0, rfl, Nat.zero_le _, Below.refl _ _, OwnS.nil _ _⟩
  case round =>
    obtain ⟨i, rfl, hi, hB, hown⟩ := hrel
    by_cases hlt : i < N
    · have hlt' : (i : Int) < (N : Int) := by omega
      obtain ⟨x, hx⟩ : ∃ x, a[i]? = some x := ⟨_, List.getElem?_eq_getElem (by rw [HN.out]; exact hlt)⟩
      obtain ⟨ba, oa, c1', e1, a1⟩ := HA.out.open (by rw [HN.out]; omega)
      rw [HN.out] at e1
      simp only [Value.slice.injEq] at e1
      obtain ⟨rfl, -, rfl⟩ := e1
      have X := Lib.hid (a1.at_ i x hx)
      have la := a1.lt
      have hnx : Hid (crossL (a.take (i + 1)) b = crossL (a.take i) b ++ (b.take M).map (fX x)) := by
        have := cross_next (b := b) hx
        rw [HM.out] at this
        exact this
      have own0 := Lib.hid (hown.out.eq (show crossL (a.take i) b = crossL (a.take i) b ++ (b.take 0).map (fX x) by simp))
      clear hown hx a1
      go_wp2_with fail
      go_loopw [5, 7] (fun v kv wr2 => ∃ (k : Nat), kv = .int .i64 (k : Int) ∧ k ≤ M ∧ Hid (Below w.heap.size w wr2) ∧ Hid (OwnS wr2 w.heap.size v (crossL (a.take i) b ++ (b.take k).map (fX x)))) (fun _ kv _ => M - (intOf kv).toNat)
      case atStart => exact ⟨0, rfl, Nat.zero_le _, hB.out, own0.out⟩
      case round =>
        clear own0 hB
        obtain ⟨k, rfl, hk, hB, hown⟩ := hrel
        by_cases hlt2 : k < M
        · have hlt2' : (k : Int) < (M : Int) := by omega
          obtain ⟨y, hy⟩ : ∃ y, b[k]? = some y := ⟨_, List.getElem?_eq_getElem (by rw [HM.out]; exact hlt2)⟩
          obtain ⟨bb, ob, c2', e2, a2⟩ := HB.out.open (by rw [HM.out]; omega)
          rw [HM.out] at e2
          simp only [Value.slice.injEq] at e2
          obtain ⟨rfl, -, rfl⟩ := e2
          have Y := Lib.hid (a2.at_ k y hy)
          have lb := a2.lt
          have hn2 := Lib.hid (map_next (x := x) hy)
          have hlen := Lib.hid (HL.out i k hlt hk x)
          obtain ⟨acc, hacc⟩ : ∃ acc, crossL (a.take i) b ++ (b.take k).map (fX x) = acc := ⟨_, rfl⟩
          have hnn : Hid (crossL (a.take i) b ++ (b.take (k + 1)).map (fX x) = acc ++ [(if x.1 < y.1 then y.1 else x.1, if y.2 < x.2 then y.2 else x.2)]) := by
            unfold Hid
            rw [hn2.out, ← List.append_assoc, hacc]
          rw [hacc] at hown hlen
          have room := Lib.hid (room2 (n := acc.length) (by have := hlen.out; omega))
          obtain ⟨xp, xq⟩ := x
          obtain ⟨yp, yq⟩ := y
          simp only at X Y hnn
          have BD := Lib.hid (stepB hB.out (below_drew (w := wr)))
          have ownD := Lib.hid hown.out.drewD
          have SA : Hid (∀ W, Below w.heap.size w W → (W.cell? ⟨ba, oa + i * 2, none⟩ = some (.int .i64 xp) ∧ W.cell? ⟨ba, oa + i * 2 + 1, none⟩ = some (.int .i64 xq) ∧ W.cell? ⟨bb, ob + k * 2, none⟩ = some (.int .i64 yp) ∧ W.cell? ⟨bb, ob + k * 2 + 1, none⟩ = some (.int .i64 yq)) ∧ Below w.heap.size w W) := fun W h => ⟨⟨(h.cell la).trans X.out.1, (h.cell la).trans X.out.2, (h.cell lb).trans Y.out.1, (h.cell lb).trans Y.out.2⟩, h⟩
          clear hacc hy a2 hn2 hlen HL hB hown
          go_wp2_with fail
          go_region_held3 (fun W => (W.cell? ⟨ba, oa + i * 2, none⟩ = some (.int .i64 xp) ∧ W.cell? ⟨ba, oa + i * 2 + 1, none⟩ = some (.int .i64 xq) ∧ W.cell? ⟨bb, ob + k * 2, none⟩ = some (.int .i64 yp) ∧ W.cell? ⟨bb, ob + k * 2 + 1, none⟩ = some (.int .i64 yq)) ∧ Below w.heap.size w W) (first | exact SA.out _ B6.out | exact SA.out _ (BD.out.alloc BD.out.size _) | exact SA.out _ BD.out)
            (first | (refine step_append_lies _ (by rfl) _ _ 22 (by rfl) w.heap.size 38 i0 (.agg #[.int .i64 0, .int .i64 0]) 2 16 Try.underlying22 hi0 hz0 hz1 hz2 rfl (by decide) _ _ _ (by rfl) (ownD.out.alloc _) ⟨_, 0, none⟩ 1 1 [_, _] (by rfl) (by rfl) (news2 _ _ _) (ones2 _ _) (by decide) room.out.1 room.out.2 (BD.out.alloc BD.out.size _).size _ rfl ?_; intro g6 c6 w6 own6 hgrow _ _; have B6 : Hid (Below w.heap.size w w6) := (BD.out.alloc BD.out.size _).grown hgrow (BD.out.alloc BD.out.size _).size (fun j hj => OwnS.lt ownD.out j hj)))
          all_goals (
            have hf := Lib.hid ((OwnS.snoc (x := (if xp < yp then yp else xp, if yq < xq then yq else xq)) own6).eq hnn.out.symm)
            clear own6 hgrow
            go_wp2_with fail
            exact ⟨⟨k + 1, rfl, hlt2, B6.out, hf.out⟩, by simp [intOf]; omega⟩)
        · obtain rfl : k = M := by omega
          have hlt2' : ¬ (k : Int) < (k : Int) := by omega
          rw [← hnx.out] at hown
          clear HL
          go_wp2_with fail
          exact ⟨⟨i + 1, rfl, hlt, hB.out, hown.out⟩, by simp [intOf]; omega⟩
    · obtain rfl : i = N := by omega
      have hlt' : ¬ (i : Int) < (i : Int) := by omega
      have hown2 := hown.out
      rw [List.take_of_length_le (by rw [HN.out]; exact Nat.le_refl _)] at hown2
      have hown2 := Lib.hid hown2
      clear hown HL hlt
      go_wp2_with fail
      refine (c1.out _ _ hown2.out.spns).mono ?_; rintro e w7 ⟨v7, rfl, own7, k7⟩
      have hf := Lib.hid (own7.mono hB.out.size)
      have hB2 := Lib.hid (stepB hB.out k7)
      clear own7
      go_wp2_with fail
      go_ret
      exact ⟨_, rfl, hf.out, hB2.out⟩
end Go.Proofs.Ytmfhjgddpkecfaa.Sp
