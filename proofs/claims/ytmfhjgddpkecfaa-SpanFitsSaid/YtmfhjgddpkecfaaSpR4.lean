/-
  Contracts of the reference of layer 8: Union.
-/
import Derived.Test.YtmfhjgddpkecfaaSpR3
import Derived.Deep.Upon
namespace Go.Proofs.Ytmfhjgddpkecfaa.Sp
open Go.RowKit

theorem spsC_one : ∀ (l : List Spn), ∀ u ∈ spsC l, u.oneCell' = true
  | [], u, h => by simp [spsC] at h
  | x :: l, u, h => by
    rw [spsC] at h
    rcases List.mem_append.1 h with h | h
    · exact ones2 _ _ u h
    · exact spsC_one l u h
theorem SpnAt.src {w : World} {b off c : Nat} {l : List Spn} (h : SpnAt w b off c l) : ∀ j u, (spsC l)[j]? = some u → w.cell? ((⟨b, off, none⟩ : Addr).add j) = some u := fun j u hj => by
  have hlt : j < l.length * 2 := by rw [← spsC_len]; exact (List.getElem?_eq_some_iff.1 hj).1
  obtain ⟨x, hx⟩ : ∃ x, l[j / 2]? = some x := ⟨_, List.getElem?_eq_getElem (by omega)⟩
  have h1 := spsC_at l (j / 2) x hx
  have h2 := h.at_ (j / 2) x hx
  rw [Go.WideShapes.add_plain]
  rcases Nat.mod_two_eq_zero_or_one j with e | e
  · have ej : j / 2 * 2 = j := by omega
    rw [ej] at h1 h2
    rw [h2.1, ← hj, h1.1]
  · have ej : j / 2 * 2 + 1 = j := by omega
    have ej2 : off + j / 2 * 2 + 1 = off + j := by omega
    rw [ej] at h1
    rw [ej2] at h2
    rw [h2.2, ← hj, h1.2]
theorem OwnS.app {w : World} {B n : Nat} {v : Value} {l m : List Spn} (h : w.ownsRow B 38 2 v (l.length + n) (spsC l ++ spsC m)) (hn : m.length = n) : OwnS w B v (l ++ m) := by
  unfold OwnS
  rw [List.length_append, spsC_app, hn]; exact h
theorem OwnS.app0 {w : World} {B n : Nat} {v : Value} {m : List Spn} (h : w.ownsRow B 38 2 v n (spsC [] ++ spsC m)) (hn : m.length = n) : OwnS w B v m := by
  unfold OwnS
  rw [hn]; exact h
/-- A slice in memory: nil and no spans, or an address. -/
theorem Spns.two {w : World} {v : Value} {l : List Spn} (h : Spns w v l) : (∃ c, v = .slice none 0 c ∧ l = []) ∨ (∃ ad c, v = .slice (some ad) l.length c ∧ (∀ W, Below w.heap.size w W → ∀ j u, (spsC l)[j]? = some u → W.cell? (ad.add j) = some u)) := by
  obtain ⟨p, c, rfl, hlc, hc⟩ := h
  by_cases h0 : 0 < l.length
  · obtain ⟨b, off, rfl, ha⟩ := hc h0
    exact Or.inr ⟨_, c, rfl, fun W hW => (ha.below hW).src⟩
  · have hl : l = [] := List.eq_nil_of_length_eq_zero (by omega)
    subst hl
    cases p with
    | none => exact Or.inl ⟨c, rfl, rfl⟩
    | some ad => exact Or.inr ⟨ad, c, rfl, fun W _ j u hj => by simp [spsC] at hj⟩
set_option maxHeartbeats 2000000 in
set_option maxRecDepth 100000 in
theorem runion_any (a b : List Spn) (va vb : Value) (w : World) (ha : Spns w va a) (hb : Spns w vb b) (hla : a.length ≤ 10000) (hlb : b.length ≤ 10000) :
    Calls Try.prog 20 #[va, vb] w (NoEnd (unionL a b) w) := by
  have c1 := Lib.hid (fun v W (h : Spns W v (a ++ b)) => rnormal_any (a ++ b) v W h (by rw [List.length_append]; omega))
  obtain ⟨U, hU⟩ : ∃ U, normL (a ++ b) = U := ⟨_, rfl⟩
  have hU2 : unionL a b = U := hU
  rw [hU] at c1
  rw [hU2]
  clear hU hU2
  obtain ⟨i0, hi0, hz0, hz1, hz2⟩ := info_parts info_spn
  have hB0 := Lib.hid (Below.refl w.heap.size w)
  rcases ha.two with ⟨ca, rfl, rfl⟩ | ⟨pa, ca, rfl, sa⟩
  · rcases hb.two with ⟨cb, rfl, rfl⟩ | ⟨pb, cb, rfl, sb⟩
    · have own6 : Hid (OwnS w w.heap.size (.slice none 0 0) ([] ++ [])) := OwnS.nil _ _
      have B6 := hB0
      clear ha hb
      go_enter Try.func20, Try.ntmps20
      go_wp2_with fail
      refine (c1.out _ _ own6.out.spns).mono ?_; rintro e w7 ⟨v7, rfl, own7, k7⟩
      have hf := Lib.hid (own7.mono B6.out.size)
      have hB := Lib.hid (stepB B6.out k7)
      clear own7
      go_wp2_with fail
      go_ret
      exact ⟨_, rfl, hf.out, hB.out⟩
    · obtain ⟨nb, hnb⟩ : ∃ n, b.length = n := ⟨_, rfl⟩
      have HNB := Lib.hid hnb
      have SB := Lib.hid sb
      rw [hnb] at hlb ⊢
      clear hnb sb ha hb
      have ownN := Lib.hid (OwnS.nil w w.heap.size)
      go_enter Try.func20, Try.ntmps20
      go_wp2_with (at_builtin; refine wpList_append_own _ rfl _ _ 22 rfl w.heap.size 38 i0 (.agg #[.int .i64 0, .int .i64 0]) 2 16 Try.underlying22 hi0 hz0 hz1 hz2 rfl (by decide) _ _ _ rfl (ownN.out) pb nb cb (spsC b) rfl (by rw [spsC_len, HNB.out]) (SB.out _ (hB0.out)) (spsC_one _) (by unfold maxLen; show 0 + nb ≤ _; omega) (by show (0 + nb) * 16 ≤ _; omega) (hB0.out).size ?_)
      intro v6 w6 hown' hgrow _
      have B6 : Hid (Below w.heap.size w w6) := hB0.out.grown hgrow hB0.out.size (fun j hj => OwnS.lt ownN.out j hj)
      have own6 : Hid (OwnS w6 w.heap.size v6 ([] ++ b)) := OwnS.app0 (n := nb) hown' HNB.out
      clear hown' hgrow ownN
      go_wp2_with fail
      refine (c1.out _ _ own6.out.spns).mono ?_; rintro e w7 ⟨v7, rfl, own7, k7⟩
      have hf := Lib.hid (own7.mono B6.out.size)
      have hB := Lib.hid (stepB B6.out k7)
      clear own7
      go_wp2_with fail
      go_ret
      exact ⟨_, rfl, hf.out, hB.out⟩
  · obtain ⟨na, hna⟩ : ∃ n, a.length = n := ⟨_, rfl⟩
    have sA := Lib.hid (sa w (Below.refl _ _))
    have HNA := Lib.hid hna
    rw [hna] at hla ⊢
    clear hna sa
    have ownN := Lib.hid (OwnS.nil w w.heap.size)
    rcases hb.two with ⟨cb, rfl, rfl⟩ | ⟨pb, cb, rfl, sb⟩
    · clear ha hb
      go_enter Try.func20, Try.ntmps20
      go_wp2_with (at_builtin; refine wpList_append_own _ rfl _ _ 22 rfl w.heap.size 38 i0 (.agg #[.int .i64 0, .int .i64 0]) 2 16 Try.underlying22 hi0 hz0 hz1 hz2 rfl (by decide) _ _ _ rfl (ownN.out) pa na ca (spsC a) rfl (by rw [spsC_len, HNA.out]) sA.out (spsC_one _) (by unfold maxLen; show 0 + na ≤ _; omega) (by show (0 + na) * 16 ≤ _; omega) (hB0.out).size ?_)
      intro v5 w5 hown' hgrow _
      have B5 : Hid (Below w.heap.size w w5) := hB0.out.grown hgrow hB0.out.size (fun j hj => OwnS.lt ownN.out j hj)
      have own5 : OwnS w5 w.heap.size v5 a := OwnS.app0 (n := na) hown' HNA.out
      clear hown' hgrow ownN
      have own6 := Lib.hid (show OwnS w5 w.heap.size v5 (a ++ []) by rw [List.append_nil]; exact own5)
      have B6 := B5
      rcases own5.form with ⟨rfl, -⟩ | ⟨g5, c5, rfl, -, -⟩
      · clear own5
        go_wp2_with fail
        refine (c1.out _ _ own6.out.spns).mono ?_; rintro e w7 ⟨v7, rfl, own7, k7⟩
        have hf := Lib.hid (own7.mono B6.out.size)
        have hB := Lib.hid (stepB B6.out k7)
        clear own7
        go_wp2_with fail
        go_ret
        exact ⟨_, rfl, hf.out, hB.out⟩
      · rw [HNA.out] at own5 own6 ⊢
        have hcap : na ≤ c5 := by
          obtain ⟨p, c, e, h, -⟩ := own5.spns
          cases e
          rw [HNA.out] at h; exact h
        clear own5
        go_wp2_with fail
        refine (c1.out _ _ own6.out.spns).mono ?_; rintro e w7 ⟨v7, rfl, own7, k7⟩
        have hf := Lib.hid (own7.mono B6.out.size)
        have hB := Lib.hid (stepB B6.out k7)
        clear own7
        go_wp2_with fail
        go_ret
        exact ⟨_, rfl, hf.out, hB.out⟩
    · obtain ⟨nb, hnb⟩ : ∃ n, b.length = n := ⟨_, rfl⟩
      have HNB := Lib.hid hnb
      have SB := Lib.hid sb
      rw [hnb] at hlb ⊢
      clear hnb sb ha hb
      go_enter Try.func20, Try.ntmps20
      go_wp2_with (at_builtin; refine wpList_append_own _ rfl _ _ 22 rfl w.heap.size 38 i0 (.agg #[.int .i64 0, .int .i64 0]) 2 16 Try.underlying22 hi0 hz0 hz1 hz2 rfl (by decide) _ _ _ rfl (ownN.out) pa na ca (spsC a) rfl (by rw [spsC_len, HNA.out]) sA.out (spsC_one _) (by unfold maxLen; show 0 + na ≤ _; omega) (by show (0 + na) * 16 ≤ _; omega) (hB0.out).size ?_)
      intro v5 w5 hown' hgrow _
      have B5 : Hid (Below w.heap.size w w5) := hB0.out.grown hgrow hB0.out.size (fun j hj => OwnS.lt ownN.out j hj)
      have own5 : OwnS w5 w.heap.size v5 a := OwnS.app0 (n := na) hown' HNA.out
      clear hown' hgrow ownN
      have own5 := Lib.hid own5
      go_wp2_with (at_builtin; refine wpList_append_own _ rfl _ _ 22 rfl w.heap.size 38 i0 (.agg #[.int .i64 0, .int .i64 0]) 2 16 Try.underlying22 hi0 hz0 hz1 hz2 rfl (by decide) _ _ _ rfl own5.out pb nb cb (spsC b) rfl (by rw [spsC_len, HNB.out]) (SB.out _ B5.out) (spsC_one _) (by unfold maxLen; rw [HNA.out]; omega) (by rw [HNA.out]; omega) B5.out.size ?_)
      intro v6 w6 hown' hgrow _
      have B6 : Hid (Below w.heap.size w w6) := B5.out.grown hgrow B5.out.size (fun j hj => OwnS.lt own5.out j hj)
      have own6 : Hid (OwnS w6 w.heap.size v6 (a ++ b)) := OwnS.app (n := nb) hown' HNB.out
      clear hown' hgrow own5
      go_wp2_with fail
      refine (c1.out _ _ own6.out.spns).mono ?_; rintro e w7 ⟨v7, rfl, own7, k7⟩
      have hf := Lib.hid (own7.mono B6.out.size)
      have hB := Lib.hid (stepB B6.out k7)
      clear own7
      go_wp2_with fail
      go_ret
      exact ⟨_, rfl, hf.out, hB.out⟩
end Go.Proofs.Ytmfhjgddpkecfaa.Sp
