/-
  Comparisons of magnitudes.
-/
import Derived.Test.YtnpgikjahfhaoaaWSplit
namespace Go.Proofs.Ytnpgikjahfhaoaa
open Go.RowKit Go.Proofs.WM

/-- -1, 0 or 1. -/
def cmpN (a b : Nat) : Int := if a < b then -1 else if b < a then 1 else 0
theorem cmp_below {b n m i k : Nat} (hk : i < k) (h : ∀ j, i < j → j < k → dg b n j = dg b m j) (hlt : dg b n i < dg b m i) (hn : n < b ^ k) (hm : m < b ^ k) : n < m := by
  have e : n / b ^ (i + 1) = m / b ^ (i + 1) := by
    have h1 : ∀ (d : Nat), i + 1 + d ≤ k → n / b ^ (k - d) = m / b ^ (k - d) := by
      intro d
      induction d with
      | zero => intro _; rw [Nat.sub_zero, Nat.div_eq_of_lt hn, Nat.div_eq_of_lt hm]
      | succ d ih =>
        intro hd
        have := ih (by omega)
        rw [div_step b n (k - (d + 1)), div_step b m (k - (d + 1)), show k - (d + 1) + 1 = k - d by omega, this, h _ (by omega) (by omega)]
    have := h1 (k - (i + 1)) (by omega)
    rwa [show k - (k - (i + 1)) = i + 1 by omega] at this
  have h2 : n / b ^ i < m / b ^ i := by rw [div_step b n i, div_step b m i, e]; omega
  rcases Nat.lt_or_ge n m with x | x
  · exact x
  · exact absurd (Nat.div_le_div_right (c := b ^ i) x) (by omega)
theorem cmp_same {b k n m : Nat} (h : ∀ j, j < k → dg b n j = dg b m j) (hn : n < b ^ k) (hm : m < b ^ k) : n = m := by
  have := eq_of_dg k n m h
  rwa [Nat.mod_eq_of_lt hn, Nat.mod_eq_of_lt hm] at this
theorem cmpN_lt {a b : Nat} (h : a < b) : cmpN a b = -1 := by unfold cmpN; rw [if_pos h]
theorem cmpN_gt {a b : Nat} (h : b < a) : cmpN a b = 1 := by unfold cmpN; rw [if_neg (by omega), if_pos h]
theorem cmpN_eq {a b : Nat} (h : a = b) : cmpN a b = 0 := by unfold cmpN; rw [if_neg (by omega), if_neg (by omega)]

theorem pcompare_any (n m : Nat) (w : World) (hn : n < M256) (hm : m < M256) :
    Calls Try.prog 43 #[.agg (magL n), .agg (magL m)] w (Gives (.int .i64 (cmpN n m)) w) := by
  obtain ⟨xs, hx⟩ : ∃ xs, xs = magL n := ⟨_, rfl⟩
  obtain ⟨ys, hy⟩ : ∃ ys, ys = magL m := ⟨_, rfl⟩
  rw [← hx, ← hy]
  have HX := Lib.hid (hx.trans (rowF4 n).symm)
  have HY := Lib.hid (hy.trans (rowF4 m).symm)
  have HN := Lib.hid hn
  have HM := Lib.hid hm
  clear hx hy hn hm
  go_enter Try.func43, Try.ntmps43
  go_wp2
  go_loopw [4, 5] (fun _ i wr => ∃ k : Nat, k ≤ 4 ∧ i = .int .i64 ((k : Int) - 1) ∧ Hid (∀ j, j < 4 → k ≤ j → wd n j = wd m j) ∧ Hid (Blk wr w.heap.size 45 xs) ∧ Hid (Blk wr (w.heap.size + 1) 45 ys) ∧ Below w.heap.size w wr) (fun _ i _ => (intOf i + 1).toNat)
  case atStart =>
    exact ⟨4, by omega, rfl, fun j h1 h2 => absurd h1 (by omega), (Blk.new _ _ _).old _, Blk.newAt (by simp) _ _, ((Below.refl _ _).alloc (Nat.le_refl _) _).alloc (by simp) _⟩
  case round =>
    obtain ⟨k, hk, rfl, he, h0, h1, hB⟩ := hrel
    rcases Nat.eq_zero_or_pos k with hk0 | hk0
    · have E := Lib.hid (cmpN_eq (cmp_same (k := 4) (fun j hj => he.out j hj (by omega)) (m_pow4 ▸ HN.out) (m_pow4 ▸ HM.out)))
      subst hk0
      go_wp2
      go_ret
      exact ⟨by rw [E.out]; rfl, hB⟩
    · obtain ⟨j, rfl⟩ : ∃ j, k = j + 1 := ⟨k - 1, by omega⟩
      have i0 : ((j + 1 : Nat) : Int) - 1 = (j : Int) := by omega
      rw [i0]
      have a0 : wr.cell? ⟨w.heap.size, j, none⟩ = some (.int .u64 ((wd n j : Nat) : Int)) := by
        rw [h0.out.cell, HX.out]; exact rowF_at _ (by omega)
      have a1 : wr.cell? ⟨w.heap.size + 1, j, none⟩ = some (.int .u64 ((wd m j : Nat) : Int)) := by
        rw [h1.out.cell, HY.out]; exact rowF_at _ (by omega)
      have hs : ∀ i, j < i → i < 4 → wd n i = wd m i := fun i h3 h4 => he.out i h4 (by omega)
      have HS := Lib.hid hs
      clear hs i0
      rcases Nat.lt_trichotomy (wd n j) (wd m j) with hlt | heq | hgt
      · have E := Lib.hid (cmpN_lt (cmp_below (b := 18446744073709551616) (k := 4) (by omega) HS.out hlt (m_pow4 ▸ HN.out) (m_pow4 ▸ HM.out)))
        have hb : decide (wd n j < wd m j) = true := decide_eq_true hlt
        clear hlt
        go_wp2_with fail
        go_region
        go_wp2
        go_ret
        exact ⟨by rw [E.out]; rfl, hB.drew⟩
      · have hs : ∀ i, i < 4 → j ≤ i → wd n i = wd m i := fun i h3 h4 => by
          by_cases e : i = j
          · rw [e]; exact heq
          · exact HS.out i (by omega) h3
        have HS1 := Lib.hid hs
        have hb : decide (wd m j < wd m j) = false := decide_eq_false (Nat.lt_irrefl _)
        rw [heq] at a0
        clear hs heq
        go_wp2_with fail
        go_region
        go_wp2_with fail
        go_region
        go_wp2
        refine ⟨⟨j, by omega, rfl, HS1, h0.out, h1.out, hB.drew.drew⟩, by simp [intOf]⟩
      · have E := Lib.hid (cmpN_gt (cmp_below (b := 18446744073709551616) (k := 4) (by omega) (fun i h3 h4 => (HS.out i h3 h4).symm) hgt (m_pow4 ▸ HM.out) (m_pow4 ▸ HN.out)))
        have hb : decide (wd n j < wd m j) = false := decide_eq_false (by omega)
        have hb2 : decide (wd m j < wd n j) = true := decide_eq_true hgt
        clear hgt
        go_wp2_with fail
        go_region
        go_wp2_with fail
        go_region
        go_wp2
        go_ret
        exact ⟨by rw [E.out]; rfl, hB.drew.drew⟩
theorem rcompare_any (n m : Nat) (w : World) (hn : n < M256) (hm : m < M256) :
    Calls Try.prog 44 #[.agg (halL n), .agg (halL m)] w (Gives (.int .i64 (cmpN n m)) w) := by
  obtain ⟨xs, hx⟩ : ∃ xs, xs = halL n := ⟨_, rfl⟩
  obtain ⟨ys, hy⟩ : ∃ ys, ys = halL m := ⟨_, rfl⟩
  rw [← hx, ← hy]
  have HX := Lib.hid (hx.trans (rowF8 n).symm)
  have HY := Lib.hid (hy.trans (rowF8 m).symm)
  have HN := Lib.hid hn
  have HM := Lib.hid hm
  clear hx hy hn hm
  go_enter Try.func44, Try.ntmps44
  go_wp2
  go_loopw [4, 5] (fun _ i wr => ∃ k : Nat, k ≤ 8 ∧ i = .int .i64 ((k : Int) - 1) ∧ Hid (∀ j, j < 8 → k ≤ j → hw n j = hw m j) ∧ Hid (Blk wr w.heap.size 48 xs) ∧ Hid (Blk wr (w.heap.size + 1) 48 ys) ∧ Below w.heap.size w wr) (fun _ i _ => (intOf i + 1).toNat)
  case atStart =>
    exact ⟨8, by omega, rfl, fun j h1 h2 => absurd h1 (by omega), (Blk.new _ _ _).old _, Blk.newAt (by simp) _ _, ((Below.refl _ _).alloc (Nat.le_refl _) _).alloc (by simp) _⟩
  case round =>
    obtain ⟨k, hk, rfl, he, h0, h1, hB⟩ := hrel
    rcases Nat.eq_zero_or_pos k with hk0 | hk0
    · have E := Lib.hid (cmpN_eq (cmp_same (k := 8) (fun j hj => he.out j hj (by omega)) (m_pow8 ▸ HN.out) (m_pow8 ▸ HM.out)))
      subst hk0
      go_wp2
      go_ret
      exact ⟨by rw [E.out]; rfl, hB⟩
    · obtain ⟨j, rfl⟩ : ∃ j, k = j + 1 := ⟨k - 1, by omega⟩
      have i0 : ((j + 1 : Nat) : Int) - 1 = (j : Int) := by omega
      rw [i0]
      have a0 : wr.cell? ⟨w.heap.size, j, none⟩ = some (.int .u64 ((hw n j : Nat) : Int)) := by
        rw [h0.out.cell, HX.out]; exact rowF_at _ (by omega)
      have a1 : wr.cell? ⟨w.heap.size + 1, j, none⟩ = some (.int .u64 ((hw m j : Nat) : Int)) := by
        rw [h1.out.cell, HY.out]; exact rowF_at _ (by omega)
      have hs : ∀ i, j < i → i < 8 → hw n i = hw m i := fun i h3 h4 => he.out i h4 (by omega)
      have HS := Lib.hid hs
      clear hs i0
      rcases Nat.lt_trichotomy (hw n j) (hw m j) with hlt | heq | hgt
      · have E := Lib.hid (cmpN_lt (cmp_below (b := 4294967296) (k := 8) (by omega) HS.out hlt (m_pow8 ▸ HN.out) (m_pow8 ▸ HM.out)))
        have hb : decide (hw n j < hw m j) = true := decide_eq_true hlt
        clear hlt
        go_wp2_with fail
        go_region
        go_wp2
        go_ret
        exact ⟨by rw [E.out]; rfl, hB.drew⟩
      · have hs : ∀ i, i < 8 → j ≤ i → hw n i = hw m i := fun i h3 h4 => by
          by_cases e : i = j
          · rw [e]; exact heq
          · exact HS.out i (by omega) h3
        have HS1 := Lib.hid hs
        have hb : decide (hw m j < hw m j) = false := decide_eq_false (Nat.lt_irrefl _)
        rw [heq] at a0
        clear hs heq
        go_wp2_with fail
        go_region
        go_wp2_with fail
        go_region
        go_wp2
        refine ⟨⟨j, by omega, rfl, HS1, h0.out, h1.out, hB.drew.drew⟩, by simp [intOf]⟩
      · have E := Lib.hid (cmpN_gt (cmp_below (b := 4294967296) (k := 8) (by omega) (fun i h3 h4 => (HS.out i h3 h4).symm) hgt (m_pow8 ▸ HM.out) (m_pow8 ▸ HN.out)))
        have hb : decide (hw n j < hw m j) = false := decide_eq_false (by omega)
        have hb2 : decide (hw m j < hw n j) = true := decide_eq_true hgt
        clear hgt
        go_wp2_with fail
        go_region
        go_wp2_with fail
        go_region
        go_wp2
        go_ret
        exact ⟨by rw [E.out]; rfl, hB.drew.drew⟩
end Go.Proofs.Ytnpgikjahfhaoaa
