/-
  Long division, a bit of the quotient at a time.
-/
import Derived.Test.YtnpgikjahfhaoaaWTool
import Derived.Test.YtnpgikjahfhaoaaWShift
import Derived.Test.YtnpgikjahfhaoaaWSub
namespace Go.Proofs.Ytnpgikjahfhaoaa
open Go.RowKit Go.Proofs.WM Go.Proofs.Reg

theorem bit_one {n D : Nat} (hD : 0 < D) (h : D ≤ n % (2 * D)) : n / D = 2 * (n / (2 * D)) + 1 ∧ n % D = n % (2 * D) - D := by
  have h1 := Nat.div_add_mod n (2 * D)
  have h2 := Nat.mod_lt n (show 0 < 2 * D by omega)
  generalize n % (2 * D) = r at *
  generalize n / (2 * D) = k at *
  have e : n = D * (2 * k + 1) + (r - D) := by rw [← h1, Nat.mul_add, Nat.mul_one, Nat.mul_comm 2 D, Nat.mul_assoc]; omega
  constructor
  · rw [e, Nat.mul_add_div hD, Nat.div_eq_of_lt (by omega)]
  · rw [e, Nat.mul_add_mod, Nat.mod_eq_of_lt (by omega)]
theorem bit_zero {n D : Nat} (hD : 0 < D) (h : n % (2 * D) < D) : n / D = 2 * (n / (2 * D)) ∧ n % D = n % (2 * D) := by
  have h1 := Nat.div_add_mod n (2 * D)
  generalize n % (2 * D) = r at *
  generalize n / (2 * D) = k at *
  have e : n = D * (2 * k) + r := by rw [← h1, Nat.mul_comm 2 D, Nat.mul_assoc]
  constructor
  · rw [e, Nat.mul_add_div hD, Nat.div_eq_of_lt h]
    rfl
  · rw [e, Nat.mul_add_mod, Nat.mod_eq_of_lt h]
/-- The divisor in round i of t + 1. -/
def dvs (m t i : Nat) : Nat := m * 2 ^ (t + 1 - i)
theorem dvs_step (m t i : Nat) (h : i ≤ t) : dvs m t i = 2 * dvs m t (i + 1) := by
  unfold dvs
  rw [show t + 1 - i = (t + 1 - (i + 1)) + 1 by omega, Nat.pow_succ]
  ac_rfl
theorem dvs_end (m t : Nat) : dvs m t (t + 1) = m := by unfold dvs; rw [Nat.sub_self, Nat.pow_zero, Nat.mul_one]
theorem dvs_pos {m : Nat} (hm : 0 < m) (t i : Nat) : 0 < dvs m t i := Nat.mul_pos hm (Nat.pow_pos (by decide))
theorem m_pow256 : M256 = 2 ^ 256 := by decide
theorem wd_even1 (q : Nat) : wd (2 * q + 1) 0 = wd (2 * q) 0 + 1 ∧ ∀ i, wd (2 * q + 1) (i + 1) = wd (2 * q) (i + 1) := by
  unfold wd dg
  refine ⟨?_, fun i => ?_⟩
  · rw [Nat.pow_zero, Nat.div_one, Nat.div_one]; omega
  · have : (2 * q + 1) / 18446744073709551616 ^ (i + 1) = 2 * q / 18446744073709551616 ^ (i + 1) := by
      rw [Nat.pow_succ, Nat.mul_comm (18446744073709551616 ^ i), ← Nat.div_div_eq_div_mul, ← Nat.div_div_eq_div_mul]
      congr 1
      omega
    rw [this]
theorem magL_even1 (q : Nat) : (magL (2 * q)).setIfInBounds 0 (.int .u64 ((wd (2 * q + 1) 0 : Nat) : Int)) = magL (2 * q + 1) := by
  obtain ⟨_, h⟩ := wd_even1 q
  rw [show magL (2 * q + 1) = #[.int .u64 ((wd (2 * q + 1) 0 : Nat) : Int), .int .u64 ((wd (2 * q + 1) 1 : Nat) : Int), .int .u64 ((wd (2 * q + 1) 2 : Nat) : Int), .int .u64 ((wd (2 * q + 1) 3 : Nat) : Int)] from rfl, h 0, h 1, h 2]
  rfl

def LongG (w0 : World) (q r : Nat) (w : World) : Prop := Blk w (w0.heap.size + 1 + 1) 45 (magL q) ∧ Blk w w0.heap.size 45 (magL r) ∧ Blk w (w0.heap.size + 1 + 1 + 1) 45 mag0 ∧ Below w0.heap.size w0 w
theorem LongG.ext {w0 : World} {q r : Nat} {wa wb : World} (h : LongG w0 q r wa) (he : Ext [((· == w0.heap.size + 1 + 1), 45, magL q)] wa wb) : LongG w0 q r wb := by
  obtain ⟨h0, h1, h2, h3⟩ := h
  exact ⟨he.done h0 (by simp), he.row h1 (by simp <;> omega), he.row h2 (by simp <;> omega), he.below h3 h3.size (by simp; omega)⟩

set_option maxHeartbeats 1000000 in
theorem plong_any (n m : Nat) (w : World) (hn : n < M256) (hm : m < M256) (h0 : 0 < m) :
    Calls Try.prog 61 #[.agg (magL n), .agg (magL m)] w (Gives (.tuple #[.agg (magL (n / m)), .agg (magL (n % m))]) w) := by
  go_enter Try.func61, Try.ntmps61
  go_wp2_with fail
  refine (halve_any n _ hn).mono ?_
  rintro e w1 ⟨rfl, hb⟩
  have kA : Hid (Blk w1 w.heap.size 45 (magL n)) := Blk.below ((((Blk.new _ _ _).old _).old _).old _) hb
  have kB : Hid (Blk w1 (w.heap.size + 1) 45 (magL m)) := Blk.below (((Blk.newAt (by simp) _ _).old _).old _) hb
  have kQ : Hid (Blk w1 (w.heap.size + 1 + 1) 45 mag0) := Blk.below ((Blk.newAt (by simp) _ _).old _) hb
  have kR : Hid (Blk w1 (w.heap.size + 1 + 1 + 1) 45 mag0) := Blk.below (Blk.newAt (by simp) _ _) hb
  have kW : Below w.heap.size w w1 := Below.trans (((((Below.refl _ _).alloc (Nat.le_refl _) _).alloc (by simp) _).alloc (by simp; omega) _).alloc (by simp; omega) _) (hb.mono (by simp; omega))
  have lR := kR.out.lt
  clear hb
  go_wp2_with (refine wpList_store_row rfl 45 (.tmp 6) (.tmp 9) rfl w1.heap.size (magL (n / 2)) rfl rfl 45 mag0 (Blk.new _ _ _) info_mag rfl (rowF_ones 4 (wd (n / 2))) ?_)
  have kA := Lib.hid ((kA.out.old (.cells mag0 45)).rowOther (k := w1.heap.size) (by omega) (magL (n / 2)))
  have kB := Lib.hid ((kB.out.old (.cells mag0 45)).rowOther (k := w1.heap.size) (by omega) (magL (n / 2)))
  have kQ := Lib.hid ((kQ.out.old (.cells mag0 45)).rowOther (k := w1.heap.size) (by omega) (magL (n / 2)))
  have kR := Lib.hid ((kR.out.old (.cells mag0 45)).rowOther (k := w1.heap.size) (by omega) (magL (n / 2)))
  have kL := Lib.hid ((Blk.new w1 45 mag0).row (magL (n / 2)))
  have kW := below_row (kW.alloc (by omega) (.cells mag0 45)) (g := w1.heap.size) (by omega) (magL (n / 2))
  obtain ⟨L, hL⟩ : ∃ L, L = w1.heap.size := ⟨_, rfl⟩
  rw [← hL] at kA kB kQ kR kL kW ⊢
  have hL3 : w.heap.size + 1 + 1 + 1 < L := by omega
  clear hL lR
  have HN := Lib.hid hn
  have HM := Lib.hid hm
  have hnl : n / 2 < M256 := by omega
  have HNL := Lib.hid hnl
  clear hn hm hnl
  go_loopw [7] (fun s7 wr => ∃ t : Nat, s7 = .int .i64 ((t : Int) + 1) ∧ m * 2 ^ t < M256 ∧ Hid (Blk wr w.heap.size 45 (magL n)) ∧ Hid (Blk wr (w.heap.size + 1) 45 (magL (m * 2 ^ t))) ∧ Hid (Blk wr (w.heap.size + 1 + 1) 45 mag0) ∧ Hid (Blk wr (w.heap.size + 1 + 1 + 1) 45 mag0) ∧ Hid (Blk wr L 45 (magL (n / 2))) ∧ Below w.heap.size w wr) (fun s7 _ => 256 - (intOf s7 - 1).toNat)
  case atStart =>
    exact ⟨0, rfl, by rw [Nat.pow_zero, Nat.mul_one]; exact HM.out, kA.out, kB.out.of_eq (by rw [Nat.pow_zero, Nat.mul_one]), kQ.out, kR.out, kL.out, kW⟩
  case round =>
    clear kA kB kQ kR kL kW
    obtain ⟨t, rfl, hmt, kA, kB, kQ, kR, kL, kW⟩ := hrel
    have ht : t < 256 := by
      have h1 : 1 * 2 ^ t ≤ m * 2 ^ t := Nat.mul_le_mul_right _ h0
      rw [m_pow256] at hmt
      exact (Nat.pow_lt_pow_iff_right (show 1 < 2 by decide)).1 (by omega)
    have HMT := Lib.hid hmt
    clear hmt
    by_cases hle : m * 2 ^ t ≤ n / 2
    · have HLE := Lib.hid hle
      clear hle
      go_wp2_with (first | (refine wpList_load_row rfl 45 (.tmp 3) rfl (w.heap.size + 1) rfl 45 _ (0, 0) _ kB.out under_mag rfl info_mag ?_) | (refine wpList_load_row rfl 45 (.tmp 6) rfl L rfl 45 _ (0, 0) _ kL.out under_mag rfl info_mag ?_))
      refine (pcompare_le _ _ _ HMT.out HNL.out HLE.out).mono ?_
      rintro e w2 ⟨c, hc, rfl, hb⟩
      have kA := Lib.hid (kA.out.below hb)
      have kB := Lib.hid (kB.out.below hb)
      have kQ := Lib.hid (kQ.out.below hb)
      have kR := Lib.hid (kR.out.below hb)
      have kL := Lib.hid (kL.out.below hb)
      have kW := kW.trans (hb.mono kW.size)
      clear hb
      go_wp2_with (refine wpList_load_row rfl 45 (.tmp 3) rfl (w.heap.size + 1) rfl 45 _ (0, 0) _ kB.out under_mag rfl info_mag ?_)
      refine (double_any _ _).mono ?_
      rintro e w3 ⟨rfl, hb⟩
      have kA := Lib.hid (kA.out.below hb)
      have kB := Lib.hid (kB.out.below hb)
      have kQ := Lib.hid (kQ.out.below hb)
      have kR := Lib.hid (kR.out.below hb)
      have kL := Lib.hid (kL.out.below hb)
      have kW := kW.trans (hb.mono kW.size)
      clear hb
      go_wp2_with (refine wpList_store_row rfl 45 (.tmp 3) (.tmp 15) rfl (w.heap.size + 1) (magL (2 * (m * 2 ^ t))) rfl rfl 45 _ kB.out info_mag rfl (rowF_ones 4 (wd (2 * (m * 2 ^ t)))) ?_)
      have hle := HLE.out
      have e2 : 2 * (m * 2 ^ t) = m * 2 ^ (t + 1) := by rw [Nat.pow_succ]; ac_rfl
      have hlt : m * 2 ^ (t + 1) < M256 := by rw [← e2]; have := HN.out; omega
      rw [e2]
      refine ⟨⟨t + 1, by go_num, hlt, kA.out.rowOther (by omega) _, kB.out.row _, kQ.out.rowOther (by omega) _, kR.out.rowOther (by omega) _, kL.out.rowOther (by omega) _, below_row kW (by omega) _⟩, by simp [intOf]; omega⟩
    · have hgt : n / 2 < m * 2 ^ t := by omega
      have HGT := Lib.hid hgt
      clear hle hgt
      go_wp2_with (first | (refine wpList_load_row rfl 45 (.tmp 3) rfl (w.heap.size + 1) rfl 45 _ (0, 0) _ kB.out under_mag rfl info_mag ?_) | (refine wpList_load_row rfl 45 (.tmp 6) rfl L rfl 45 _ (0, 0) _ kL.out under_mag rfl info_mag ?_))
      refine (pcompare_gt _ _ _ HMT.out HNL.out HGT.out).mono ?_
      rintro e w2 ⟨c, hc, rfl, hb⟩
      have kA := Lib.hid (kA.out.below hb)
      have kB := Lib.hid (kB.out.below hb)
      have kQ := Lib.hid (kQ.out.below hb)
      have kR := Lib.hid (kR.out.below hb)
      have kW := kW.trans (hb.mono kW.size)
      clear hb kL
      go_wp2
      obtain ⟨wo, hwo⟩ : ∃ wo : World, wo = w2 := ⟨_, rfl⟩
      subst hwo
      have hN2 : n < dvs m t 0 := by
        have := HGT.out
        unfold dvs
        rw [Nat.sub_zero, Nat.pow_succ, ← Nat.mul_assoc]
        omega
      have HN2 := Lib.hid hN2
      clear hN2
      go_loopw [19] (fun s19 wr => ∃ i : Nat, i ≤ t + 1 ∧ s19 = .int .i64 (i : Int) ∧ Hid (Blk wr w.heap.size 45 (magL (n % dvs m t i))) ∧ Hid (Blk wr (w.heap.size + 1) 45 (magL (dvs m t i / 2))) ∧ Hid (Blk wr (w.heap.size + 1 + 1) 45 (magL (n / dvs m t i))) ∧ Hid (Blk wr (w.heap.size + 1 + 1 + 1) 45 mag0) ∧ Below w.heap.size w wr) (fun s19 _ => t + 1 - (intOf s19).toNat)
      case atStart =>
        refine ⟨0, by omega, rfl, kA.out.of_eq (by rw [Nat.mod_eq_of_lt HN2.out]), kB.out.of_eq ?_, kQ.out.of_eq (by rw [Nat.div_eq_of_lt HN2.out, ← magL0]), kR.out, kW⟩
        rw [dvs_step m t 0 (by omega)]
        congr 2
        unfold dvs
        rw [show t + 1 - (0 + 1) = t by omega, Nat.mul_div_cancel_left _ (by decide)]
      case round =>
        clear kA kB kQ kR kW
        obtain ⟨i, hi, rfl, kA, kB, kQ, kR, kW⟩ := hrel
        by_cases hlt : i < t + 1
        · have hD := dvs_pos h0 t (i + 1)
          have hst := dvs_step m t i (by omega)
          have hdm : dvs m t i / 2 = dvs m t (i + 1) := by rw [hst, Nat.mul_div_cancel_left _ (by decide)]
          rw [hdm] at kB
          have HST := Lib.hid hst
          have HD := Lib.hid hD
          clear hdm hst hD
          have bA : n % dvs m t i < M256 := Nat.lt_of_le_of_lt (Nat.mod_le _ _) HN.out
          have bB : dvs m t (i + 1) < M256 := by
            refine Nat.lt_of_le_of_lt ?_ HMT.out
            unfold dvs
            exact Nat.mul_le_mul_left _ (Nat.pow_le_pow_right (by decide) (by omega))
          have BA := Lib.hid bA
          have BB := Lib.hid bB
          clear bA bB
          go_wp2_with (refine wpList_load_row rfl 45 (.tmp 4) rfl (w.heap.size + 1 + 1) rfl 45 _ (0, 0) _ kQ.out under_mag rfl info_mag ?_)
          refine (double_any _ _).mono ?_
          rintro e w3 ⟨rfl, hb⟩
          have kA := Lib.hid (kA.out.below hb)
          have kB := Lib.hid (kB.out.below hb)
          have kQ := Lib.hid (kQ.out.below hb)
          have kR := Lib.hid (kR.out.below hb)
          have kW := kW.trans (hb.mono kW.size)
          clear hb
          by_cases hge : dvs m t (i + 1) ≤ n % dvs m t i
          · have HGE := Lib.hid hge
            clear hge
            go_wp2_with (first | (refine wpList_store_row rfl 45 (.tmp 4) (.tmp 22) rfl (w.heap.size + 1 + 1) (magL (2 * (n / dvs m t i))) rfl rfl 45 _ kQ.out info_mag rfl (rowF_ones 4 (wd (2 * (n / dvs m t i)))) ?_) | (refine wpList_load_row rfl 45 (.tmp 2) rfl w.heap.size rfl 45 _ (0, 0) _ (kA.out.rowOther (by omega) _) under_mag rfl info_mag ?_) | (refine wpList_load_row rfl 45 (.tmp 3) rfl (w.heap.size + 1) rfl 45 _ (0, 0) _ (kB.out.rowOther (by omega) _) under_mag rfl info_mag ?_))
            have kA := Lib.hid (kA.out.rowOther (k := (w.heap.size + 1 + 1)) (by omega) (magL (2 * (n / dvs m t i))))
            have kB := Lib.hid (kB.out.rowOther (k := (w.heap.size + 1 + 1)) (by omega) (magL (2 * (n / dvs m t i))))
            have kR := Lib.hid (kR.out.rowOther (k := (w.heap.size + 1 + 1)) (by omega) (magL (2 * (n / dvs m t i))))
            have kQ := Lib.hid (kQ.out.row (magL (2 * (n / dvs m t i))))
            have kW := below_row kW (g := (w.heap.size + 1 + 1)) (by omega) (magL (2 * (n / dvs m t i)))
            refine (pcompare_ge _ _ _ BA.out BB.out HGE.out).mono ?_
            rintro e w4 ⟨c, hc, rfl, hb⟩
            have kA := Lib.hid (kA.out.below hb)
            have kB := Lib.hid (kB.out.below hb)
            have kQ := Lib.hid (kQ.out.below hb)
            have kR := Lib.hid (kR.out.below hb)
            have kW := kW.trans (hb.mono kW.size)
            clear hb
            go_wp2_with (first | (refine wpList_load_row rfl 45 (.tmp 2) rfl w.heap.size rfl 45 _ (0, 0) _ kA.out under_mag rfl info_mag ?_) | (refine wpList_load_row rfl 45 (.tmp 3) rfl (w.heap.size + 1) rfl 45 _ (0, 0) _ kB.out under_mag rfl info_mag ?_))
            obtain ⟨e1, e2⟩ := bit_one HD.out (by rw [← HST.out]; exact HGE.out)
            rw [← HST.out] at e1 e2
            have e3 : subN (n % dvs m t i) (dvs m t (i + 1)) = n % (dvs m t (i + 1)) := by rw [subN_of_le HGE.out BA.out, e2]
            have hsub := psubtract_any (n % dvs m t i) (dvs m t (i + 1)) w4 BB.out
            rw [e3] at hsub
            have E1 := Lib.hid e1
            clear e1 e2 e3
            refine hsub.mono ?_
            rintro e w5 ⟨rfl, hb⟩
            have kA := Lib.hid (kA.out.below hb)
            have kB := Lib.hid (kB.out.below hb)
            have kQ := Lib.hid (kQ.out.below hb)
            have kR := Lib.hid (kR.out.below hb)
            have kW := kW.trans (hb.mono kW.size)
            clear hb
            obtain ⟨V, hV⟩ : ∃ V, V = wd (2 * (n / dvs m t i)) 0 := ⟨_, rfl⟩
            obtain ⟨U, hU⟩ : ∃ U, U = wd (2 * (n / dvs m t i) + 1) 0 := ⟨_, rfl⟩
            have kQ5 := kQ.out.rowOther (k := w.heap.size) (by omega) (magL (n % (dvs m t (i + 1))))
            have c0 : (w5.setRow w.heap.size (magL (n % (dvs m t (i + 1))))).cell? ⟨(w.heap.size + 1 + 1), 0, none⟩ = some (.int .u64 ((V : Nat) : Int)) := by rw [kQ5.cell, hV]; rfl
            have f0 := kQ5.frozen 0
            have hVU : V + 1 = U := by rw [hV, hU]; exact (wd_even1 (n / dvs m t i)).1.symm
            have hUl : U < 18446744073709551616 := by rw [hU]; exact wd_lt _ _
            have s0 : IntKind.u64.wrap ((V : Int) + 1) = (U : Int) := by
              rw [wrap_in _ (by omega) (by omega)]
              omega
            have KQ5 := Lib.hid kQ5
            have HU := Lib.hid hU
            clear kQ5 hV hU hVU hUl
            go_wp2_with (first | (refine wpList_store_row rfl 45 (.tmp 2) (.tmp 29) rfl w.heap.size (magL (n % (dvs m t (i + 1)))) rfl rfl 45 _ kA.out info_mag rfl (rowF_ones 4 (wd (n % (dvs m t (i + 1))))) ?_) | (refine wpList_load_row rfl 45 (.tmp 3) rfl (w.heap.size + 1) rfl 45 _ (0, 0) _ ((kB.out.rowOther (by omega) _).other (by simp) _) under_mag rfl info_mag ?_))
            refine (halve_any _ _ BB.out).mono ?_
            rintro e w6 ⟨rfl, hb⟩
            have kA := Lib.hid (((kA.out.row _).other (by simp <;> omega) _).below hb)
            have kB := Lib.hid (((kB.out.rowOther (by omega) _).other (by simp <;> omega) _).below hb)
            have kQ := Lib.hid (((KQ5.out.set_ 0 _).of_eq (b := magL (2 * (n / dvs m t i) + 1)) (by rw [HU.out]; exact magL_even1 (n / dvs m t i))).below hb)
            have kR := Lib.hid (((kR.out.rowOther (by omega) _).other (by simp <;> omega) _).below hb)
            have kW := ((below_row kW (by omega) _).setCell (by simp <;> omega) _).trans (hb.mono (by simp; exact kW.size))
            clear hb
            go_wp2_with (refine wpList_store_row rfl 45 (.tmp 3) (.tmp 35) rfl (w.heap.size + 1) (magL ((dvs m t (i + 1)) / 2)) rfl rfl 45 _ kB.out info_mag rfl (rowF_ones 4 (wd ((dvs m t (i + 1)) / 2))) ?_)
            rw [← E1.out] at kQ
            refine ⟨⟨i + 1, by omega, by go_num, kA.out.rowOther (by omega) _, kB.out.row _, kQ.out.rowOther (by omega) _, kR.out.rowOther (by omega) _, below_row kW (by omega) _⟩, by simp [intOf]; omega⟩
          · have hlt2 : (n % dvs m t i) < (dvs m t (i + 1)) := by omega
            have HLT2 := Lib.hid hlt2
            clear hge hlt2
            go_wp2_with (first | (refine wpList_store_row rfl 45 (.tmp 4) (.tmp 22) rfl (w.heap.size + 1 + 1) (magL (2 * (n / dvs m t i))) rfl rfl 45 _ kQ.out info_mag rfl (rowF_ones 4 (wd (2 * (n / dvs m t i)))) ?_) | (refine wpList_load_row rfl 45 (.tmp 2) rfl w.heap.size rfl 45 _ (0, 0) _ (kA.out.rowOther (by omega) _) under_mag rfl info_mag ?_) | (refine wpList_load_row rfl 45 (.tmp 3) rfl (w.heap.size + 1) rfl 45 _ (0, 0) _ (kB.out.rowOther (by omega) _) under_mag rfl info_mag ?_))
            have kA := Lib.hid (kA.out.rowOther (k := (w.heap.size + 1 + 1)) (by omega) (magL (2 * (n / dvs m t i))))
            have kB := Lib.hid (kB.out.rowOther (k := (w.heap.size + 1 + 1)) (by omega) (magL (2 * (n / dvs m t i))))
            have kR := Lib.hid (kR.out.rowOther (k := (w.heap.size + 1 + 1)) (by omega) (magL (2 * (n / dvs m t i))))
            have kQ := Lib.hid (kQ.out.row (magL (2 * (n / dvs m t i))))
            have kW := below_row kW (g := (w.heap.size + 1 + 1)) (by omega) (magL (2 * (n / dvs m t i)))
            refine (pcompare_lt _ _ _ BA.out BB.out HLT2.out).mono ?_
            rintro e w4 ⟨c, hc, rfl, hb⟩
            have kA := Lib.hid (kA.out.below hb)
            have kB := Lib.hid (kB.out.below hb)
            have kQ := Lib.hid (kQ.out.below hb)
            have kR := Lib.hid (kR.out.below hb)
            have kW := kW.trans (hb.mono kW.size)
            clear hb
            go_wp2_with (refine wpList_load_row rfl 45 (.tmp 3) rfl (w.heap.size + 1) rfl 45 _ (0, 0) _ kB.out under_mag rfl info_mag ?_)
            refine (halve_any _ _ BB.out).mono ?_
            rintro e w6 ⟨rfl, hb⟩
            have kA := Lib.hid (kA.out.below hb)
            have kB := Lib.hid (kB.out.below hb)
            have kQ := Lib.hid (kQ.out.below hb)
            have kR := Lib.hid (kR.out.below hb)
            have kW := kW.trans (hb.mono kW.size)
            clear hb
            go_wp2_with (refine wpList_store_row rfl 45 (.tmp 3) (.tmp 35) rfl (w.heap.size + 1) (magL ((dvs m t (i + 1)) / 2)) rfl rfl 45 _ kB.out info_mag rfl (rowF_ones 4 (wd ((dvs m t (i + 1)) / 2))) ?_)
            obtain ⟨e1, e2⟩ := bit_zero HD.out (by rw [← HST.out]; exact HLT2.out)
            rw [← HST.out] at e1 e2
            rw [← e1] at kQ
            rw [← e2] at kA
            refine ⟨⟨i + 1, by omega, by go_num, kA.out.rowOther (by omega) _, kB.out.row _, kQ.out.rowOther (by omega) _, kR.out.rowOther (by omega) _, below_row kW (by omega) _⟩, by simp [intOf]; omega⟩
        · obtain rfl : i = t + 1 := by omega
          rw [dvs_end] at kA kQ
          have hG : LongG w (n / m) (n % m) wr.drew := ⟨kQ.out.drew, kA.out.drew, kR.out.drew, kW.drew⟩
          clear kA kB kQ kR kW
          go_wp2_with fail
          refine region_steps (ds := [some 37, some 38, none]) [((· == w.heap.size + 1 + 1), 45, magL (n / m))] [[], [], [0]] (fun _ => false) (constF [.agg (magL (n / m)), .agg (magL (n % m)), undef]) (LongG w (n / m) (n % m)) follows_mixed (by kernel_rfl) (by kernel_rfl) (fun _ _ => LongG.ext) (constF_ext _) hG ?_ ?_
          · refine steps_cons ?_ (steps_cons ?_ (steps_cons ?_ steps_nil))
            · exact fun xs wx hG _ => step_row 45 (.tmp 4) rfl (w.heap.size + 1 + 1) (eval_old (by decide)) 45 _ _ hG.1 under_mag rfl info_mag rfl
            · exact fun xs wx hG _ => step_row 45 (.tmp 2) rfl w.heap.size (eval_old (by decide)) 45 _ _ hG.2.1 under_mag rfl info_mag rfl
            · exact fun xs wx hG hF => step_store 45 (.tmp 4) (.tmp 37) rfl (w.heap.size + 1 + 1) (magL (n / m)) (eval_old (by decide)) ((eval_new (i := 0) (by decide) rfl (by simp)).trans hF.1) _ _ hG.1 info_mag rfl (rowF_ones 4 (wd (n / m))) ⟨_, List.mem_singleton.2 rfl, by simp, rfl, rfl⟩ rfl
          intro zs wz hG _ hF
          obtain ⟨f0, f1, f2, _⟩ := hF
          have f0 : zs 0 = .agg (magL (n / m)) := f0
          have f1 : zs 1 = .agg (magL (n % m)) := f1
          have f2 : zs 2 = undef := f2
          simp only [fillIn, Act.put, List.setIfInBounds_toArray, List.set_cons_zero, List.set_cons_succ, f0, f1, List.drop_succ_cons, List.drop_zero, List.length_cons, List.length_nil]
          obtain ⟨kQ, kA, kR, kW⟩ := hG
          refine wpList_store_row rfl 45 _ _ rfl (w.heap.size + 1 + 1 + 1) (magL (n % m)) rfl rfl 45 _ kR info_mag rfl (rowF_ones 4 (wd (n % m))) ?_
          refine wpList_nil ?_
          go_wp2
          exact gives_rows rfl (w.heap.size + 1 + 1) (w.heap.size + 1 + 1 + 1) 45 45 (magL (n / m)) (magL (n % m)) _ _ rfl rfl (kQ.rowOther (by omega) _) (kR.row _) under_mag rfl info_mag under_mag rfl info_mag rfl ⟨rfl, below_row kW (by omega) _⟩
end Go.Proofs.Ytnpgikjahfhaoaa
