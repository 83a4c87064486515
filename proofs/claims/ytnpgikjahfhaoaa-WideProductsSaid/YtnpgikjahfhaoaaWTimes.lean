/-
  The reference's product.
-/
import Derived.Test.YtnpgikjahfhaoaaWMulM
namespace Go.Proofs.Ytnpgikjahfhaoaa
open Go.RowKit Go.Proofs.WM

theorem info_arr16 : (Try.prog.info? 74).map (·.size) = some 16 := by kernel_rfl
theorem rtimes_any (n m : Nat) (w : World) (hn : n < M256) (hm : m < M256) :
    Calls Try.prog 51 #[.agg (halL n), .agg (halL m)] w (Gives (.tuple #[.agg (halL (mulN n m)), .bool (mulB n m)]) w) := by
  obtain ⟨xs, hx⟩ : ∃ xs, xs = halL n := ⟨_, rfl⟩
  obtain ⟨ys, hy⟩ : ∃ ys, ys = halL m := ⟨_, rfl⟩
  rw [← hx, ← hy]
  have HX := Lib.hid (hx.trans (rowF8 n).symm)
  have HY := Lib.hid (hy.trans (rowF8 m).symm)
  have HN := Lib.hid hn
  have HM := Lib.hid hm
  clear hx hy hn hm
  go_enter Try.func51, Try.ntmps51
  go_wp2
  go_loopw [7, 8, 9] (fun i _ _ wr => ∃ k : Nat, k ≤ 8 ∧ i = .int .i64 (k : Int) ∧ Hid (Blk wr w.heap.size 48 xs) ∧ Hid (Blk wr (w.heap.size + 1) 48 ys) ∧ Hid (Blk wr (w.heap.size + 1 + 1) 48 (rowF 8 (fun _ => 0))) ∧ Hid (Blk wr (w.heap.size + 1 + 1 + 1) 74 (rowF 16 (hw (mulD n m k)))) ∧ Below w.heap.size w wr) (fun i _ _ _ => 8 - (intOf i).toNat)
  case atStart =>
    exact ⟨0, by omega, rfl, (((Blk.new _ _ _).old _).old _).old _, ((Blk.newAt (by simp) _ _).old _).old _, (Blk.newAt (by simp) _ _).old _, (Blk.newAt (by simp) _ _).of_eq (by rw [mulD_zero]; simp [rowF, hw_zero, List.range_succ]), ((((Below.refl _ _).alloc (Nat.le_refl _) _).alloc (by simp) _).alloc (by simp <;> omega) _).alloc (by simp <;> omega) _⟩
  case round =>
    obtain ⟨k, hk, rfl, h0, h1, h2, h3, hB⟩ := hrel
    by_cases hlt : k < 8
    · obtain ⟨wo, hwo⟩ : ∃ wo : World, wo = wr := ⟨_, rfl⟩
      subst hwo
      go_wp2
      go_loopw [8, 9] (fun c j wi => ∃ l : Nat, l ≤ 8 ∧ j = .int .i64 (l : Int) ∧ c = .int .u64 ((mcN n m k l : Nat) : Int) ∧ Hid (Blk wi w.heap.size 48 xs) ∧ Hid (Blk wi (w.heap.size + 1) 48 ys) ∧ Hid (Blk wi (w.heap.size + 1 + 1) 48 (rowF 8 (fun _ => 0))) ∧ Hid (Blk wi (w.heap.size + 1 + 1 + 1) 74 (rowF 16 (mix (k + l) (hw (mulD n m (k + 1))) (hw (mulD n m k))))) ∧ Below w.heap.size w wi) (fun _ j _ => 8 - (intOf j).toNat)
      case atStart =>
        exact ⟨0, by omega, rfl, val_u64 (by rw [mcN_zero]; rfl), h0.out, h1.out, h2.out, h3.out.of_eq (row_start n m k), hB⟩
      case round =>
        obtain ⟨l, hl, rfl, rfl, g0, g1, g2, g3, gB⟩ := hrel
        by_cases hll : l < 8
        · have a0 : wr.cell? ⟨w.heap.size, k, none⟩ = some (.int .u64 ((hw n k : Nat) : Int)) := by
            rw [g0.out.cell, HX.out]; exact rowF_at _ hlt
          have a1 : wr.cell? ⟨w.heap.size + 1, l, none⟩ = some (.int .u64 ((hw m l : Nat) : Int)) := by
            rw [g1.out.cell, HY.out]; exact rowF_at _ hll
          have a3 : wr.cell? ⟨w.heap.size + 1 + 1 + 1, k + l, none⟩ = some (.int .u64 ((hw (mulD n m k) (k + l) : Nat) : Int)) := by
            rw [g3.out.at_ (by omega), mix_at]
          have f3 := g3.out.frozen (k + l)
          have HC := Lib.hid (mcN_succ n m k l)
          have HD := Lib.hid (digit_row n m k l)
          have hsum := sum_le (hw_lt n k) (hw_lt m l) (hw_lt (mulD n m k) (k + l)) (mcN_lt n m k l)
          have hd := hw_lt (mulD n m k) (k + l)
          have hc := mcN_lt n m k l
          generalize hw n k = X at *
          generalize hw m l = Y at *
          generalize hw (mulD n m k) (k + l) = D at *
          generalize mcN n m k l = C at *
          obtain ⟨Z, hZ⟩ : ∃ Z, Z = X * Y := ⟨_, rfl⟩
          have z0 : IntKind.u64.wrap ((X : Int) * (Y : Int)) = (Z : Int) := by
            rw [hZ, Int.natCast_mul]
            refine wrap_in _ (by rw [← Int.natCast_mul]; omega) (by rw [← Int.natCast_mul]; omega)
          rw [← hZ] at HC HD hsum
          clear hZ
          have s0 : IntKind.u64.wrap ((C : Int) + (D : Int)) = (C : Int) + (D : Int) := wrap_in _ (by omega) (by omega)
          have s1 : IntKind.u64.wrap ((C : Int) + (D : Int) + (Z : Int)) = (C : Int) + (D : Int) + (Z : Int) := wrap_in _ (by omega) (by omega)
          have i0 : IntKind.i64.wrap ((k : Int) + (l : Int)) = (k : Int) + (l : Int) := Go.IntWalk.i64_in _ (by omega)
          have HS := Lib.hid hsum
          clear hsum hd hc
          go_wp2_with fail
          go_region
          go_wp2
          have e0 : ((C : Int) + (D : Int) + (Z : Int)) % 4294967296 = ((hw (mulD n m (k + 1)) (k + l) : Nat) : Int) := by rw [HD.out]; omega
          have e1 : IntKind.u64.wrap (((C : Int) + (D : Int) + (Z : Int)).tdiv 4294967296) = ((mcN n m k (l + 1) : Nat) : Int) := by
            have := HS.out
            rw [HC.out, Int.tdiv_eq_ediv_of_nonneg (by omega), wrap_in _ (by omega) (by omega)]; omega
          rw [e0, e1]
          refine ⟨⟨l + 1, by omega, by go_num, rfl, (g0.out.other (by simp <;> omega) _).drew, (g1.out.other (by simp <;> omega) _).drew, (g2.out.other (by simp) _).drew, ((g3.out.set_ _ _).of_eq ?_).drew, (gB.setCell (by simp <;> omega) _).drew⟩, by simp [intOf]; omega⟩
          rw [rowF_set, mix_put]
          rfl
        · obtain rfl : l = 8 := by omega
          have a3 : wr.cell? ⟨w.heap.size + 1 + 1 + 1, k + 8, none⟩ = some (.int .u64 ((hw (mulD n m k) (k + 8) : Nat) : Int)) := by
            rw [g3.out.at_ (by omega), mix_at]
          have f3 := g3.out.frozen (k + 8)
          have HT := Lib.hid (carry_top HM.out (n := n) k)
          go_wp2
          rw [HT.out]
          refine ⟨⟨k + 1, by omega, by go_num, g0.out.other (by simp <;> omega) _, g1.out.other (by simp <;> omega) _, g2.out.other (by simp) _, (g3.out.set_ _ _).of_eq ?_, gB.setCell (by simp <;> omega) _⟩, by simp [intOf]; omega⟩
          rw [rowF_set, mix_put, row_end HM.out]
    · obtain rfl : k = 8 := by omega
      obtain ⟨P, hP⟩ : ∃ P, P = mulD n m 8 := ⟨_, rfl⟩
      have HP := Lib.hid hP
      rw [← hP] at h3
      clear hP
      obtain ⟨wo, hwo⟩ : ∃ wo : World, wo = wr := ⟨_, rfl⟩
      subst hwo
      have hsz : w.heap.size + 1 + 1 + 1 < wo.heap.size := h3.out.lt
      go_wp2
      go_loopw [11, 12] (fun o i wi => ∃ k : Nat, k ≤ 8 ∧ i = .int .i64 (k : Int) ∧ o = .bool (ovB P k) ∧ Hid (Blk wi (w.heap.size + 1 + 1) 48 (rowF 8 (fun _ => 0))) ∧ Hid (Blk wi (w.heap.size + 1 + 1 + 1) 74 (rowF 16 (hw P))) ∧ Hid (Blk wi wo.heap.size 48 (rowF 8 (mix k (hw P) (fun _ => 0)))) ∧ Below w.heap.size w wi) (fun _ i _ => 8 - (intOf i).toNat)
      case atStart =>
        exact ⟨0, by omega, rfl, rfl, h2.out.old _, h3.out.old _, Blk.newAt rfl _ _, hB.alloc (by omega) _⟩
      case round =>
        obtain ⟨k, hk, rfl, rfl, g2, g3, g4, gB⟩ := hrel
        by_cases hll : k < 8
        · have a0 : wr.cell? ⟨w.heap.size + 1 + 1 + 1, k, none⟩ = some (.int .u64 ((hw P k : Nat) : Int)) := g3.out.at_ (by omega)
          have a1 : wr.cell? ⟨w.heap.size + 1 + 1 + 1, k + 8, none⟩ = some (.int .u64 ((hw P (8 + k) : Nat) : Int)) := by
            rw [Nat.add_comm 8 k]; exact g3.out.at_ (by omega)
          have a2 : wr.cell? ⟨wo.heap.size, k, none⟩ = some (.int .u64 0) := by
            rw [g4.out.at_ hll, mix_past _ _ _ _ (by omega)]; rfl
          have f2 := g4.out.frozen k
          have HO := Lib.hid (ovB_succ P k)
          have hne : ¬ wo.heap.size = w.heap.size + 1 + 1 + 1 := by omega
          cases hob : ovB P k
          · have HB := Lib.hid hob
            rw [hob] at HO
            clear hob
            go_wp2
            refine ⟨⟨k + 1, by omega, by go_num, by rw [HO.out]; rfl, g2.out.other (by simp <;> omega) _, g3.out.other (by simp <;> omega) _, (g4.out.set_ _ _).of_eq ?_, gB.setCell (by simp <;> omega) _⟩, by simp [intOf]; omega⟩
            rw [rowF_set, mix_put]
          · have HB := Lib.hid hob
            rw [hob] at HO
            clear hob
            go_wp2
            refine ⟨⟨k + 1, by omega, by go_num, by rw [HO.out]; simp, g2.out.other (by simp <;> omega) _, g3.out.other (by simp <;> omega) _, (g4.out.set_ _ _).of_eq ?_, gB.setCell (by simp <;> omega) _⟩, by simp [intOf]; omega⟩
            rw [rowF_set, mix_put]
        · obtain rfl : k = 8 := by omega
          go_wp2_with (first | (refine wpList_load_row rfl 48 _ rfl wo.heap.size rfl 48 _ (0, 0) _ g4.out under_arr8 rfl (by rw [rowF_size]; exact info_arr8) ?_) | (refine wpList_store_row rfl 48 _ _ rfl (w.heap.size + 1 + 1) _ rfl rfl 48 _ g2.out (by rw [rowF_size]; exact info_arr8) (rowF_same _ _ _) (rowF_ones _ _) ?_))
          refine gives_row_tmp rfl (w.heap.size + 1 + 1) 48 _ _ _ rfl rfl (g2.out.row _) under_arr8 rfl (by rw [rowF_size]; exact info_arr8) rfl ⟨?_, below_row gB (by omega) _⟩
          have e1 : rowF 8 (mix 8 (hw P) (fun _ => 0)) = halL (mulN n m) := by
            rw [rowF_full, ← rowF8]
            exact rowF_ext fun i hi => by rw [hw_mulN HN.out i hi, HP.out]
          have e2 : ovB P 8 = mulB n m := by rw [HP.out]; exact ovB_full HN.out HM.out
          rw [e1]
          exact ret_of (by rw [← e2]; rfl)
end Go.Proofs.Ytnpgikjahfhaoaa
