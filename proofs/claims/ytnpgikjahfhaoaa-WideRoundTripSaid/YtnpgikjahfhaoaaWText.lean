/-
  The program's Text.
-/
import Derived.Test.YtnpgikjahfhaoaaWOps1
import Derived.Test.YtnpgikjahfhaoaaWDivide
import Derived.Test.YtnpgikjahfhaoaaWDig
import Derived.Laws.IdiomStrings
namespace Go.Proofs.Ytnpgikjahfhaoaa
open Go.RowKit Go.Proofs.WM Go.Proofs.WD

theorem ret_str {a b : ByteArray} (h : a = b) : Ending.returned (.string a) = .returned (.string b) := by rw [h]
/-- The block of digits: zeros, then the last k digits. -/
def rowT (m k : Nat) : Array Value := (List.replicate (78 - k) (Value.int .u8 0) ++ (lowD m k).map (fun b => Value.int .u8 (b.toNat : Int))).toArray
theorem rowT_at (m k : Nat) (hk : k < 78) : (rowT m k)[78 - k - 1]? = some (.int .u8 0) := by
  unfold rowT
  rw [List.getElem?_toArray, List.getElem?_append_left (by simp; omega), List.getElem?_replicate]
  rw [if_pos (by omega)]
theorem rowT_set (m k d : Nat) (hk : k < 78) (hd : m / 10 ^ k % 10 = d) : (rowT m k).setIfInBounds (78 - k - 1) (.int .u8 (48 + (d : Int))) = rowT m (k + 1) := by
  unfold rowT
  have e : 78 - k = (78 - (k + 1)) + 1 := by omega
  have e2 : 78 - k - 1 = 78 - (k + 1) := by omega
  rw [e2, List.setIfInBounds_toArray]
  congr 1
  rw [e, List.replicate_succ', List.append_assoc, List.set_append_right _ _ (by simp)]
  simp only [List.length_replicate, Nat.sub_self]
  show List.replicate (78 - (k + 1)) (Value.int .u8 0) ++ (([Value.int .u8 0] ++ (lowD m k).map (fun b => Value.int .u8 (b.toNat : Int))).set 0 _) =
    List.replicate (78 - (k + 1)) (Value.int .u8 0) ++ (Value.int .u8 ((UInt8.ofNat (48 + m / 10 ^ k % 10)).toNat : Int) :: (lowD m k).map (fun b => Value.int .u8 (b.toNat : Int)))
  simp only [List.singleton_append, List.set_cons_zero]
  congr 2
  have h : (48 + (d : Int)) = ((UInt8.ofNat (48 + m / 10 ^ k % 10)).toNat : Int) := by
    rw [UInt8.toNat_ofNat', hd]
    have : d < 10 := by omega
    omega
  rw [h]
theorem rowT_digit (m k j : Nat) (_hk : k ≤ 78) (hj : j < k) : (rowT m k)[78 - k + j]? = some (.int .u8 (((lowD m k)[j]'(by rw [lowD_length]; exact hj)).toNat : Int)) := by
  unfold rowT
  rw [List.getElem?_toArray, List.getElem?_append_right (by simp)]
  simp [lowD_length, hj]

theorem under78 : Try.prog.underlying 68 = some (.array (Try.prog.arrayLen 68) (Try.prog.elem 68)) := by kernel_rfl
theorem len78 : Try.prog.arrayLen 68 = 78 := by kernel_rfl
theorem size78 (w : World) : (sizeOf (Try.prog.elem 68)).run Try.prog w = .ok 1 w := by kernel_rfl
theorem slice_lo (w : World) (g k : Nat) (hk : k < 78) :
    (Instr.sliceAt 68 (.pointer (some ⟨g, 0, none⟩)) (some (.int .i64 (78 - (k : Int) - 1))) none none).run Try.prog w = .ok (.slice (some ⟨g, 78 - k - 1, none⟩) (k + 1) (k + 1)) w := by
  rw [run_sliceAt_array_l w _ _ under78 .i64 _ (by omega) (by rw [len78]; omega), size78]
  have e : (78 - (k : Int) - 1).toNat = 78 - k - 1 := by omega
  simp only [Result.andThen, slicedAt, len78, e, Nat.mul_one]
  rw [if_neg (by omega), Go.WideShapes.add_plain]
  have e1 : 78 - (78 - k - 1) = k + 1 := by omega
  rw [e1, Nat.zero_add]
theorem conv_digits (w : World) (g M k : Nat) (hk : k < 78) (hb : Blk w g 68 (rowT M (k + 1))) :
    (convert 73 9 (.slice (some ⟨g, 78 - k - 1, none⟩) (k + 1) (k + 1))).run Try.prog w = .ok (.string ⟨(lowD M (k + 1)).toArray⟩) w := by
  have h := run_convert_bytes_back (P := Try.prog) w 73 9 5 ⟨g, 78 - k - 1, none⟩ (k + 1) (lowD M (k + 1)) Try.underlying73 Try.underlying5 Try.underlying9 (fun j hj => by
    rw [lowD_length] at hj
    rw [Go.WideShapes.add_plain, hb.cell]
    have := rowT_digit M (k + 1) j (by omega) hj
    rw [show 78 - k - 1 + j = 78 - (k + 1) + j by omega]
    exact this)
  rw [lowD_length] at h
  exact h
theorem digs_ne (n : Nat) (hn : n < M256) (h : n ≠ 0) : ¬ digs n = [48] := by
  obtain ⟨c, t, hd, hc, _⟩ := digs_head n (by omega) hn
  intro e
  rw [e] at hd
  injection hd with h1 h2
  rw [← h1] at hc
  exact absurd hc (by decide)

set_option maxHeartbeats 1000000 in
theorem ptext_any (s : Bool) (n : Nat) (w : World) (hn : n < M256) :
    Calls Try.prog 36 #[.agg (widL s n)] w fun e w' => e = .returned (.string (txtB s n)) ∧ Below w.heap.size w w' := by
  have HN := Lib.hid hn
  clear hn
  go_enter Try.func36, Try.ntmps36
  go_wp2_with fail
  have kA : Hid (Blk ((w.alloc (.cells (widL s n) 25)).alloc (.cells Try.zeroCells68 68)) w.heap.size 25 (widL s n)) := (Blk.new _ _ _).old _
  have kT : Hid (Blk ((w.alloc (.cells (widL s n) 25)).alloc (.cells Try.zeroCells68 68)) (w.heap.size + 1) 68 (rowT n 0)) := Blk.newAt (by simp) _ _
  have kW : Below w.heap.size w ((w.alloc (.cells (widL s n) 25)).alloc (.cells Try.zeroCells68 68)) := below2 w _ _
  generalize World.alloc _ _ = w1 at kA kT kW ⊢
  refine (psplit_any n _).mono ?_
  rintro e w2 ⟨rfl, hb⟩
  have kA := Lib.hid (kA.out.below hb)
  have kT := Lib.hid (kT.out.below hb)
  have kW := kW.trans (hb.mono kW.size)
  clear hb
  have lA := kA.out.lt
  have lT := kT.out.lt
  go_wp2_with (refine wpList_store_row rfl 69 (.tmp 5) (.tmp 9) rfl w2.heap.size (halL n) rfl rfl 69 _ (Blk.new _ _ _) info_hal rfl (rowF_ones 8 (hw n)) ?_)
  have kH : Hid (Blk ((w2.alloc (.cells hal0 69)).setRow w2.heap.size (halL n)) w2.heap.size 69 (halL n)) := (Blk.new _ _ _ : Blk (w2.alloc (.cells hal0 69)) w2.heap.size 69 hal0).row _
  have kA := Lib.hid ((kA.out.old (.cells hal0 69)).rowOther (k := w2.heap.size) (by omega) (halL n))
  have kT := Lib.hid ((kT.out.old (.cells hal0 69)).rowOther (k := w2.heap.size) (by omega) (halL n))
  have kW := below_row (kW.alloc kW.size (.cells hal0 69)) (g := w2.heap.size) kW.size (halL n)
  obtain ⟨gh, hgh⟩ : ∃ gh, gh = w2.heap.size := ⟨_, rfl⟩
  rw [← hgh] at kA kT kH kW lA lT ⊢
  clear hgh
  generalize World.setRow _ _ _ = w3 at kA kT kH kW ⊢
  have gw : w.heap.size ≤ gh := by omega
  have n1 : w.heap.size ≠ gh := by omega
  have n2 : w.heap.size + 1 ≠ gh := by omega
  clear lA lT
  go_loopw [4, 10] (fun a i wr => ∃ k : Nat, k ≤ 77 ∧ i = .int .i64 k ∧ a = .int .i64 (78 - k : Int) ∧ Hid (Blk wr (w.heap.size + 1) 68 (rowT n k)) ∧ Hid (Blk wr gh 69 (halL (n / 10 ^ k))) ∧ Hid (Blk wr w.heap.size 25 (widL s n)) ∧ Hid (k = 0 ∨ n / 10 ^ k ≠ 0) ∧ Below w.heap.size w wr) (fun _ i _ => 78 - (intOf i).toNat)
  case atStart => exact ⟨0, by omega, rfl, by simp, kT.out, by rw [Nat.pow_zero, Nat.div_one]; exact kH.out, kA.out, .inl rfl, kW⟩
  case round =>
    clear kA kT kH kW
    obtain ⟨k, hk, rfl, rfl, kT, kH, kA, hz, kW⟩ := hrel
    have hlt : k < 78 := by omega
    have HLT := Lib.hid hlt
    generalize hq : n / 10 ^ k = q at *
    have hqb : q < M256 := by rw [← hq]; exact Nat.lt_of_le_of_lt (Nat.div_le_self _ _) HN.out
    have HQB := Lib.hid hqb
    have HQ := Lib.hid hq
    clear hq hqb
    go_wp2_with (refine wpList_load_row rfl 69 (.tmp 5) rfl gh rfl 69 _ (0, 0) _ kH.out under_hal rfl info_hal ?_)
    refine (pshort_any q 10 _ HQB.out (by decide) (by decide)).mono ?_
    rintro e w4 ⟨rfl, hb⟩
    have kA := Lib.hid (kA.out.below hb)
    have kT := Lib.hid (kT.out.below hb)
    have kH := Lib.hid (kH.out.below hb)
    have kW := kW.trans (hb.mono kW.size)
    clear hb
    rw [rsN_zero]
    generalize hd : q % 10 = d
    have hd10 : d < 10 := by omega
    have HD := Lib.hid hd
    clear hd
    have kA5 : Hid (Blk (w4.setRow gh (halL (q / 10))) w.heap.size 25 (widL s n)) := kA.out.rowOther n1 _
    have kT5 : Hid (Blk (w4.setRow gh (halL (q / 10))) (w.heap.size + 1) 68 (rowT n k)) := kT.out.rowOther n2 _
    have kH5 : Hid (Blk (w4.setRow gh (halL (q / 10))) gh 69 (halL (q / 10))) := kH.out.row _
    have hcell : (w4.setRow gh (halL (q / 10))).cell? ⟨w.heap.size + 1, 78 - k - 1, none⟩ = some (.int .u8 0) := by rw [kT5.out.cell]; exact rowT_at n k hlt
    have hfr : (w4.setRow gh (halL (q / 10))).frozen? ⟨w.heap.size + 1, 78 - k - 1, none⟩ = false := kT5.out.frozen _
    have kA6 : Hid (Blk ((w4.setRow gh (halL (q / 10))).setCell ⟨w.heap.size + 1, 78 - k - 1, none⟩ (.int .u8 (48 + (d : Int)))) w.heap.size 25 (widL s n)) := kA5.out.other (p := ⟨w.heap.size + 1, 78 - k - 1, none⟩) (by simp) _
    have kT6 : Hid (Blk ((w4.setRow gh (halL (q / 10))).setCell ⟨w.heap.size + 1, 78 - k - 1, none⟩ (.int .u8 (48 + (d : Int)))) (w.heap.size + 1) 68 (rowT n (k + 1))) := by
      have := kT5.out.set_ (78 - k - 1) (.int .u8 (48 + (d : Int)))
      rw [rowT_set n k d hlt (by rw [HQ.out, HD.out])] at this
      exact this
    have kH6 : Hid (Blk ((w4.setRow gh (halL (q / 10))).setCell ⟨w.heap.size + 1, 78 - k - 1, none⟩ (.int .u8 (48 + (d : Int)))) gh 69 (halL (q / 10))) := kH5.out.other (p := ⟨w.heap.size + 1, 78 - k - 1, none⟩) (fun e => n2 e.symm) _
    have kW6 := (below_row kW (g := gh) gw (halL (q / 10))).setCell (p := ⟨w.heap.size + 1, 78 - k - 1, none⟩) (Nat.le_succ _) (.int .u8 (48 + (d : Int)))
    have c0 := (wide_cells kA5.out).1
    clear kA5 kT5 kH5 kA kT kW
    have eH := fun wx => eq_hal0 (q / 10) (Nat.lt_of_le_of_lt (Nat.div_le_self q 10) HQB.out) wx
    by_cases hq0 : q / 10 = 0
    · rw [hq0] at kH6 kT6 kA6 kW6 hcell hfr c0 eH ⊢
      rw [show ((0 : Nat) == 0) = true from rfl] at eH
      unfold halL hal0 at eH
      have hsl := fun wx => slice_lo wx (w.heap.size + 1) k hlt
      have hcv := conv_digits _ (w.heap.size + 1) n k hlt kT6.out
      have hL : IsLen n (k + 1) := by
        refine ⟨by omega, ?_, ?_⟩
        · rw [Nat.pow_succ, ← Nat.div_div_eq_div_mul, HQ.out]; exact hq0
        · rcases hz.out with z | z
          · left; omega
          · right; rw [Nat.add_sub_cancel, HQ.out]; exact z
      have HDG := Lib.hid (digs_of n (k + 1) HN.out hL)
      have hlen : (lowD n (k + 1)).length ≤ 78 := by rw [lowD_length]; omega
      clear hq0 hL
      cases s
      · have E := Lib.hid (show (⟨(lowD n (k + 1)).toArray⟩ : ByteArray) = txtB false n by unfold txtB txtL; rw [sg_false, if_neg (by decide), HDG.out])
        go_wp2_with (first | (refine wpList_store_row rfl 69 (.tmp 5) (.tmp 17) rfl gh (halL 0) rfl rfl 69 _ kH.out info_hal rfl (rowF_ones 8 (hw 0)) ?_) | (refine wpList_load_row rfl 69 (.tmp 5) rfl gh rfl 69 _ (0, 0) _ kH6.out under_hal rfl info_hal ?_))
        go_ret
        exact ⟨ret_str E.out, kW6⟩
      · by_cases hn0 : n = 0
        · have hs0 : (lowD n (k + 1) == [48]) = true := by rw [← HDG.out, hn0]; decide
          have hs1 : (lowD n (k + 1) != [48]) = false := by rw [bne, hs0]; rfl
          have E := Lib.hid (show (⟨(lowD n (k + 1)).toArray⟩ : ByteArray) = txtB true n by unfold txtB txtL; rw [hn0, sg_zero, if_neg (by decide), ← hn0, HDG.out])
          clear hn0
          go_wp2_with (first | (refine wpList_store_row rfl 69 (.tmp 5) (.tmp 17) rfl gh (halL 0) rfl rfl 69 _ kH.out info_hal rfl (rowF_ones 8 (hw 0)) ?_) | (refine wpList_load_row rfl 69 (.tmp 5) rfl gh rfl 69 _ (0, 0) _ kH6.out under_hal rfl info_hal ?_))
          go_ret
          exact ⟨ret_str E.out, kW6⟩
        · have hne := digs_ne n HN.out hn0
          have hs0 : (lowD n (k + 1) == [48]) = false := by rw [← HDG.out]; simpa using hne
          have hs1 : (lowD n (k + 1) != [48]) = true := by rw [bne, hs0]; rfl
          have E := Lib.hid (show (⟨#[45]⟩ ++ ⟨(lowD n (k + 1)).toArray⟩ : ByteArray) = txtB true n by
            unfold txtB txtL
            rw [sg_pos _ hn0, if_pos rfl, HDG.out]
            apply ByteArray.ext
            simp)
          clear hne hn0
          go_wp2_with (first | (refine wpList_store_row rfl 69 (.tmp 5) (.tmp 17) rfl gh (halL 0) rfl rfl 69 _ kH.out info_hal rfl (rowF_ones 8 (hw 0)) ?_) | (refine wpList_load_row rfl 69 (.tmp 5) rfl gh rfl 69 _ (0, 0) _ kH6.out under_hal rfl info_hal ?_))
          go_ret
          exact ⟨ret_str E.out, kW6⟩
    · have hqn := Lib.hid hq0
      rw [show (q / 10 == 0) = false by simpa using hq0] at eH
      unfold halL hal0 at eH
      clear hq0
      go_wp2_with (first | (refine wpList_store_row rfl 69 (.tmp 5) (.tmp 17) rfl gh (halL (q / 10)) rfl rfl 69 _ kH.out info_hal rfl (rowF_ones 8 (hw (q / 10))) ?_) | (refine wpList_load_row rfl 69 (.tmp 5) rfl gh rfl 69 _ (0, 0) _ kH6.out under_hal rfl info_hal ?_))
      have hk1 : k ≤ 76 := by
        rcases Nat.lt_or_ge k 77 with x | x
        · omega
        · obtain rfl : k = 77 := by omega
          have := hqn.out
          rw [← HQ.out, Nat.div_div_eq_div_mul] at this
          exact absurd (Nat.div_eq_of_lt (Nat.lt_of_lt_of_le HN.out pow78)) this
      refine ⟨⟨k + 1, by omega, by go_num, val_i64 (by omega), kT6.out, ?_, kA6.out, .inr ?_, kW6⟩, by simp [intOf]; omega⟩
      · rw [Nat.pow_succ, ← Nat.div_div_eq_div_mul, HQ.out]; exact kH6.out
      · rw [Nat.pow_succ, ← Nat.div_div_eq_div_mul, HQ.out]; exact hqn.out
end Go.Proofs.Ytnpgikjahfhaoaa
