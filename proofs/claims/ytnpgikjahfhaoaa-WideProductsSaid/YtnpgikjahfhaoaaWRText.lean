/-
  The reference's Text.
-/
import Derived.Test.YtnpgikjahfhaoaaWRef1
import Derived.Test.YtnpgikjahfhaoaaWSmall
import Derived.Test.YtnpgikjahfhaoaaWText
import Derived.Deep.LoopGhost
namespace Go.Proofs.Ytnpgikjahfhaoaa
open Go.RowKit Go.Proofs.WM Go.Proofs.WD

def strB (m k : Nat) : ByteArray := ⟨(lowD m k).toArray⟩
theorem strB_size (m k : Nat) : (strB m k).size = k := by
  show (lowD m k).toArray.size = k
  simp [lowD_length]
theorem strB_succ (m k d : Nat) (h : m / 10 ^ k % 10 = d) : (⟨#[UInt8.ofNat (48 + d)]⟩ ++ strB m k : ByteArray) = strB m (k + 1) := by
  subst h
  apply ByteArray.ext
  unfold strB
  simp [lowD]
theorem digit_str : ∀ d : Nat, d < 10 → (⟨#[48, 49, 50, 51, 52, 53, 54, 55, 56, 57]⟩ : ByteArray).extract d (d + 1) = ⟨#[UInt8.ofNat (48 + d)]⟩ := by decide
theorem pow_len (n k : Nat) (hn : n < M256) (h : n / 10 ^ k ≠ 0) : k ≤ 77 := by
  rcases Nat.lt_or_ge k 78 with x | x
  · omega
  · have h1 : 10 ^ 78 ≤ 10 ^ k := Nat.pow_le_pow_right (by decide) x
    exact absurd (Nat.div_eq_of_lt (Nat.lt_of_lt_of_le (Nat.lt_of_lt_of_le hn pow78) h1)) h

set_option maxHeartbeats 1000000 in
theorem rtext_any (s : Bool) (n : Nat) (w : World) (hn : n < M256) :
    Calls Try.prog 37 #[.agg (widL s n)] w fun e w' => e = .returned (.string (txtB s n)) ∧ Below w.heap.size w w' := by
  have HN := Lib.hid hn
  clear hn
  go_enter Try.func37, Try.ntmps37
  have kA : Hid (Blk (w.alloc (.cells (widL s n) 25)) w.heap.size 25 (widL s n)) := Blk.new _ _ _
  have kW := below1 w (.cells (widL s n) 25)
  go_wp2_with (refine wpList_load_row rfl 25 (.tmp 1) rfl w.heap.size rfl 25 _ (0, 0) _ kA.out under_wide rfl info_wide ?_)
  refine (rsplit_any s n _).mono ?_
  rintro e w2 ⟨rfl, hb⟩
  have kA := Lib.hid (kA.out.below hb)
  have kW := kW.trans (hb.mono kW.size)
  clear hb
  have lA := kA.out.lt
  have kH : Hid (Blk ((w2.alloc (.cells hal0 48)).setRow w2.heap.size (halL n)) w2.heap.size 48 (halL n)) := (Blk.new _ _ _ : Blk (w2.alloc (.cells hal0 48)) w2.heap.size 48 hal0).row _
  have kA := Lib.hid ((kA.out.old (.cells hal0 48)).rowOther (k := w2.heap.size) (by omega) (halL n))
  have kW := below_row (kW.alloc kW.size (.cells hal0 48)) (g := w2.heap.size) kW.size (halL n)
  go_wp2_with (first | (refine wpList_store_row rfl 48 (.tmp 3) (.tmp 8) rfl w2.heap.size (halL n) rfl rfl 48 _ (Blk.new _ _ _) info_arr8 rfl (rowF_ones 8 (hw n)) ?_) | (refine wpList_load_row rfl 48 (.tmp 3) rfl w2.heap.size rfl 48 _ (0, 0) _ kH.out under_arr8 rfl info_arr8 ?_))
  obtain ⟨gh, hgh⟩ : ∃ gh, gh = w2.heap.size := ⟨_, rfl⟩
  rw [← hgh] at kA kH kW lA ⊢
  clear hgh
  have nA : w.heap.size ≠ gh := by omega
  have gw : w.heap.size ≤ gh := by omega
  clear lA
  generalize World.setRow _ _ _ = w3 at kA kH kW ⊢
  refine (zero_any n _ HN.out).mono ?_
  rintro e w4 ⟨rfl, hb⟩
  have kA := Lib.hid (kA.out.below hb)
  have kH := Lib.hid (kH.out.below hb)
  have kW := kW.trans (hb.mono kW.size)
  clear hb
  by_cases hn0 : n = 0
  · have F := Lib.hid (show (⟨#[48]⟩ : ByteArray) = txtB s n by unfold txtB txtL; rw [hn0, sg_zero]; decide)
    rw [show (n == 0) = true by simpa using hn0]
    clear hn0
    go_wp2_with fail
    go_ret
    exact ⟨ret_str F.out, kW⟩
  have HN0 := Lib.hid hn0
  rw [show (n == 0) = false by simpa using hn0]
  clear hn0
  go_wp2_with fail
  go_loopg [4] n (fun g s4 wr => ∃ k : Nat, g = n / 10 ^ k ∧ s4 = .string (strB n k) ∧ Hid (Blk wr gh 48 (halL g)) ∧ Hid (Blk wr w.heap.size 25 (widL s n)) ∧ Hid (k = 0 ∨ n / 10 ^ (k - 1) ≠ 0) ∧ Below w.heap.size w wr)
  case atStart => exact ⟨0, by simp, rfl, kH.out, kA.out, .inl rfl, kW⟩
  case round =>
    clear kA kH kW
    obtain ⟨k, hg, rfl, kH, kA, hz, kW⟩ := hrel
    have HQ := Lib.hid hg.symm
    clear hg
    generalize gk = q at *
    have hqb : q < M256 := by rw [← HQ.out]; exact Nat.lt_of_le_of_lt (Nat.div_le_self _ _) HN.out
    have HQB := Lib.hid hqb
    clear hqb
    go_wp2_with (refine wpList_load_row rfl 48 (.tmp 3) rfl gh rfl 48 _ (0, 0) _ kH.out under_arr8 rfl info_arr8 ?_)
    refine (zero_any q _ HQB.out).mono ?_
    rintro e w5 ⟨rfl, hb⟩
    have kA := Lib.hid (kA.out.below hb)
    have kH := Lib.hid (kH.out.below hb)
    have kW := kW.trans (hb.mono kW.size)
    clear hb
    by_cases hq0 : q = 0
    · have hk0 : k ≠ 0 := fun h => HN0.out (by have := HQ.out; rw [h, Nat.pow_zero, Nat.div_one, hq0] at this; exact this)
      have hL : IsLen n k := ⟨by omega, by rw [HQ.out]; exact hq0, .inr (by rcases hz.out with z | z; exact absurd z hk0; exact z)⟩
      have HDG := Lib.hid (digs_of n k HN.out hL)
      have hS := strB_size n k
      have hk78 : k ≤ 78 := by
        rcases hz.out with z | z
        · omega
        · have := pow_len n (k - 1) HN.out z; omega
      have hlen : (strB n k).size ≤ 78 := by omega
      have c0 := (wide_cells kA.out).1
      rw [show (q == 0) = true by simpa using hq0]
      clear hq0 hk0 hL hS hk78
      have kWx := kW
      cases s
      · have F := Lib.hid (show strB n k = txtB false n by unfold txtB txtL strB; rw [sg_false, if_neg (by decide), HDG.out])
        go_wp2_with fail
        go_ret
        exact ⟨ret_str F.out, kWx⟩
      · have F := Lib.hid (show (⟨#[45]⟩ ++ strB n k : ByteArray) = txtB true n by
          unfold txtB txtL strB
          rw [sg_pos _ HN0.out, if_pos rfl, HDG.out]
          apply ByteArray.ext
          simp)
        go_wp2_with fail
        go_ret
        exact ⟨ret_str F.out, kWx⟩
    · have HQ0 := Lib.hid hq0
      have hk77 : k ≤ 77 := pow_len n k HN.out (by rw [HQ.out]; exact hq0)
      have hS := strB_size n k
      have hlen : (strB n k).size ≤ 78 := by omega
      rw [show (q == 0) = false by simpa using hq0]
      clear hq0 hS
      go_wp2_with (refine wpList_load_row rfl 48 (.tmp 3) rfl gh rfl 48 _ (0, 0) _ kH.out under_arr8 rfl info_arr8 ?_)
      refine (rsmall_any q 10 _ HQB.out (by decide) (by decide)).mono ?_
      rintro e w6 ⟨rfl, hb⟩
      have kA := Lib.hid (kA.out.below hb)
      have kH := Lib.hid (kH.out.below hb)
      have kW := kW.trans (hb.mono kW.size)
      have lA := kA.out.lt
      have lH := kH.out.lt
      clear hb
      rw [rsN_zero]
      have hcat := strB_succ n k (q % 10) (by rw [HQ.out])
      generalize hd : q % 10 = d at hcat ⊢
      have hd10 : d < 10 := by omega
      rw [← digit_str d hd10] at hcat
      have HC := Lib.hid hcat
      clear hd hcat
      have kQ : Hid (Blk ((w6.alloc (.cells hal0 48)).setRow w6.heap.size (halL (q / 10))) w6.heap.size 48 (halL (q / 10))) := (Blk.new _ _ _ : Blk (w6.alloc (.cells hal0 48)) w6.heap.size 48 hal0).row _
      have kH6 : Hid (Blk ((w6.alloc (.cells hal0 48)).setRow w6.heap.size (halL (q / 10))) gh 48 (halL q)) := (kH.out.old _).rowOther (by omega) _
      have kA6 : Hid (Blk ((w6.alloc (.cells hal0 48)).setRow w6.heap.size (halL (q / 10))) w.heap.size 25 (widL s n)) := (kA.out.old _).rowOther (by omega) _
      have kW6 := below_row (kW.alloc kW.size (.cells hal0 48)) (g := w6.heap.size) kW.size (halL (q / 10))
      go_wp2_with (first | (refine wpList_store_row rfl 48 (.tmp 5) (.tmp 17) rfl w6.heap.size (halL (q / 10)) rfl rfl 48 _ (Blk.new _ _ _) info_arr8 rfl (rowF_ones 8 (hw (q / 10))) ?_) | (refine wpList_load_row rfl 48 (.tmp 5) rfl w6.heap.size rfl 48 _ (0, 0) _ kQ.out under_arr8 rfl info_arr8 ?_) | (refine wpList_store_row rfl 48 (.tmp 3) (.tmp 25) rfl gh (halL (q / 10)) rfl rfl 48 _ kH6.out info_arr8 rfl (rowF_ones 8 (hw (q / 10))) ?_))
      have h0 := HQ0.out
      go_roundg (q / 10)
      case measure => omega
      case rel => exact ⟨k + 1, by rw [Nat.pow_succ, ← Nat.div_div_eq_div_mul, HQ.out], by rw [HC.out], kH6.out.row _, kA6.out.rowOther nA _, .inr (by rw [Nat.add_sub_cancel, HQ.out]; exact h0), below_row kW6 gw _⟩
end Go.Proofs.Ytnpgikjahfhaoaa
