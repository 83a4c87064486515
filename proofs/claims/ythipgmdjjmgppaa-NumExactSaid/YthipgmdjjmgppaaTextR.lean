/-
  Contract of Text (reference).
-/
import Derived.Test.YthipgmdjjmgppaaTextN
namespace Go.Proofs.Ythipgmdjjmgppaa
open Go.RowKit

def strB (m k : Nat) : ByteArray := ⟨(lowD m k).toArray⟩
def RTInv (M : Nat) (s m : Value) : Prop := ∃ k : Nat, k ≤ 19 ∧ s = .string (strB M k) ∧ m = .int .u64 ((M / 10 ^ k : Nat) : Int) ∧ (k ≤ 1 ∨ M / 10 ^ (k - 1) ≠ 0)

theorem conv_one (w : World) (q : Nat) :
    (convert 50 9 (.slice (some ⟨w.heap.size, 0, none⟩) 1 1)).run Try.prog (w.alloc (.cells #[.int .u8 (48 + (q : Int) % 10)] 5)) = .ok (.string ⟨#[UInt8.ofNat (48 + q % 10)]⟩) (w.alloc (.cells #[.int .u8 (48 + (q : Int) % 10)] 5)) := by
  exact run_convert_bytes_back (P := Try.prog) _ 50 9 5 ⟨w.heap.size, 0, none⟩ 1 [UInt8.ofNat (48 + q % 10)] Try.underlying50 Try.underlying5 Try.underlying9 (fun j hj => by
    have : j = 0 := by simpa using hj
    subst this
    rw [Go.WideShapes.add_plain, (Blk.new w 5 _).cell]
    simp only [Nat.zero_add, List.getElem_cons_zero]
    show some _ = some _
    congr 1
    refine val_int ?_
    rw [UInt8.toNat_ofNat']
    omega)
theorem strB_size (m k : Nat) : (strB m k).size = k := by
  show (lowD m k).toArray.size = k
  simp [lowD_length]
theorem strB_list (m k : Nat) : (strB m k).data.toList = lowD m k := by simp [strB]
theorem strB_succ (M k q : Nat) (h : M / 10 ^ k = q) : (⟨#[UInt8.ofNat (48 + q % 10)]⟩ ++ strB M k : ByteArray) = strB M (k + 1) := by
  subst h
  apply ByteArray.ext
  unfold strB
  simp [lowD]
theorem div19 (M k : Nat) (hm : M ≤ 9223372036854775808) (h : 0 < M / 10 ^ k) : k ≤ 18 := by
  rcases Nat.lt_or_ge k 19 with x | x
  · omega
  · have h1 : 10 ^ 19 ≤ 10 ^ k := Nat.pow_le_pow_right (by decide) x
    have := Nat.div_eq_of_lt (Nat.lt_of_lt_of_le (Nat.lt_of_le_of_lt hm (by decide)) h1)
    omega

set_option maxHeartbeats 400000 in
theorem refText_any (n : Int) (w : World) (h0 : -9223372036854775808 ≤ n) (h2 : n ≤ 9223372036854775807) :
    Calls Try.prog 28 #[.int .i64 n] w fun e w' => e = .returned (.string (textB n)) ∧ Below w.heap.size w w' := by
  obtain ⟨M, hM⟩ : ∃ M, n.natAbs = M := ⟨_, rfl⟩
  have HM := Lib.hid hM
  have hmm : M ≤ 9223372036854775808 := by omega
  clear hM
  go_enter Try.func28, Try.ntmps28
  go_wp2_with (go_at_call 37; refine (mag_any _ _ (by assumption) (by assumption)).mono ?_; rintro e w' ⟨rfl, rfl⟩)
  rw [HM.out]
  go_loopw [3, 4] (fun s m wr => RTInv M s m ∧ Below w.heap.size w wr) (fun s m _ => (match s with | .string b => 19 - b.size | _ => 0))
  case atStart => exact ⟨⟨0, by omega, rfl, by simp, .inl (by omega)⟩, Below.refl _ _⟩
  case round =>
    obtain ⟨⟨k, hk, rfl, rfl, hz⟩, hB⟩ := hrel
    generalize hq : M / 10 ^ k = q
    have hqb : q ≤ 9223372036854775808 := by rw [← hq]; exact Nat.le_trans (Nat.div_le_self _ _) hmm
    have HQ := Lib.hid hq
    have HZ := Lib.hid hz
    have hcv := conv_one wr q
    have hS := strB_size M k
    have hlen : (strB M k).size ≤ 19 := by omega
    have HS := Lib.hid hS
    have hcat := Lib.hid (strB_succ M k q hq)
    have hw : w.heap.size ≤ wr.heap.size := hB.size
    clear hS
    by_cases hgo : 0 < q ∨ k = 0
    · have hk18 : k ≤ 18 := by
        rcases hgo with h | h
        · exact div19 M k hmm (by rw [hq]; exact h)
        · omega
      have hx : 0 < q ∨ (q = 0 ∧ (strB M k).toList = []) := by
        rcases hgo with h | h
        · exact .inl h
        · rcases Nat.eq_zero_or_pos q with h' | h'
          · exact .inr ⟨h', by subst h; rw [Lib.toList_data, strB_list]; rfl⟩
          · exact .inl h'
      have hnz := Lib.hid (show k + 1 ≤ 1 ∨ M / 10 ^ (k + 1 - 1) ≠ 0 by
        rw [Nat.add_sub_cancel, hq]
        rcases hgo with h | h
        · right; omega
        · left; omega)
      clear hq hz hgo
      rcases hx with hx | ⟨hx, hx'⟩
      · go_wp2
        go_roundw
        case rel =>
          refine ⟨⟨k + 1, by omega, ?_, val_int ?_, hnz.out⟩, (hB.alloc hw _)⟩
          · rw [← hcat.out, UInt8.ofNat_add]; rfl
          · rw [Nat.pow_succ, ← Nat.div_div_eq_div_mul, HQ.out]; omega
        case measure =>
          show 19 - (_ ++ strB M k : ByteArray).size < 19 - (strB M k).size
          rw [ByteArray.size_append, HS.out]
          show 19 - (1 + k) < 19 - k
          omega
      · subst hx
        have hcv0 : (convert 50 9 (.slice (some ⟨wr.heap.size, 0, none⟩) 1 1)).run Try.prog (wr.alloc (.cells #[.int .u8 48] 5)) = .ok (.string ⟨#[48]⟩) (wr.alloc (.cells #[.int .u8 48] 5)) := conv_one wr 0
        have hcat0 : Hid (⟨#[48]⟩ ++ strB M k = strB M (k + 1)) := hcat
        clear hcv
        go_wp2
        go_roundw
        case rel =>
          refine ⟨⟨k + 1, by omega, ?_, val_int ?_, hnz.out⟩, (hB.alloc hw _)⟩
          · rw [← hcat0.out]
          · rw [Nat.pow_succ, ← Nat.div_div_eq_div_mul, HQ.out]; omega
        case measure =>
          show 19 - (_ ++ strB M k : ByteArray).size < 19 - (strB M k).size
          rw [ByteArray.size_append, HS.out]
          show 19 - (1 + k) < 19 - k
          omega
    · have hk1 : 1 ≤ k := by omega
      obtain rfl : q = 0 := by omega
      have hL : IsLen M k := ⟨hk1, hq, by rcases hz with z | z; exact .inl (by omega); exact .inr z⟩
      have HD := Lib.hid (digs_of M k hmm hL)
      have hn := ne_nil_of (strB M k) (by rw [HS.out]; omega)
      have hne : (strB M k).toList.isEmpty = false := by simpa using hn
      clear hq hz hgo hL hcv
      by_cases hneg : n < 0
      · have E := Lib.hid (show (⟨#[45]⟩ ++ strB M k : ByteArray) = textB n by
          unfold textB textL strB
          rw [if_pos hneg, HM.out, HD.out]
          apply ByteArray.ext
          simp)
        go_wp2
        go_ret
        exact ⟨ret_str E.out, hB⟩
      · have E := Lib.hid (show strB M k = textB n by
          unfold textB textL strB
          rw [if_neg hneg, HM.out, HD.out])
        go_wp2
        go_ret
        exact ⟨ret_str E.out, hB⟩
end Go.Proofs.Ythipgmdjjmgppaa
