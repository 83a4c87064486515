/-
  Contract of Text (num).
-/
import Derived.Test.YthipgmdjjmgppaaTextM
import Derived.Laws.IdiomStrings
namespace Go.Proofs.Ythipgmdjjmgppaa
open Go.RowKit

theorem ret_str {a b : ByteArray} (h : a = b) : Ending.returned (.string a) = .returned (.string b) := by rw [h]
/-- The block of digits: zeros, then the last k digits. -/
def rowT (m k : Nat) : Array Value := (List.replicate (19 - k) (Value.int .u8 0) ++ (lowD m k).map (fun b => Value.int .u8 (b.toNat : Int))).toArray
def Blk (w : World) (g : Nat) (t : TypeId) (cs : Array Value) : Prop := w.heap[g]? = some (.cells cs t (0, 0))
theorem Blk.cell {w : World} {g : Nat} {t : TypeId} {cs : Array Value} (h : Blk w g t cs) (i : Nat) : w.cell? ⟨g, i, none⟩ = cs[i]? := cell_of_row w g i cs t (0, 0) h
theorem Blk.frozen {w : World} {g : Nat} {t : TypeId} {cs : Array Value} (h : Blk w g t cs) (i : Nat) : w.frozen? ⟨g, i, none⟩ = false := by
  unfold Blk at h
  simp [World.frozen?, h]
theorem Blk.new (w : World) (t : TypeId) (cs : Array Value) : Blk (w.alloc (.cells cs t)) w.heap.size t cs := heap_alloc_new w _
theorem Blk.set_ {w : World} {g : Nat} {t : TypeId} {cs : Array Value} (h : Blk w g t cs) (i : Nat) (u : Value) : Blk (w.setCell ⟨g, i, none⟩ u) g t (cs.setIfInBounds i u) := by
  unfold Blk at h ⊢
  simp [World.setCell, Array.getElem?_modify, h]

theorem rowT_zero (m : Nat) : rowT m 0 = #[Value.int IntKind.u8 0, Value.int IntKind.u8 0, Value.int IntKind.u8 0, Value.int IntKind.u8 0, Value.int IntKind.u8 0, Value.int IntKind.u8 0, Value.int IntKind.u8 0, Value.int IntKind.u8 0, Value.int IntKind.u8 0, Value.int IntKind.u8 0, Value.int IntKind.u8 0, Value.int IntKind.u8 0, Value.int IntKind.u8 0, Value.int IntKind.u8 0, Value.int IntKind.u8 0, Value.int IntKind.u8 0, Value.int IntKind.u8 0, Value.int IntKind.u8 0, Value.int IntKind.u8 0] := rfl
theorem rowT_at (m k : Nat) (hk : k < 19) : (rowT m k)[19 - k - 1]? = some (.int .u8 0) := by
  unfold rowT
  rw [List.getElem?_toArray, List.getElem?_append_left (by simp; omega), List.getElem?_replicate]
  rw [if_pos (by omega)]
theorem rowT_set (m k : Nat) (hk : k < 19) : (rowT m k).setIfInBounds (19 - k - 1) (.int .u8 (48 + ((m / 10 ^ k : Nat) : Int) % 10)) = rowT m (k + 1) := by
  unfold rowT
  have e : 19 - k = (19 - (k + 1)) + 1 := by omega
  have e2 : 19 - k - 1 = 19 - (k + 1) := by omega
  rw [e2, List.setIfInBounds_toArray]
  congr 1
  rw [e, List.replicate_succ', List.append_assoc, List.set_append_right _ _ (by simp)]
  simp only [List.length_replicate, Nat.sub_self]
  show List.replicate (19 - (k + 1)) (Value.int .u8 0) ++ (([Value.int .u8 0] ++ (lowD m k).map (fun b => Value.int .u8 (b.toNat : Int))).set 0 _) =
    List.replicate (19 - (k + 1)) (Value.int .u8 0) ++ (Value.int .u8 ((UInt8.ofNat (48 + m / 10 ^ k % 10)).toNat : Int) :: (lowD m k).map (fun b => Value.int .u8 (b.toNat : Int)))
  simp only [List.singleton_append, List.set_cons_zero]
  congr 2
  refine val_int ?_
  rw [UInt8.toNat_ofNat']
  omega
theorem rowT_digit (m k j : Nat) (_hk : k ≤ 19) (hj : j < k) : (rowT m k)[19 - k + j]? = some (.int .u8 (((lowD m k)[j]'(by rw [lowD_length]; exact hj)).toNat : Int)) := by
  unfold rowT
  rw [List.getElem?_toArray, List.getElem?_append_right (by simp)]
  simp [lowD_length, hj]

theorem under49 : Try.prog.underlying 49 = some (.array (Try.prog.arrayLen 49) (Try.prog.elem 49)) := by kernel_rfl
theorem len49 : Try.prog.arrayLen 49 = 19 := by kernel_rfl
theorem size49 (w : World) : (sizeOf (Try.prog.elem 49)).run Try.prog w = .ok 1 w := by kernel_rfl
theorem slice_lo (w : World) (g k : Nat) (hk : k < 19) :
    (Instr.sliceAt 49 (.pointer (some ⟨g, 0, none⟩)) (some (.int .i64 (19 - (k : Int) - 1))) none none).run Try.prog w = .ok (.slice (some ⟨g, 19 - k - 1, none⟩) (k + 1) (k + 1)) w := by
  rw [run_sliceAt_array_l w _ _ under49 .i64 _ (by omega) (by rw [len49]; omega), size49]
  have e : (19 - (k : Int) - 1).toNat = 19 - k - 1 := by omega
  simp only [Result.andThen, slicedAt, len49, e, Nat.mul_one]
  rw [if_neg (by omega), Go.WideShapes.add_plain]
  have e1 : 19 - (19 - k - 1) = k + 1 := by omega
  rw [e1, Nat.zero_add]
theorem conv_digits (w : World) (g M k : Nat) (hk : k < 19) (hb : Blk w g 49 (rowT M (k + 1))) :
    (convert 50 9 (.slice (some ⟨g, 19 - k - 1, none⟩) (k + 1) (k + 1))).run Try.prog w = .ok (.string ⟨(lowD M (k + 1)).toArray⟩) w := by
  have h := run_convert_bytes_back (P := Try.prog) w 50 9 5 ⟨g, 19 - k - 1, none⟩ (k + 1) (lowD M (k + 1)) Try.underlying50 Try.underlying5 Try.underlying9 (fun j hj => by
    rw [lowD_length] at hj
    rw [Go.WideShapes.add_plain, hb.cell]
    have := rowT_digit M (k + 1) j (by omega) hj
    rw [show 19 - k - 1 + j = 19 - (k + 1) + j by omega]
    exact this)
  rw [lowD_length] at h
  exact h

set_option maxHeartbeats 400000 in
theorem text_any (n : Int) (w : World) (h0 : -9223372036854775808 ≤ n) (h2 : n ≤ 9223372036854775807) :
    Calls Try.prog 26 #[.int .i64 n] w fun e w' => e = .returned (.string (textB n)) ∧ Below w.heap.size w w' := by
  obtain ⟨M, hM⟩ : ∃ M, n.natAbs = M := ⟨_, rfl⟩
  have HM := Lib.hid hM
  have hmm : M ≤ 9223372036854775808 := by omega
  clear hM
  go_enter Try.func26, Try.ntmps26
  go_wp2_with (go_at_call 31; refine (magnitude_any _ _ (by assumption) (by assumption)).mono ?_; rintro e w' ⟨rfl, rfl⟩)
  rw [HM.out]
  go_loopw [4, 5, 8] (fun a r i wr => ∃ k : Nat, k ≤ 18 ∧ i = .int .i64 k ∧ a = .int .i64 (19 - k : Int) ∧ r = .int .u64 ((M / 10 ^ k : Nat) : Int) ∧ Hid (Blk wr w.heap.size 49 (rowT M k)) ∧ Hid (k = 0 ∨ M / 10 ^ k ≠ 0) ∧ Below w.heap.size w wr) (fun _ _ i _ => 19 - (intOf i).toNat)
  case atStart => exact ⟨0, by omega, rfl, by simp, by simp, Blk.new _ _ _, .inl rfl, (Below.refl _ _).alloc (Nat.le_refl _) _⟩
  case round =>
    obtain ⟨k, hk, rfl, rfl, rfl, hb, hz, hB⟩ := hrel
    have hlt : k < 19 := by omega
    have hcell : wr.cell? ⟨w.heap.size, 19 - k - 1, none⟩ = some (.int .u8 0) := by rw [hb.out.cell]; exact rowT_at M k hlt
    have hfr : wr.frozen? ⟨w.heap.size, 19 - k - 1, none⟩ = false := hb.out.frozen _
    generalize hq : M / 10 ^ k = q
    have hqb : q ≤ 9223372036854775808 := by rw [← hq]; exact Nat.le_trans (Nat.div_le_self _ _) hmm
    have HQ := Lib.hid hq
    clear hq
    by_cases hq0 : q / 10 = 0
    · have hq1 : (((q : Int) / 10) == 0) = true := by simp; omega
      have HB := hb.out.set_ (19 - k - 1) (.int .u8 (48 + (q : Int) % 10))
      rw [← HQ.out, rowT_set M k hlt, HQ.out] at HB
      have hsl := fun wx => slice_lo wx w.heap.size k hlt
      have hcv := conv_digits _ w.heap.size M k hlt HB
      have hL : IsLen M (k + 1) := by
        refine ⟨by omega, ?_, ?_⟩
        · rw [Nat.pow_succ, ← Nat.div_div_eq_div_mul, HQ.out]; exact hq0
        · rcases hz.out with z | z
          · left; omega
          · right; exact z
      have HD := Lib.hid (digs_of M (k + 1) hmm hL)
      have hlen : (lowD M (k + 1)).length ≤ 19 := by rw [lowD_length]; omega
      clear hq0 HB hL
      by_cases hn : n < 0
      · have E := Lib.hid (show (⟨#[45]⟩ ++ ⟨(lowD M (k + 1)).toArray⟩ : ByteArray) = textB n by
          unfold textB textL
          rw [if_pos hn, HM.out, HD.out]
          apply ByteArray.ext
          simp)
        go_wp2
        go_ret
        exact ⟨ret_str E.out, hB.setCell (Nat.le_refl _) _⟩
      · have E := Lib.hid (show (⟨(lowD M (k + 1)).toArray⟩ : ByteArray) = textB n by
          unfold textB textL
          rw [if_neg hn, HM.out, HD.out])
        go_wp2
        go_ret
        exact ⟨ret_str E.out, hB.setCell (Nat.le_refl _) _⟩
    · have hq1 : (((q : Int) / 10) == 0) = false := by simp; omega
      have HQ0 := Lib.hid hq0
      clear hq0
      go_wp2
      have HB := hb.out.set_ (19 - k - 1) (.int .u8 (48 + (q : Int) % 10))
      rw [← HQ.out, rowT_set M k hlt, HQ.out] at HB
      have hk1 : k ≤ 17 := by
        rcases Nat.lt_or_ge k 18 with x | x
        · omega
        · obtain rfl : k = 18 := by omega
          have := HQ0.out
          rw [← HQ.out, Nat.div_div_eq_div_mul] at this
          exact absurd (Nat.div_eq_of_lt (Nat.lt_of_le_of_lt hmm (by decide))) this
      refine ⟨⟨k + 1, by omega, by go_num, val_int (by omega), val_int ?_, HB, .inr ?_, hB.setCell (Nat.le_refl _) _⟩, by simp [intOf]; omega⟩
      · rw [Nat.pow_succ, ← Nat.div_div_eq_div_mul, HQ.out]; omega
      · rw [Nat.pow_succ, ← Nat.div_div_eq_div_mul, HQ.out]; exact HQ0.out
end Go.Proofs.Ythipgmdjjmgppaa
