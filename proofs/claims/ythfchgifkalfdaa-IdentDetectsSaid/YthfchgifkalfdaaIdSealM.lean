/-
  Plain mathematics of layer 4: identifiers that are sealed and opened.
-/
import Derived.Test.YthfchgifkalfdaaIdRound
namespace Go.Proofs.Ythfchgifkalfdaa.Id
open Go.RowKit

theorem sealB_data (s : ByteArray) : (sealB s).data.toList = s.data.toList ++ 47 :: ckL (modL s.data.toList) := by
  unfold sealB
  rw [ByteArray.data_append, ByteArray.data_append, Array.toList_append, Array.toList_append]
  show s.data.toList ++ [47] ++ ckL _ = _
  simp
theorem sealB_size (s : ByteArray) : (sealB s).size = s.size + 3 := by
  rw [Lib.size_eq, sealB_data, List.length_append, len_data]; rfl
theorem sealB_id (s : ByteArray) : opId (sealB s) = s := by
  apply ba_ext
  unfold opId
  rw [Lib.extract_data, sealB_size, sealB_data, List.drop_zero]
  rw [show s.size + 3 - 3 - 0 = s.data.toList.length by rw [len_data]; omega, List.take_left]
theorem sealB_dg (s : ByteArray) : opDg (sealB s) = ckS s := by
  apply ba_ext
  unfold opDg
  rw [data_drop, sealB_size, sealB_data, show s.size + 3 - 2 = s.data.toList.length + 1 by rw [len_data]; omega, List.drop_append, List.drop_eq_nil_of_le (by omega)]
  simp; rfl
theorem sealB_bar (s : ByteArray) : opBar (sealB s) = true := by
  unfold opBar
  rw [sealB_size, sealB_data, show s.size + 3 - 3 = s.data.toList.length by rw [len_data]; omega]
  simp [List.getD]
theorem dig_of (n : Nat) (h : n ≤ 9) : digU (UInt8.ofNat (48 + n)) = true := by
  unfold digU digZ
  rw [UInt8.toNat_ofNat_of_lt' (by show 48 + n < 256; omega)]
  simp; omega
theorem ckS_dig (s : ByteArray) : allDig (ckS s) = true := by
  unfold allDig ckS ckL
  have := ckN_bd (modL s.data.toList)
  show List.all [_, _] digU = true
  simp only [List.all_cons, List.all_nil, Bool.and_true, Bool.and_eq_true]
  exact ⟨dig_of _ (by omega), dig_of _ (by omega)⟩
theorem open_seal {s : ByteArray} (h : idOk s = true) : openE (sealB s) = 0 ∧ openS (sealB s) = s := by
  have e : openE (sealB s) = 0 := by
    have hp : 0 < s.size := by
      rcases Nat.eq_zero_or_pos s.size with h0 | h0
      · have e : s = ⟨#[]⟩ := ba_ext (data_nil h0)
        rw [e] at h
        exact absurd h (by decide)
      · exact h0
    refine openE_ok (by rw [sealB_size]; omega) ?_ ?_
    · rw [sealB_id, sealB_dg, sealB_bar, ckS_dig, h]; rfl
    · rw [sealB_id, sealB_dg]
  refine ⟨e, ?_⟩
  unfold openS
  rw [e, if_pos rfl, sealB_id]
theorem openE_zero {s : ByteArray} (h : openE s = 0) : 4 ≤ s.size ∧ idOk (opId s) = true ∧ opBar s = true ∧ opDg s = ckS (opId s) := by
  unfold openE at h
  split at h
  · cases h
  · rename_i h4
    split at h
    · rename_i hc
      split at h
      · rename_i hd
        rw [Bool.and_eq_true, Bool.and_eq_true] at hc
        exact ⟨by omega, hc.1.1, hc.1.2, hd⟩
      · cases h
    · cases h
theorem seal_open {s : ByteArray} (h : openE s = 0) : idOk (openS s) = true ∧ sealB (openS s) = s := by
  obtain ⟨h4, h1, h2, h3⟩ := openE_zero h
  have e : openS s = opId s := by unfold openS; rw [h, if_pos rfl]
  rw [e]
  refine ⟨h1, ba_ext ?_⟩
  have hd := congrArg (fun x : ByteArray => x.data.toList) h3
  obtain ⟨m, hm⟩ : ∃ m, s.size = m + 3 := ⟨s.size - 3, by omega⟩
  have i1 : opId s = s.extract 0 m := by unfold opId; rw [show s.size - 3 = m by omega]
  have i2 : opDg s = s.extract (m + 1) s.size := by unfold opDg; rw [show s.size - 2 = m + 1 by omega]
  have h47 : s[m]'(by omega) = 47 := by
    unfold opBar at h2
    rw [show s.size - 3 = m by omega, List.getD_eq_getElem?_getD, get_data s m (by omega)] at h2
    simpa using h2
  have hk : ckL (modL (opId s).data.toList) = s.data.toList.drop (m + 1) := by
    rw [← data_drop, ← i2]; exact hd.symm
  rw [sealB_data, hk, i1, Lib.extract_data, List.drop_zero, Nat.sub_zero]
  have hdr := drop_cons s m (by omega)
  rw [h47] at hdr
  rw [← hdr, List.take_append_drop]
end Go.Proofs.Ythfchgifkalfdaa.Id
