/-
  Contracts of the reference's readers of layer 5, with an error before or without.
-/
import Derived.Test.YtglhbjfogbcddaaCbRErr
namespace Go.Proofs.Ytglhbjfogbcddaa.Cb
open Go.RowKit

def intR (x low high : Int) (l : List UInt8) : Int × Nat × Int := if x = 0 then intF low high l else (0, 0, x)
def textR (x most : Int) (l : List UInt8) : List UInt8 × Nat × Int := if x = 0 then textF most l else ([], 0, x)
def boolR (x : Int) (l : List UInt8) : Bool × Nat × Int := if x = 0 then boolF l else (false, 0, x)
def listR (x most : Int) (l : List UInt8) : Int × Nat × Int := if x = 0 then listF most l else (0, 0, x)
theorem intR_le (x low high : Int) (l : List UInt8) : (intR x low high l).2.1 ≤ l.length := by
  unfold intR
  split
  · by_cases h : (intF low high l).2.2 = 0
    · obtain ⟨v, n, e⟩ : ∃ v n, intF low high l = (v, n, (intF low high l).2.2) := ⟨_, _, rfl⟩
      rw [h] at e
      rw [e]
      exact (int_once e).2.2.1
    · rw [(int_err h).2]; exact Nat.zero_le _
  · exact Nat.zero_le _
theorem textR_le (x most : Int) (l : List UInt8) : (textR x most l).2.1 ≤ l.length := by
  unfold textR
  split
  · by_cases h : (textF most l).2.2 = 0
    · obtain ⟨v, n, e⟩ : ∃ v n, textF most l = (v, n, (textF most l).2.2) := ⟨_, _, rfl⟩
      rw [h] at e
      rw [e]
      exact (text_once e).2.2.1
    · rw [(text_err h).2]; exact Nat.zero_le _
  · exact Nat.zero_le _
theorem boolR_le (x : Int) (l : List UInt8) : (boolR x l).2.1 ≤ l.length := by
  unfold boolR
  split
  · by_cases h : (boolF l).2.2 = 0
    · obtain ⟨v, n, e⟩ : ∃ v n, boolF l = (v, n, (boolF l).2.2) := ⟨_, _, rfl⟩
      rw [h] at e
      rw [e]
      exact (bool_once e).2.2
    · rw [(bool_err h).2]; exact Nat.zero_le _
  · exact Nat.zero_le _
theorem listR_le (x most : Int) (l : List UInt8) : (listR x most l).2.1 ≤ l.length := by
  unfold listR
  split
  · by_cases h : (listF most l).2.2 = 0
    · obtain ⟨v, n, e⟩ : ∃ v n, listF most l = (v, n, (listF most l).2.2) := ⟨_, _, rfl⟩
      rw [h] at e
      rw [e]
      exact (list_once e).2.2.1
    · rw [(list_err h).2]; exact Nat.zero_le _
  · exact Nat.zero_le _
theorem at_le {at_ n : Nat} {s : ByteArray} (hat : at_ ≤ s.size) (h : n ≤ (s.data.toList.drop at_).length) : at_ + n ≤ s.size := by
  rw [List.length_drop, ← Lib.size_eq] at h; omega

theorem rInt_all (b at_ : Nat) (s : ByteArray) (x low high : Int) (T : TypeId) (w : World) (h : Rdr w b T s at_ x) (hs : s.size ≤ 100000) (hat : at_ ≤ s.size) :
    Calls Try.prog 23 #[.pointer (some ⟨b, 0, none⟩), .int .i64 low, .int .i64 high] w
      (RdEnd b T s (.int .i64 (intR x low high (s.data.toList.drop at_)).1) (at_ + (intR x low high (s.data.toList.drop at_)).2.1) (intR x low high (s.data.toList.drop at_)).2.2 w) := by
  unfold intR
  by_cases hx : x = 0
  · subst hx; rw [if_pos rfl]; exact rInt_any b at_ s low high T w h hs hat
  · rw [if_neg hx]
    exact (rInt_err b at_ s x low high T w h hx).mono fun e w' ⟨h1, h2⟩ => ⟨h1, by rw [← h2]; exact h, by rw [← h2]; exact grown_below (Below.refl _ _) _⟩
theorem rText_all (b at_ : Nat) (s : ByteArray) (x most : Int) (T : TypeId) (w : World) (h : Rdr w b T s at_ x) (hs : s.size ≤ 100000) (hat : at_ ≤ s.size) (hm : most ≤ 9223372036854775807) :
    Calls Try.prog 25 #[.pointer (some ⟨b, 0, none⟩), .int .i64 most] w
      (RdEnd b T s (.string (toS (textR x most (s.data.toList.drop at_)).1)) (at_ + (textR x most (s.data.toList.drop at_)).2.1) (textR x most (s.data.toList.drop at_)).2.2 w) := by
  unfold textR
  by_cases hx : x = 0
  · subst hx; rw [if_pos rfl]; exact rText_any b at_ s most T w h hs hat hm
  · rw [if_neg hx]
    exact (rText_err b at_ s x most T w h hx).mono fun e w' ⟨h1, h2⟩ => ⟨h1, by rw [← h2]; exact h, by rw [← h2]; exact grown_below (Below.refl _ _) _⟩
theorem rBool_all (b at_ : Nat) (s : ByteArray) (x : Int) (T : TypeId) (w : World) (h : Rdr w b T s at_ x) (hs : s.size ≤ 100000) (hat : at_ ≤ s.size) :
    Calls Try.prog 27 #[.pointer (some ⟨b, 0, none⟩)] w
      (RdEnd b T s (.bool (boolR x (s.data.toList.drop at_)).1) (at_ + (boolR x (s.data.toList.drop at_)).2.1) (boolR x (s.data.toList.drop at_)).2.2 w) := by
  unfold boolR
  by_cases hx : x = 0
  · subst hx; rw [if_pos rfl]; exact rBool_any b at_ s T w h hs hat
  · rw [if_neg hx]
    exact (rBool_err b at_ s x T w h hx).mono fun e w' ⟨h1, h2⟩ => ⟨h1, by rw [← h2]; exact h, by rw [← h2]; exact grown_below (Below.refl _ _) _⟩
theorem rList_all (b at_ : Nat) (s : ByteArray) (x most : Int) (T : TypeId) (w : World) (h : Rdr w b T s at_ x) (hs : s.size ≤ 100000) (hat : at_ ≤ s.size) (hm : most ≤ 9223372036854775807) :
    Calls Try.prog 29 #[.pointer (some ⟨b, 0, none⟩), .int .i64 most] w
      (RdEnd b T s (.int .i64 (listR x most (s.data.toList.drop at_)).1) (at_ + (listR x most (s.data.toList.drop at_)).2.1) (listR x most (s.data.toList.drop at_)).2.2 w) := by
  unfold listR
  by_cases hx : x = 0
  · subst hx; rw [if_pos rfl]; exact rList_any b at_ s most T w h hs hat hm
  · rw [if_neg hx]
    exact (rList_err b at_ s x most T w h hx).mono fun e w' ⟨h1, h2⟩ => ⟨h1, by rw [← h2]; exact h, by rw [← h2]; exact grown_below (Below.refl _ _) _⟩
end Go.Proofs.Ytglhbjfogbcddaa.Cb
