/-
  Contract of the law's helper 'once', and what a first read leaves.
-/
import Derived.Test.YtglhbjfogbcddaaCbAwake
namespace Go.Proofs.Ytglhbjfogbcddaa.Cb
open Go.RowKit

/-- What was read has exactly these bytes; after an error nothing was read. -/
def OnceOk (s B : ByteArray) (n : Nat) (x : Int) : Prop := n ≤ s.size ∧ (x ≠ 0 → n = 0) ∧ (x = 0 → n = B.size ∧ 1 ≤ n ∧ s.extract 0 n = B)
theorem once_of {s : ByteArray} {E : List UInt8} {n : Nat} {x : Int} (h0 : x ≠ 0 → n = 0) (h1 : x = 0 → s.data.toList.take n = E ∧ n = E.length ∧ n ≤ s.data.toList.length ∧ 0 < E.length) : OnceOk s (toS E) n x := by
  refine ⟨?_, h0, fun hx => ?_⟩
  · by_cases hx : x = 0
    · have := (h1 hx).2.2.1; rw [← Lib.size_eq] at this; exact this
    · rw [h0 hx]; exact Nat.zero_le _
  · obtain ⟨e1, e2, e3, e4⟩ := h1 hx
    refine ⟨by rw [toS_size]; exact e2, by omega, ?_⟩
    rw [Lib.extract_eq, List.drop_zero, Nat.sub_zero, e1]; rfl
theorem once_int (s : ByteArray) (low high : Int) : OnceOk s (toS (intE (intF low high s.data.toList).1)) (intF low high s.data.toList).2.1 (intF low high s.data.toList).2.2 := by
  refine once_of (fun h => (int_err h).2) (fun h => ?_)
  obtain ⟨v, n, e⟩ : ∃ v n, intF low high s.data.toList = (v, n, (intF low high s.data.toList).2.2) := ⟨_, _, rfl⟩
  rw [h] at e
  rw [e]
  have := int_once e
  exact ⟨this.1, this.2.1, this.2.2.1, intE_pos _⟩
theorem once_text (s : ByteArray) (most : Int) : OnceOk s (toS (textE (textF most s.data.toList).1)) (textF most s.data.toList).2.1 (textF most s.data.toList).2.2 := by
  refine once_of (fun h => (text_err h).2) (fun h => ?_)
  obtain ⟨v, n, e⟩ : ∃ v n, textF most s.data.toList = (v, n, (textF most s.data.toList).2.2) := ⟨_, _, rfl⟩
  rw [h] at e
  rw [e]
  have := text_once e
  refine ⟨this.1, this.2.1, this.2.2.1, ?_⟩
  unfold textE
  rw [List.length_append, headL_length]; omega
theorem once_bool (s : ByteArray) : OnceOk s (toS (boolE (boolF s.data.toList).1)) (boolF s.data.toList).2.1 (boolF s.data.toList).2.2 := by
  refine once_of (fun h => (bool_err h).2) (fun h => ?_)
  obtain ⟨v, n, e⟩ : ∃ v n, boolF s.data.toList = (v, n, (boolF s.data.toList).2.2) := ⟨_, _, rfl⟩
  rw [h] at e
  rw [e]
  have := bool_once e
  refine ⟨this.1, this.2.1, this.2.2, ?_⟩
  cases v <;> exact Nat.one_pos
theorem once_list (s : ByteArray) (most : Int) : OnceOk s (toS (listE (listF most s.data.toList).1)) (listF most s.data.toList).2.1 (listF most s.data.toList).2.2 := by
  refine once_of (fun h => (list_err h).2) (fun h => ?_)
  obtain ⟨v, n, e⟩ : ∃ v n, listF most s.data.toList = (v, n, (listF most s.data.toList).2.2) := ⟨_, _, rfl⟩
  rw [h] at e
  rw [e]
  have := list_once e
  refine ⟨this.1, this.2.1, this.2.2.1, ?_⟩
  unfold listE
  rw [if_neg (by omega), headL_length]; omega

set_option maxHeartbeats 1000000 in
set_option maxRecDepth 100000 in
theorem once_any (b at_ : Nat) (s B : ByteArray) (x : Int) (w : World) (h : PR w b s at_ x) (hs : s.size ≤ 100000) (ho : OnceOk s B at_ x) :
    Calls Try.prog 36 #[.pointer (some ⟨b, 0, none⟩), .string s, .string B] w fun e w' => e = .returned (.bool true) ∧ Below w.heap.size w w' := by
  obtain ⟨hat, h0, h1⟩ := ho
  have cL := Lib.hid (fun W (k : Below w.heap.size w W) => qLeft_any b at_ s x W (h.below k) hs hat)
  have cE := Lib.hid (fun W (k : Below w.heap.size w W) => qErr_any b at_ s x W (h.below k))
  have hat' : (at_ : Int) ≤ (s.size : Int) := by omega
  have hs' : (s.size : Int) ≤ 100000 := by omega
  have e1 : (s.size : Int) - ((s.size : Int) - (at_ : Int)) = (at_ : Int) := by omega
  have e2 : IntKind.i64.wrap (at_ : Int) = (at_ : Int) := IntWalk.i64_in _ (by omega)
  clear h
  by_cases hx : x = 0
  · obtain ⟨g1, g2, g3⟩ := h1 hx
    subst hx
    have g1' : (at_ : Int) = (B.size : Int) := by omega
    have g1b : ((at_ : Int) == (B.size : Int)) = true := by rw [g1']; exact beq_self_eq_true _
    have g2' : (1 : Int) ≤ (at_ : Int) := by omega
    have hq : (B.toList == B.toList) = true := beq_self_eq_true _
    clear h0 h1 g1 g2 g1'
    go_enter Try.func36, Try.ntmps36
    go_wp2_with fail
    refine (cL.out _ (Below.refl _ _)).mono ?_; rintro e w1 ⟨rfl, k1⟩
    go_wp2_with fail
    refine (cE.out _ k1).mono ?_; rintro e w2 ⟨rfl, k2⟩
    go_wp2_with fail
    go_ret
    exact ⟨rfl, k1.trans (k2.mono k1.size)⟩
  · have hx2 : (x != 0) = true := bne_iff_ne.2 hx
    obtain rfl : at_ = 0 := h0 hx
    clear h0 h1 hx
    go_enter Try.func36, Try.ntmps36
    go_wp2_with fail
    refine (cL.out _ (Below.refl _ _)).mono ?_; rintro e w1 ⟨rfl, k1⟩
    go_wp2_with fail
    refine (cE.out _ k1).mono ?_; rintro e w2 ⟨rfl, k2⟩
    go_wp2_with fail
    go_ret
    exact ⟨rfl, k1.trans (k2.mono k1.size)⟩
end Go.Proofs.Ytglhbjfogbcddaa.Cb
