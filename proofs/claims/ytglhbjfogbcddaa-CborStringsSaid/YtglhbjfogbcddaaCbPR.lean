/-
  What the laws of layer 5 ask of the program: its reader in memory, and the contracts of its exported functions.
-/
import Derived.Test.YtglhbjfogbcddaaCbP5
namespace Go.Proofs.Ytglhbjfogbcddaa.Cb
open Go.RowKit

/-- The program's reader in memory. -/
def PR (w : World) (b : Nat) (s : ByteArray) (at_ : Nat) (x : Int) : Prop := Rdr w b PT s at_ x
theorem PR.lt {w : World} {b : Nat} {s : ByteArray} {at_ : Nat} {x : Int} (h : PR w b s at_ x) : b < w.heap.size := Rdr.lt h
theorem PR.keep {w w' : World} {b : Nat} {s : ByteArray} {at_ : Nat} {x : Int} (h : PR w b s at_ x) (k : w'.heap[b]? = w.heap[b]?) : PR w' b s at_ x := Eq.trans k h
def PEnd (b : Nat) (s : ByteArray) (v : Value) (at' : Nat) (x' : Int) (w : World) (e : Ending) (w' : World) : Prop := e = .returned v ∧ PR w' b s at' x' ∧ w.grownBy w' (some b)
set_option maxHeartbeats 1000000 in
theorem qNew_any (s : ByteArray) (w : World) : Calls Try.prog 20 #[.string s] w fun e w' => ∃ b, e = .returned (.pointer (some ⟨b, 0, none⟩)) ∧ PR w' b s 0 0 ∧ w.heap.size ≤ b ∧ Below w.heap.size w w' := by
  go_enter Try.func20, Try.ntmps20
  go_wp2_with fail
  go_ret
  refine ⟨w.heap.size, rfl, ?_, Nat.le_refl _, (Below.refl _ w).alloc (Nat.le_refl _) _⟩
  show (w.heap.push _)[w.heap.size]? = _
  simp

set_option maxHeartbeats 1000000 in
set_option maxRecDepth 100000 in
theorem qInt_any (b at_ : Nat) (s : ByteArray) (x low high : Int) (w : World) (h : PR w b s at_ x) (hs : s.size ≤ 100000) (hat : at_ ≤ s.size) :
    Calls Try.prog 22 #[.pointer (some ⟨b, 0, none⟩), .int .i64 low, .int .i64 high] w
      (PEnd b s (.int .i64 (intR x low high (s.data.toList.drop at_)).1) (at_ + (intR x low high (s.data.toList.drop at_)).2.1) (intR x low high (s.data.toList.drop at_)).2.2 w) := by
  have HR : Hid (Rdr w b PT s at_ x) := h
  have cQ := Lib.hid (fun W (hb : Below w.heap.size w W) => pready_any b at_ s x W (HR.out.below hb))
  have cR := Lib.hid (fun W (hb : Below w.heap.size w W) => prest_any b at_ s x W (HR.out.below hb) hs hat)
  have hle := intR_le x low high (s.data.toList.drop at_)
  rw [List.length_drop, ← Lib.size_eq] at hle
  have hb0 : b < w.heap.size := h.lt
  clear h
  by_cases hx : x = 0
  · subst hx
    have cV := Lib.hid (fun W => preadInt_any (s.extract at_ s.size) low high W (rest_size s at_ hs))
    rw [rest_list] at cV
    have hE : Hid (intR 0 low high (s.data.toList.drop at_) = intF low high (s.data.toList.drop at_)) := if_pos rfl
    rw [hE.out] at hle ⊢
    obtain ⟨r1, r2, r3, hr⟩ : ∃ r1 r2 r3, intF low high (s.data.toList.drop at_) = (r1, r2, r3) := ⟨_, _, _, rfl⟩
    rw [hr] at cV hle ⊢
    have hmv : at_ + r2 ≤ s.size := by
      have : r2 ≤ s.size - at_ := hle
      omega
    have cM := Lib.hid (fun W (hb : Below w.heap.size w W) => pmove_any b at_ r2 s 0 r3 W (HR.out.below hb) hs hmv)
    unfold Thr at cV
    unfold MvEnd at cM
    clear hE hr hle hmv hs hat
    go_enter Try.func22, Try.ntmps22
    go_wp2_with fail
    refine (cQ.out _ (Below.refl _ _)).mono ?_; rintro e w0 ⟨rfl, rfl⟩
    go_wp2_with fail
    refine (cR.out _ (Below.refl _ _)).mono ?_; rintro e w1 ⟨rfl, b1⟩
    go_wp2_with fail
    refine (cV.out _).mono ?_; rintro e w2 ⟨rfl, b2⟩
    have b12 := stepB b1 b2
    go_wp2_with fail
    refine (cM.out _ b12).mono ?_; rintro e w3 ⟨rfl, r3, g3⟩
    go_wp2_with fail
    go_ret
    exact ⟨rfl, r3, grown_trans (grown_below b12 _) g3⟩
  · have hE : Hid (intR x low high (s.data.toList.drop at_) = (0, 0, x)) := if_neg hx
    rw [hE.out]
    have hx2 : (x == 0) = false := beq_false_of_ne hx
    clear hE hle hs hat hx
    go_enter Try.func22, Try.ntmps22
    go_wp2_with fail
    refine (cQ.out _ (Below.refl _ _)).mono ?_; rintro e w0 ⟨rfl, rfl⟩
    go_wp2_with fail
    go_ret
    exact ⟨rfl, HR.out, grown_below (Below.refl _ _) _⟩

set_option maxHeartbeats 1000000 in
set_option maxRecDepth 100000 in
theorem qText_any (b at_ : Nat) (s : ByteArray) (x most : Int) (w : World) (h : PR w b s at_ x) (hs : s.size ≤ 100000) (hat : at_ ≤ s.size) (hm : most ≤ 9223372036854775807) :
    Calls Try.prog 24 #[.pointer (some ⟨b, 0, none⟩), .int .i64 most] w
      (PEnd b s (.string (toS (textR x most (s.data.toList.drop at_)).1)) (at_ + (textR x most (s.data.toList.drop at_)).2.1) (textR x most (s.data.toList.drop at_)).2.2 w) := by
  have HR : Hid (Rdr w b PT s at_ x) := h
  have cQ := Lib.hid (fun W (hb : Below w.heap.size w W) => pready_any b at_ s x W (HR.out.below hb))
  have cR := Lib.hid (fun W (hb : Below w.heap.size w W) => prest_any b at_ s x W (HR.out.below hb) hs hat)
  have hle := textR_le x most (s.data.toList.drop at_)
  rw [List.length_drop, ← Lib.size_eq] at hle
  have hb0 : b < w.heap.size := h.lt
  clear h
  by_cases hx : x = 0
  · subst hx
    have cV := Lib.hid (fun W => preadText_any (s.extract at_ s.size) most W (rest_size s at_ hs) hm)
    rw [rest_list] at cV
    have hE : Hid (textR 0 most (s.data.toList.drop at_) = textF most (s.data.toList.drop at_)) := if_pos rfl
    rw [hE.out] at hle ⊢
    obtain ⟨r1, r2, r3, hr⟩ : ∃ r1 r2 r3, textF most (s.data.toList.drop at_) = (r1, r2, r3) := ⟨_, _, _, rfl⟩
    rw [hr] at cV hle ⊢
    have hmv : at_ + r2 ≤ s.size := by
      have : r2 ≤ s.size - at_ := hle
      omega
    have cM := Lib.hid (fun W (hb : Below w.heap.size w W) => pmove_any b at_ r2 s 0 r3 W (HR.out.below hb) hs hmv)
    unfold Thr at cV
    unfold MvEnd at cM
    clear hE hr hle hmv hs hat hm
    go_enter Try.func24, Try.ntmps24
    go_wp2_with fail
    refine (cQ.out _ (Below.refl _ _)).mono ?_; rintro e w0 ⟨rfl, rfl⟩
    go_wp2_with fail
    refine (cR.out _ (Below.refl _ _)).mono ?_; rintro e w1 ⟨rfl, b1⟩
    go_wp2_with fail
    refine (cV.out _).mono ?_; rintro e w2 ⟨rfl, b2⟩
    have b12 := stepB b1 b2
    go_wp2_with fail
    refine (cM.out _ b12).mono ?_; rintro e w3 ⟨rfl, r3, g3⟩
    go_wp2_with fail
    go_ret
    exact ⟨rfl, r3, grown_trans (grown_below b12 _) g3⟩
  · have hE : Hid (textR x most (s.data.toList.drop at_) = ([], 0, x)) := if_neg hx
    rw [hE.out]
    have hx2 : (x == 0) = false := beq_false_of_ne hx
    clear hE hle hs hat hx hm
    go_enter Try.func24, Try.ntmps24
    go_wp2_with fail
    refine (cQ.out _ (Below.refl _ _)).mono ?_; rintro e w0 ⟨rfl, rfl⟩
    go_wp2_with fail
    go_ret
    exact ⟨rfl, HR.out, grown_below (Below.refl _ _) _⟩

set_option maxHeartbeats 1000000 in
set_option maxRecDepth 100000 in
theorem qBool_any (b at_ : Nat) (s : ByteArray) (x : Int) (w : World) (h : PR w b s at_ x) (hs : s.size ≤ 100000) (hat : at_ ≤ s.size) :
    Calls Try.prog 26 #[.pointer (some ⟨b, 0, none⟩)] w
      (PEnd b s (.bool (boolR x (s.data.toList.drop at_)).1) (at_ + (boolR x (s.data.toList.drop at_)).2.1) (boolR x (s.data.toList.drop at_)).2.2 w) := by
  have HR : Hid (Rdr w b PT s at_ x) := h
  have cQ := Lib.hid (fun W (hb : Below w.heap.size w W) => pready_any b at_ s x W (HR.out.below hb))
  have cR := Lib.hid (fun W (hb : Below w.heap.size w W) => prest_any b at_ s x W (HR.out.below hb) hs hat)
  have hle := boolR_le x (s.data.toList.drop at_)
  rw [List.length_drop, ← Lib.size_eq] at hle
  have hb0 : b < w.heap.size := h.lt
  clear h
  by_cases hx : x = 0
  · subst hx
    have cV := Lib.hid (fun W => preadBool_any (s.extract at_ s.size) W)
    rw [rest_list] at cV
    have hE : Hid (boolR 0 (s.data.toList.drop at_) = boolF (s.data.toList.drop at_)) := if_pos rfl
    rw [hE.out] at hle ⊢
    obtain ⟨r1, r2, r3, hr⟩ : ∃ r1 r2 r3, boolF (s.data.toList.drop at_) = (r1, r2, r3) := ⟨_, _, _, rfl⟩
    rw [hr] at cV hle ⊢
    have hmv : at_ + r2 ≤ s.size := by
      have : r2 ≤ s.size - at_ := hle
      omega
    have cM := Lib.hid (fun W (hb : Below w.heap.size w W) => pmove_any b at_ r2 s 0 r3 W (HR.out.below hb) hs hmv)
    unfold Thr at cV
    unfold MvEnd at cM
    clear hE hr hle hmv hs hat
    go_enter Try.func26, Try.ntmps26
    go_wp2_with fail
    refine (cQ.out _ (Below.refl _ _)).mono ?_; rintro e w0 ⟨rfl, rfl⟩
    go_wp2_with fail
    refine (cR.out _ (Below.refl _ _)).mono ?_; rintro e w1 ⟨rfl, b1⟩
    go_wp2_with fail
    refine (cV.out _).mono ?_; rintro e w2 ⟨rfl, b2⟩
    have b12 := stepB b1 b2
    go_wp2_with fail
    refine (cM.out _ b12).mono ?_; rintro e w3 ⟨rfl, r3, g3⟩
    go_wp2_with fail
    go_ret
    exact ⟨rfl, r3, grown_trans (grown_below b12 _) g3⟩
  · have hE : Hid (boolR x (s.data.toList.drop at_) = (false, 0, x)) := if_neg hx
    rw [hE.out]
    have hx2 : (x == 0) = false := beq_false_of_ne hx
    clear hE hle hs hat hx
    go_enter Try.func26, Try.ntmps26
    go_wp2_with fail
    refine (cQ.out _ (Below.refl _ _)).mono ?_; rintro e w0 ⟨rfl, rfl⟩
    go_wp2_with fail
    go_ret
    exact ⟨rfl, HR.out, grown_below (Below.refl _ _) _⟩

set_option maxHeartbeats 1000000 in
set_option maxRecDepth 100000 in
theorem qList_any (b at_ : Nat) (s : ByteArray) (x most : Int) (w : World) (h : PR w b s at_ x) (hs : s.size ≤ 100000) (hat : at_ ≤ s.size) (hm : most ≤ 9223372036854775807) :
    Calls Try.prog 28 #[.pointer (some ⟨b, 0, none⟩), .int .i64 most] w
      (PEnd b s (.int .i64 (listR x most (s.data.toList.drop at_)).1) (at_ + (listR x most (s.data.toList.drop at_)).2.1) (listR x most (s.data.toList.drop at_)).2.2 w) := by
  have HR : Hid (Rdr w b PT s at_ x) := h
  have cQ := Lib.hid (fun W (hb : Below w.heap.size w W) => pready_any b at_ s x W (HR.out.below hb))
  have cR := Lib.hid (fun W (hb : Below w.heap.size w W) => prest_any b at_ s x W (HR.out.below hb) hs hat)
  have hle := listR_le x most (s.data.toList.drop at_)
  rw [List.length_drop, ← Lib.size_eq] at hle
  have hb0 : b < w.heap.size := h.lt
  clear h
  by_cases hx : x = 0
  · subst hx
    have cV := Lib.hid (fun W => preadCount_any 4 (s.extract at_ s.size) most W (rest_size s at_ hs) hm)
    rw [rest_list, cnt_list] at cV
    have hE : Hid (listR 0 most (s.data.toList.drop at_) = listF most (s.data.toList.drop at_)) := if_pos rfl
    rw [hE.out] at hle ⊢
    obtain ⟨r1, r2, r3, hr⟩ : ∃ r1 r2 r3, listF most (s.data.toList.drop at_) = (r1, r2, r3) := ⟨_, _, _, rfl⟩
    rw [hr] at cV hle ⊢
    have hmv : at_ + r2 ≤ s.size := by
      have : r2 ≤ s.size - at_ := hle
      omega
    have cM := Lib.hid (fun W (hb : Below w.heap.size w W) => pmove_any b at_ r2 s 0 r3 W (HR.out.below hb) hs hmv)
    unfold Thr at cV
    unfold MvEnd at cM
    clear hE hr hle hmv hs hat hm
    go_enter Try.func28, Try.ntmps28
    go_wp2_with fail
    refine (cQ.out _ (Below.refl _ _)).mono ?_; rintro e w0 ⟨rfl, rfl⟩
    go_wp2_with fail
    refine (cR.out _ (Below.refl _ _)).mono ?_; rintro e w1 ⟨rfl, b1⟩
    go_wp2_with fail
    refine (cV.out _).mono ?_; rintro e w2 ⟨rfl, b2⟩
    have b12 := stepB b1 b2
    go_wp2_with fail
    refine (cM.out _ b12).mono ?_; rintro e w3 ⟨rfl, r3, g3⟩
    go_wp2_with fail
    go_ret
    exact ⟨rfl, r3, grown_trans (grown_below b12 _) g3⟩
  · have hE : Hid (listR x most (s.data.toList.drop at_) = (0, 0, x)) := if_neg hx
    rw [hE.out]
    have hx2 : (x == 0) = false := beq_false_of_ne hx
    clear hE hle hs hat hx hm
    go_enter Try.func28, Try.ntmps28
    go_wp2_with fail
    refine (cQ.out _ (Below.refl _ _)).mono ?_; rintro e w0 ⟨rfl, rfl⟩
    go_wp2_with fail
    go_ret
    exact ⟨rfl, HR.out, grown_below (Below.refl _ _) _⟩

set_option maxHeartbeats 1000000 in
theorem qLeft_any (b at_ : Nat) (s : ByteArray) (x : Int) (w : World) (h : PR w b s at_ x) (hs : s.size ≤ 100000) (hat : at_ ≤ s.size) :
    Calls Try.prog 30 #[.pointer (some ⟨b, 0, none⟩)] w fun e w' => e = .returned (.int .i64 ((s.size : Int) - (at_ : Int))) ∧ Below w.heap.size w w' := by
  have cR := Lib.hid (prest_any b at_ s x w h hs hat)
  have hX : ((s.extract at_ s.size).size : Int) = (s.size : Int) - (at_ : Int) := by
    rw [Lib.size_eq, rest_list, List.length_drop, ← Lib.size_eq]; omega
  obtain ⟨X, hXe⟩ : ∃ X, s.extract at_ s.size = X := ⟨_, rfl⟩
  rw [hXe] at cR hX
  rw [← hX]
  clear h hs hat hX hXe
  go_enter Try.func30, Try.ntmps30
  go_wp2_with fail
  refine cR.out.mono ?_; rintro e w1 ⟨rfl, b1⟩
  go_wp2_with fail
  go_ret
  exact ⟨rfl, b1⟩
set_option maxHeartbeats 1000000 in
theorem qErr_any (b at_ : Nat) (s : ByteArray) (x : Int) (w : World) (h : PR w b s at_ x) :
    Calls Try.prog 32 #[.pointer (some ⟨b, 0, none⟩)] w fun e w' => e = .returned (.int .i64 x) ∧ Below w.heap.size w w' := by
  have h2 := Rdr.c2 h
  clear h
  go_enter Try.func32, Try.ntmps32
  go_wp2_with fail
  go_ret
  exact ⟨rfl, Below.refl _ _⟩

set_option maxHeartbeats 1000000 in
theorem qEnd_any (b at_ : Nat) (s : ByteArray) (x : Int) (w : World) (h : PR w b s at_ x) (hb : x = 0 → s.size ≤ 100000 ∧ at_ ≤ s.size) :
    Calls Try.prog 34 #[.pointer (some ⟨b, 0, none⟩)] w fun e w' => e = .returned (.int .i64 (endV x at_ s.size)) ∧ Below w.heap.size w w' := by
  have HR : Hid (Rdr w b PT s at_ x) := h
  have cE := Lib.hid (qErr_any b at_ s x w h)
  unfold endV
  by_cases hx : x = 0
  · subst hx
    obtain ⟨hs, hat⟩ := hb rfl
    have cL := Lib.hid (fun W (hb : Below w.heap.size w W) => qLeft_any b at_ s 0 W (HR.out.below hb) hs hat)
    by_cases hlt : at_ < s.size
    · rw [if_pos ⟨rfl, hlt⟩]
      have hlt' : (0 : Int) < (s.size : Int) - (at_ : Int) := by omega
      clear h hb hs hat hlt
      go_enter Try.func34, Try.ntmps34
      go_wp2_with fail
      refine cE.out.mono ?_; rintro e w1 ⟨rfl, b1⟩
      go_wp2_with fail
      refine (cL.out _ b1).mono ?_; rintro e w2 ⟨rfl, b2⟩
      go_wp2_with fail
      go_ret
      exact ⟨rfl, stepB b1 b2⟩
    · rw [if_neg (fun h => hlt h.2)]
      have hlt' : ¬ (0 : Int) < (s.size : Int) - (at_ : Int) := by omega
      clear h hb hs hat hlt
      go_enter Try.func34, Try.ntmps34
      go_wp2_with fail
      refine cE.out.mono ?_; rintro e w1 ⟨rfl, b1⟩
      go_wp2_with fail
      refine (cL.out _ b1).mono ?_; rintro e w2 ⟨rfl, b2⟩
      go_wp2_with fail
      go_ret
      exact ⟨rfl, stepB b1 b2⟩
  · rw [if_neg (fun h => hx h.1)]
    have hx2 : (x != 0) = true := bne_iff_ne.2 hx
    clear h hb hx
    go_enter Try.func34, Try.ntmps34
    go_wp2_with fail
    refine cE.out.mono ?_; rintro e w1 ⟨rfl, b1⟩
    go_wp2_with fail
    go_ret
    exact ⟨rfl, b1⟩

set_option maxHeartbeats 1000000 in
set_option maxRecDepth 100000 in
theorem qint_any (n : Int) (w : World) (h1 : -9223372036854775808 ≤ n) (h2 : n ≤ 9223372036854775807) : Calls Try.prog 12 #[.int .i64 n] w fun e w' => e = .returned (.string (toS (intE n))) ∧ Below w.heap.size w w' := by
  by_cases h : n < 0
  · obtain ⟨v, hv⟩ : ∃ v : Nat, -1 - n = (v : Int) := ⟨(-1 - n).toNat, by omega⟩
    have hE := Lib.hid (show headL 1 v = intE n by unfold intE; rw [if_pos h, hv]; rfl)
    have c1 := Lib.hid (fun w => pencode_any 1 v w (by decide) (by omega))
    rw [hE.out] at c1
    have e1 : IntKind.u64.wrap (v : Int) = (v : Int) := IntWalk.u64_in _ (by omega)
    have e2 : IntKind.i64.wrap (v : Int) = (v : Int) := IntWalk.i64_in _ (by omega)
    have e3 : wrap64 (v : Int) = (v : Int) := by rw [← IntWalk.i64_left]; exact e2
    clear h1 h2
    go_enter Try.func12, Try.ntmps12
    go_wp2_with fail
    refine (c1.out _).mono ?_; rintro e w1 ⟨rfl, b1⟩
    go_wp2_with fail
    go_ret
    exact ⟨rfl, b1⟩
  · obtain ⟨v, rfl⟩ : ∃ v : Nat, n = (v : Int) := ⟨n.toNat, by omega⟩
    have hE := Lib.hid (show headL 0 v = intE (v : Int) by unfold intE; rw [if_neg h]; rfl)
    have c1 := Lib.hid (fun w => pencode_any 0 v w (by decide) (by omega))
    rw [hE.out] at c1
    have e1 : IntKind.u64.wrap (v : Int) = (v : Int) := IntWalk.u64_in _ (by omega)
    clear h1 h2
    go_enter Try.func12, Try.ntmps12
    go_wp2_with fail
    refine (c1.out _).mono ?_; rintro e w1 ⟨rfl, b1⟩
    go_wp2_with fail
    go_ret
    exact ⟨rfl, b1⟩
set_option maxHeartbeats 1000000 in
set_option maxRecDepth 100000 in
theorem qlist_any (n : Int) (w : World) (h2 : n ≤ 9223372036854775807) : Calls Try.prog 18 #[.int .i64 n] w fun e w' => e = .returned (.string (toS (listE n))) ∧ Below w.heap.size w w' := by
  by_cases h : n < 0
  · have hE := Lib.hid (show [] = listE n by unfold listE; rw [if_pos h])
    clear h2
    go_enter Try.func18, Try.ntmps18
    go_wp2_with fail
    go_ret
    exact ⟨by rw [← hE.out]; rfl, Below.refl _ _⟩
  · obtain ⟨v, rfl⟩ : ∃ v : Nat, n = (v : Int) := ⟨n.toNat, by omega⟩
    have hE := Lib.hid (show headL 4 v = listE (v : Int) by unfold listE; rw [if_neg h]; rfl)
    have c1 := Lib.hid (fun w => pencode_any 4 v w (by decide) (by omega))
    rw [hE.out] at c1
    have e1 : IntKind.u64.wrap (v : Int) = (v : Int) := IntWalk.u64_in _ (by omega)
    clear h2
    go_enter Try.func18, Try.ntmps18
    go_wp2_with fail
    refine (c1.out _).mono ?_; rintro e w1 ⟨rfl, b1⟩
    go_wp2_with fail
    go_ret
    exact ⟨rfl, b1⟩
theorem conv_tt (W : World) : (convert 53 9 (.slice (some ⟨W.heap.size, 0, none⟩) 1 1)).run Try.prog (W.alloc (.cells #[.int .u8 245] 5)) = .ok (.string (toS [245])) (W.alloc (.cells #[.int .u8 245] 5)) :=
  run_convert_bytes_back (P := Try.prog) _ 53 9 5 ⟨W.heap.size, 0, none⟩ 1 [245] Try.underlying53 Try.underlying5 Try.underlying9 (fun j hj => by
    match j, hj with
    | 0, _ => simp [Addr.add])
theorem conv_ff (W : World) : (convert 53 9 (.slice (some ⟨W.heap.size, 0, none⟩) 1 1)).run Try.prog (W.alloc (.cells #[.int .u8 244] 5)) = .ok (.string (toS [244])) (W.alloc (.cells #[.int .u8 244] 5)) :=
  run_convert_bytes_back (P := Try.prog) _ 53 9 5 ⟨W.heap.size, 0, none⟩ 1 [244] Try.underlying53 Try.underlying5 Try.underlying9 (fun j hj => by
    match j, hj with
    | 0, _ => simp [Addr.add])
set_option maxHeartbeats 1000000 in
theorem qbool_any (b : Bool) (w : World) : Calls Try.prog 16 #[.bool b] w fun e w' => e = .returned (.string (toS (boolE b))) ∧ Below w.heap.size w w' := by
  cases b
  · have cc := conv_ff w
    go_enter Try.func16, Try.ntmps16
    go_wp2_with fail
    go_ret
    exact ⟨rfl, (Below.refl _ w).alloc (Nat.le_refl _) _⟩
  · have cc := conv_tt w
    go_enter Try.func16, Try.ntmps16
    go_wp2_with fail
    go_ret
    exact ⟨rfl, (Below.refl _ w).alloc (Nat.le_refl _) _⟩
set_option maxHeartbeats 1000000 in
set_option maxRecDepth 100000 in
theorem qtext_any (t : ByteArray) (w : World) (h : (t.size : Int) ≤ 1000000) : Calls Try.prog 14 #[.string t] w fun e w' => e = .returned (.string (toS (textE t.data.toList))) ∧ Below w.heap.size w w' := by
  have hlen : t.data.toList.length = t.size := (Lib.size_eq t).symm
  have c1 := Lib.hid (fun w => pencode_any 2 t.size w (by decide) (by omega))
  have e1 : IntKind.u64.wrap (t.size : Int) = (t.size : Int) := IntWalk.u64_in _ (by omega)
  have e2 : ∀ W : World, (Op.stringOp .add (toS (headL 2 t.size)) t).run Try.prog W = .ok (.string (toS (textE t.data.toList))) W := fun W => by
    have := add_lists (headL 2 t.size) t.data.toList (by rw [headL_length, hlen]; have := nOf_le t.size; omega) W
    rw [toS_data] at this
    unfold textE
    rw [hlen]
    exact this
  clear hlen
  go_enter Try.func14, Try.ntmps14
  go_wp2_with fail
  refine (c1.out _).mono ?_; rintro e w1 ⟨rfl, b1⟩
  go_wp2_with fail
  go_ret
  exact ⟨rfl, b1⟩
end Go.Proofs.Ytglhbjfogbcddaa.Cb
