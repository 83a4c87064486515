/-
  Contracts of the reference's other readers of layer 5: List, Bool, Left, Err, End.
-/
import Derived.Test.YtglhbjfogbcddaaCbRRead
namespace Go.Proofs.Ytglhbjfogbcddaa.Cb
open Go.RowKit

theorem list_x {most : Int} {l : List UInt8} {k v n : Nat} {x : Int} (ha : argF 4 4 l = (k, v, n, x)) (h : x ≠ 0) : listF most l = (0, 0, x) := by unfold listF; rw [ha, if_pos h]
theorem list_4 {most : Int} {l : List UInt8} {k v n : Nat} (ha : argF 4 4 l = (k, v, n, 0)) (h : most < (v : Int)) : listF most l = (0, 0, 4) := by unfold listF; rw [ha, if_neg (by simp), if_pos h]
theorem list_v {most : Int} {l : List UInt8} {k v n : Nat} (ha : argF 4 4 l = (k, v, n, 0)) (h : ¬ most < (v : Int)) : listF most l = ((v : Int), n, 0) := by unfold listF; rw [ha, if_neg (by simp), if_neg h]

set_option maxHeartbeats 2000000 in
set_option maxRecDepth 100000 in
theorem rList_any (b at_ : Nat) (s : ByteArray) (most : Int) (T : TypeId) (w : World) (h : Rdr w b T s at_ 0) (hs : s.size ≤ 100000) (hat : at_ ≤ s.size) (hm : most ≤ 9223372036854775807) :
    Calls Try.prog 29 #[.pointer (some ⟨b, 0, none⟩), .int .i64 most] w
      (RdEnd b T s (.int .i64 (listF most (s.data.toList.drop at_)).1) (at_ + (listF most (s.data.toList.drop at_)).2.1) (listF most (s.data.toList.drop at_)).2.2 w) := by
  have h2 := h.c2
  have HR := Lib.hid h
  have cA := Lib.hid (fun w' (hb : Below w.heap.size w w') => rarg_any 4 4 b at_ s w' (Nat.lt_of_lt_of_le h.lt hb.size) hs hat (h.below hb).c0 (h.below hb).c1)
  obtain ⟨l, hl⟩ : ∃ l, s.data.toList.drop at_ = l := ⟨_, rfl⟩
  rw [hl] at cA ⊢
  obtain ⟨k, v, n, x, ha⟩ : ∃ k v n x, argF 4 4 l = (k, v, n, x) := ⟨_, _, _, _, rfl⟩
  have cF := Lib.hid (fun y W (hb : Below w.heap.size w W) => rfails_any b at_ s 0 y T W (h.below hb))
  unfold ArgEnd at cA
  rw [ha] at cA
  have hat' : (at_ : Int) ≤ 100000 := by omega
  clear h
  by_cases hx : x = 0
  · subst hx
    have hok := arg_ok ha
    have hn : n ≤ l.length := hok.2.2.2.1
    have hv64 := hok.2.2.2.2
    have hll : l.length ≤ 100000 := by rw [← hl, List.length_drop, ← Lib.size_eq]; omega
    have hn' : (n : Int) ≤ 100000 := by omega
    clear hok hll hl
    by_cases hneg : most < 0
    · rw [list_4 ha (by omega)]
      clear ha hv64 hm
      go_enter Try.func29, Try.ntmps29
      go_wp2_with fail
      refine (cA.out _ (Below.refl _ _)).mono ?_; rintro e w1 ⟨rfl, b1⟩
      go_wp2_with fail
      refine (cF.out _ _ b1).mono ?_; rintro e w2 ⟨rfl, r2, g2⟩
      go_wp2_with fail
      go_ret
      exact ⟨rfl, r2, grown_trans (grown_below b1 _) g2⟩
    · have hu : IntKind.u64.wrap most = most := IntWalk.u64_in _ (by omega)
      by_cases hgt : most < (v : Int)
      · rw [list_4 ha hgt]
        clear ha hv64 hm
        go_enter Try.func29, Try.ntmps29
        go_wp2_with fail
        refine (cA.out _ (Below.refl _ _)).mono ?_; rintro e w1 ⟨rfl, b1⟩
        go_wp2_with fail
        refine (cF.out _ _ b1).mono ?_; rintro e w2 ⟨rfl, r2, g2⟩
        go_wp2_with fail
        go_ret
        exact ⟨rfl, r2, grown_trans (grown_below b1 _) g2⟩
      · rw [list_v ha hgt]
        have hvi : IntKind.i64.wrap (v : Int) = (v : Int) := IntWalk.i64_in _ (by omega)
        have hw : IntKind.i64.wrap ((at_ : Int) + (n : Int)) = (at_ : Int) + (n : Int) := IntWalk.i64_in _ (by omega)
        clear ha hv64 hm
        go_enter Try.func29, Try.ntmps29
        go_wp2_with fail
        refine (cA.out _ (Below.refl _ _)).mono ?_; rintro e w1 ⟨rfl, b1⟩
        have r1 := HR.out.below b1
        have k1 := r1.c1
        have f1 := r1.fz 1
        have r1' := Lib.hid r1
        clear r1
        go_wp2_with fail
        go_ret
        exact ⟨rfl, r1'.out.set1 (at_ + n), grown_trans (grown_below b1 _) (grown_set _ _ _ _)⟩
  · rw [list_x ha hx]
    have hx1 : (x == 0) = false := beq_false_of_ne hx
    have hx2 : (x != 0) = true := bne_iff_ne.2 hx
    clear hx ha hl hm
    go_enter Try.func29, Try.ntmps29
    go_wp2_with fail
    refine (cA.out _ (Below.refl _ _)).mono ?_; rintro e w1 ⟨rfl, b1⟩
    go_wp2_with fail
    refine (cF.out _ _ b1).mono ?_; rintro e w2 ⟨rfl, r2, g2⟩
    go_wp2_with fail
    go_ret
    exact ⟨rfl, r2, grown_trans (grown_below b1 _) g2⟩

theorem bool_nil : boolF [] = (false, 0, 3) := rfl
theorem bool_bad {c : UInt8} {l : List UInt8} (h4 : ¬ c.toNat = 244) (h5 : ¬ c.toNat = 245) : boolF (c :: l) = (false, 0, 5) := by rw [boolF, if_pos ⟨h4, h5⟩]
theorem bool_yes {c : UInt8} {l : List UInt8} (h : c.toNat = 244 ∨ c.toNat = 245) : boolF (c :: l) = (c.toNat == 245, 1, 0) := by rw [boolF, if_neg (by omega)]
theorem Rdr.drew {w : World} {b : Nat} {T : TypeId} {s : ByteArray} {at_ : Nat} {e : Int} (h : Rdr w b T s at_ e) (q : Nat) : Rdr (w.drewN q) b T s at_ e := h

set_option maxHeartbeats 2000000 in
set_option maxRecDepth 100000 in
theorem rBool_any (b at_ : Nat) (s : ByteArray) (T : TypeId) (w : World) (h : Rdr w b T s at_ 0) (hs : s.size ≤ 100000) (hat : at_ ≤ s.size) :
    Calls Try.prog 27 #[.pointer (some ⟨b, 0, none⟩)] w
      (RdEnd b T s (.bool (boolF (s.data.toList.drop at_)).1) (at_ + (boolF (s.data.toList.drop at_)).2.1) (boolF (s.data.toList.drop at_)).2.2 w) := by
  have h0 := h.c0
  have h1 := h.c1
  have h2 := h.c2
  have hf1 := h.fz 1
  have HR := Lib.hid h
  have cF := Lib.hid (fun y W (hb : Below w.heap.size w W) => rfails_any b at_ s 0 y T W (h.below hb))
  have hat' : (at_ : Int) ≤ 100000 := by omega
  clear h
  by_cases hlt : at_ < s.size
  · have hlt' : (at_ : Int) < (s.size : Int) := by omega
    have hge : ¬ (s.size : Int) ≤ (at_ : Int) := by omega
    rw [drop_cons s at_ hlt]
    obtain ⟨c, hc⟩ : ∃ c, s[at_] = c := ⟨_, rfl⟩
    have hcn : s[at_].toNat = c.toNat := by rw [hc]
    rw [hc]
    by_cases h4 : c.toNat = 244
    · rw [bool_yes (Or.inl h4)]
      rw [h4] at hcn ⊢
      have hw : IntKind.i64.wrap ((at_ : Int) + 1) = (at_ : Int) + 1 := IntWalk.i64_in _ (by omega)
      clear hc h4 
      go_enter Try.func27, Try.ntmps27
      go_wp2_with fail
      go_quiet (fail)
      revert nq; intro nq0
      go_wp2_with fail
      go_quiet (fail)
      go_wp2_with fail
      go_ret
      exact ⟨rfl, Rdr.set1 (w := w.drewN _) HR.out (at_ + 1), grown_trans (grown_below (below_drewN w _) _) (grown_set _ _ _ _)⟩
    · by_cases h5 : c.toNat = 245
      · rw [bool_yes (Or.inr h5)]
        rw [h5] at hcn ⊢
        have hw : IntKind.i64.wrap ((at_ : Int) + 1) = (at_ : Int) + 1 := IntWalk.i64_in _ (by omega)
        clear hc h4 h5
        go_enter Try.func27, Try.ntmps27
        go_wp2_with fail
        go_quiet (fail)
        revert nq; intro nq0
        go_wp2_with fail
        go_quiet (fail)
        go_wp2_with fail
        go_ret
        exact ⟨rfl, Rdr.set1 (w := w.drewN _) HR.out (at_ + 1), grown_trans (grown_below (below_drewN w _) _) (grown_set _ _ _ _)⟩
      · rw [bool_bad h4 h5]
        have q4 : ((c.toNat : Int) != 244) = true := bne_iff_ne.2 (by omega)
        have q5 : ((c.toNat : Int) != 245) = true := bne_iff_ne.2 (by omega)
        clear hc h4 h5
        go_enter Try.func27, Try.ntmps27
        go_wp2_with fail
        go_quiet (fail)
        revert nq; intro nq0
        go_wp2_with fail
        go_quiet (fail)
        go_wp2_with fail
        refine (cF.out _ (w.drewN (nq0 + nq)) (below_drewN w _)).mono ?_; rintro e w2 ⟨rfl, r2, g2⟩
        go_wp2_with fail
        go_ret
        exact ⟨rfl, r2, grown_trans (grown_below (below_drewN w _) _) g2⟩
  · have hge : (s.size : Int) ≤ (at_ : Int) := by omega
    rw [List.drop_eq_nil_of_le (by rw [← Lib.size_eq]; omega), bool_nil]
    go_enter Try.func27, Try.ntmps27
    go_wp2_with fail
    go_quiet (fail)
    go_wp2_with fail
    refine (cF.out _ _ (below_drewN w nq)).mono ?_; rintro e w2 ⟨rfl, r2, g2⟩
    go_wp2_with fail
    go_ret
    exact ⟨rfl, r2, grown_trans (grown_below (below_drewN w nq) _) g2⟩

/-! ### What only looks -/
set_option maxHeartbeats 1000000 in
set_option maxRecDepth 100000 in
theorem rLeft_any (b at_ : Nat) (s : ByteArray) (x : Int) (T : TypeId) (w : World) (h : Rdr w b T s at_ x) (hs : s.size ≤ 100000) (hat : at_ ≤ s.size) :
    Calls Try.prog 31 #[.pointer (some ⟨b, 0, none⟩)] w fun e w' => e = .returned (.int .i64 ((s.size : Int) - (at_ : Int))) ∧ Below w.heap.size w w' := by
  have h0 := h.c0
  have h1 := h.c1
  have hw : IntKind.i64.wrap ((s.size : Int) - (at_ : Int)) = (s.size : Int) - (at_ : Int) := IntWalk.i64_in _ (by omega)
  clear h
  go_enter Try.func31, Try.ntmps31
  go_wp2_with fail
  go_quiet (fail)
  go_wp2_with fail
  go_ret
  exact ⟨rfl, below_drewN _ _⟩
set_option maxHeartbeats 1000000 in
set_option maxRecDepth 100000 in
theorem rErr_any (b at_ : Nat) (s : ByteArray) (x : Int) (T : TypeId) (w : World) (h : Rdr w b T s at_ x) :
    Calls Try.prog 33 #[.pointer (some ⟨b, 0, none⟩)] w fun e w' => e = .returned (.int .i64 x) ∧ w = w' := by
  have h2 := h.c2
  clear h
  go_enter Try.func33, Try.ntmps33
  go_wp2_with fail
  go_ret
  exact ⟨rfl, rfl⟩
/-- What End returns. -/
def endV (x : Int) (at_ n : Nat) : Int := if x = 0 ∧ at_ < n then 4 else x
set_option maxHeartbeats 1000000 in
set_option maxRecDepth 100000 in
theorem rEnd_any (b at_ : Nat) (s : ByteArray) (x : Int) (T : TypeId) (w : World) (h : Rdr w b T s at_ x) :
    Calls Try.prog 35 #[.pointer (some ⟨b, 0, none⟩)] w fun e w' => e = .returned (.int .i64 (endV x at_ s.size)) ∧ Below w.heap.size w w' := by
  have h0 := h.c0
  have h1 := h.c1
  have h2 := h.c2
  clear h
  unfold endV
  by_cases hx : x = 0
  · subst hx
    by_cases hlt : at_ < s.size
    · have hlt' : (at_ : Int) < (s.size : Int) := by omega
      rw [if_pos ⟨rfl, hlt⟩]
      go_enter Try.func35, Try.ntmps35
      go_wp2_with fail
      go_quiet (fail)
      go_wp2_with fail
      go_ret
      exact ⟨rfl, below_drewN _ _⟩
    · have hlt' : ¬ (at_ : Int) < (s.size : Int) := by omega
      rw [if_neg (fun h => hlt h.2)]
      go_enter Try.func35, Try.ntmps35
      go_wp2_with fail
      go_quiet (fail)
      go_wp2_with fail
      go_ret
      exact ⟨rfl, below_drewN _ _⟩
  · have hx1 : (x == 0) = false := beq_false_of_ne hx
    rw [if_neg (fun h => hx h.1)]
    clear hx
    go_enter Try.func35, Try.ntmps35
    go_wp2_with fail
    go_quiet (fail)
    go_wp2_with fail
    go_ret
    exact ⟨rfl, below_drewN _ _⟩
end Go.Proofs.Ytglhbjfogbcddaa.Cb
