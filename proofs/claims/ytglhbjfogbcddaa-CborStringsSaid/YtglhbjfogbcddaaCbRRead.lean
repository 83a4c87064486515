/-
  Contracts of the reference's readers of layer 5.
-/
import Derived.Test.YtglhbjfogbcddaaCbRArg
namespace Go.Proofs.Ytglhbjfogbcddaa.Cb
open Go.RowKit

/-- A reader in memory: its bytes, its place, its error. -/
def Rdr (w : World) (b : Nat) (T : TypeId) (s : ByteArray) (at_ : Nat) (e : Int) : Prop := w.heap[b]? = some (.cells #[.string s, .int .i64 (at_ : Int), .int .i64 e] T (0, 0))
theorem Rdr.lt {w : World} {b : Nat} {T : TypeId} {s : ByteArray} {at_ : Nat} {e : Int} (h : Rdr w b T s at_ e) : b < w.heap.size := (Array.getElem?_eq_some_iff.1 h).1
theorem Rdr.c0 {w : World} {b : Nat} {T : TypeId} {s : ByteArray} {at_ : Nat} {e : Int} (h : Rdr w b T s at_ e) : w.cell? ⟨b, 0, none⟩ = some (.string s) := by unfold Rdr at h; simp [World.cell?, h]
theorem Rdr.c1 {w : World} {b : Nat} {T : TypeId} {s : ByteArray} {at_ : Nat} {e : Int} (h : Rdr w b T s at_ e) : w.cell? ⟨b, 1, none⟩ = some (.int .i64 (at_ : Int)) := by unfold Rdr at h; simp [World.cell?, h]
theorem Rdr.c2 {w : World} {b : Nat} {T : TypeId} {s : ByteArray} {at_ : Nat} {e : Int} (h : Rdr w b T s at_ e) : w.cell? ⟨b, 2, none⟩ = some (.int .i64 e) := by unfold Rdr at h; simp [World.cell?, h]
theorem Rdr.fz {w : World} {b : Nat} {T : TypeId} {s : ByteArray} {at_ : Nat} {e : Int} (h : Rdr w b T s at_ e) (j : Nat) : w.frozen? ⟨b, j, none⟩ = false := by unfold Rdr at h; simp [World.frozen?, h]

theorem Rdr.set2 {w : World} {b : Nat} {T : TypeId} {s : ByteArray} {at_ : Nat} {e : Int} (h : Rdr w b T s at_ e) (x : Int) : Rdr (w.setCell ⟨b, 2, none⟩ (.int .i64 x)) b T s at_ x := by
  unfold Rdr at h ⊢
  simp [World.setCell, Array.getElem?_modify, h]
theorem Rdr.set1 {w : World} {b : Nat} {T : TypeId} {s : ByteArray} {at_ : Nat} {e : Int} (h : Rdr w b T s at_ e) (x : Nat) : Rdr (w.setCell ⟨b, 1, none⟩ (.int .i64 (x : Int))) b T s x e := by
  unfold Rdr at h ⊢
  simp [World.setCell, Array.getElem?_modify, h]
theorem Rdr.below {w w' : World} {b : Nat} {T : TypeId} {s : ByteArray} {at_ : Nat} {e : Int} (h : Rdr w b T s at_ e) (hb : Below w.heap.size w w') : Rdr w' b T s at_ e := (hb.block b h.lt).trans h
theorem grown_set (w : World) (b j : Nat) (u : Value) : w.grownBy (w.setCell ⟨b, j, none⟩ u) (some b) :=
  ⟨rfl, rfl, rfl, by simp [World.setCell], fun k _ hk => Below.heap_setCell _ _ _ _ (fun e => hk (by rw [e]))⟩
theorem grown_below {w w' : World} (h : Below w.heap.size w w') (row : Option Nat) : w.grownBy w' row := ⟨h.os, h.tape, h.output, h.size, fun k hk _ => h.block k hk⟩
theorem grown_trans {a b c : World} {row : Option Nat} (h : a.grownBy b row) (k : b.grownBy c row) : a.grownBy c row :=
  ⟨k.os.trans h.os, k.tape.trans h.tape, k.output.trans h.output, Nat.le_trans h.size k.size, fun i hi hr => (k.block i (Nat.lt_of_lt_of_le hi h.size) hr).trans (h.block i hi hr)⟩
/-- What a method of a reader leaves. -/
def RdEnd (b : Nat) (T : TypeId) (s : ByteArray) (v : Value) (at' : Nat) (e' : Int) (w : World) (e : Ending) (w' : World) : Prop := e = .returned v ∧ Rdr w' b T s at' e' ∧ w.grownBy w' (some b)

set_option maxHeartbeats 1000000 in
set_option maxRecDepth 100000 in
theorem rfails_any (b at_ : Nat) (s : ByteArray) (e x : Int) (T : TypeId) (w : World) (h : Rdr w b T s at_ e) :
    Calls Try.prog 44 #[.pointer (some ⟨b, 0, none⟩), .int .i64 x] w (RdEnd b T s (.tuple #[]) at_ x w) := by
  have h2 := h.c2
  have hf := h.fz 2
  have HR := Lib.hid h
  clear h
  go_enter Try.func44, Try.ntmps44
  go_wp2_with fail
  refine bodyPost_end (results_none rfl _ _ _) rfl ?_
  exact ⟨rfl, HR.out.set2 x, grown_set _ _ _ _⟩

set_option maxHeartbeats 2000000 in
set_option maxRecDepth 100000 in
theorem rInt_any (b at_ : Nat) (s : ByteArray) (low high : Int) (T : TypeId) (w : World) (h : Rdr w b T s at_ 0) (hs : s.size ≤ 100000) (hat : at_ ≤ s.size) :
    Calls Try.prog 23 #[.pointer (some ⟨b, 0, none⟩), .int .i64 low, .int .i64 high] w
      (RdEnd b T s (.int .i64 (intF low high (s.data.toList.drop at_)).1) (at_ + (intF low high (s.data.toList.drop at_)).2.1) (intF low high (s.data.toList.drop at_)).2.2 w) := by
  have h2 := h.c2
  have HR := Lib.hid h
  have cA := Lib.hid (fun w' (hb : Below w.heap.size w w') => rarg_any 0 1 b at_ s w' (Nat.lt_of_lt_of_le h.lt hb.size) hs hat (h.below hb).c0 (h.below hb).c1)
  obtain ⟨l, hl⟩ : ∃ l, s.data.toList.drop at_ = l := ⟨_, rfl⟩
  rw [hl] at cA ⊢
  obtain ⟨k, v, n, x, ha⟩ : ∃ k v n x, argF 0 1 l = (k, v, n, x) := ⟨_, _, _, _, rfl⟩
  have cF := Lib.hid (fun y W (hb : Below w.heap.size w W) => rfails_any b at_ s 0 y T W (h.below hb))
  clear h
  by_cases hx : x = 0
  · subst hx
    have hok := arg_ok ha
    have hn : n ≤ l.length := hok.2.2.2.1
    have hv64 := hok.2.2.2.2
    have hk : k = 0 ∨ k = 1 := hok.1
    have hll : l.length ≤ 100000 := by rw [← hl, List.length_drop, ← Lib.size_eq]; omega
    have hn' : (n : Int) ≤ 100000 := by omega
    have hat' : (at_ : Int) ≤ 100000 := by omega
    unfold ArgEnd at cA
    rw [ha] at cA
    clear hok hll hl
    by_cases h63 : 9223372036854775808 ≤ v
    · have hI := Lib.hid (show intF low high l = (0, 0, 5) by unfold intF; rw [ha, if_neg (by simp), if_pos h63])
      rw [hI.out]
      have hd63 : decide ((9223372036854775808 : Int) ≤ (v : Int)) = true := decide_eq_true (by omega)
      clear ha hI h63 hv64
      go_enter Try.func23, Try.ntmps23
      go_wp2_with fail
      refine (cA.out _ (Below.refl _ _)).mono ?_; rintro e w1 ⟨rfl, b1⟩
      go_wp2_with fail
      refine (cF.out _ _ b1).mono ?_; rintro e w2 ⟨rfl, r2, g2⟩
      go_wp2_with fail
      go_ret
      exact ⟨rfl, r2, grown_trans (grown_below b1 _) g2⟩
    · have hd63 : decide ((9223372036854775808 : Int) ≤ (v : Int)) = false := decide_eq_false (by omega)
      have hvi : IntKind.i64.wrap (v : Int) = (v : Int) := IntWalk.i64_in _ (by omega)
      clear hv64
      rcases hk with rfl | rfl
      · skip
        have hX := int_k0 (low := low) (high := high) ha h63
        by_cases hlo : (v : Int) < low
        · have hI := Lib.hid (show intF low high l = (0, 0, 9) by rw [hX, if_pos (Or.inl hlo)])
          rw [hI.out]
          clear ha hI hX h63
          go_enter Try.func23, Try.ntmps23
          go_wp2_with fail
          refine (cA.out _ (Below.refl _ _)).mono ?_; rintro e w1 ⟨rfl, b1⟩
          go_wp2_with fail
          refine (cF.out _ _ b1).mono ?_; rintro e w2 ⟨rfl, r2, g2⟩
          go_wp2_with fail
          go_ret
          exact ⟨rfl, r2, grown_trans (grown_below b1 _) g2⟩
        · by_cases hhi : high < (v : Int)
          · have hI := Lib.hid (show intF low high l = (0, 0, 9) by rw [hX, if_pos (Or.inr hhi)])
            rw [hI.out]
            clear ha hI hX h63
            go_enter Try.func23, Try.ntmps23
            go_wp2_with fail
            refine (cA.out _ (Below.refl _ _)).mono ?_; rintro e w1 ⟨rfl, b1⟩
            go_wp2_with fail
            refine (cF.out _ _ b1).mono ?_; rintro e w2 ⟨rfl, r2, g2⟩
            go_wp2_with fail
            go_ret
            exact ⟨rfl, r2, grown_trans (grown_below b1 _) g2⟩
          · have hI := Lib.hid (show intF low high l = ((v : Int), n, 0) by rw [hX, if_neg (by omega)])
            rw [hI.out]
            have hw : IntKind.i64.wrap ((at_ : Int) + (n : Int)) = (at_ : Int) + (n : Int) := IntWalk.i64_in _ (by omega)
            clear ha hI hX h63
            go_enter Try.func23, Try.ntmps23
            go_wp2_with fail
            refine (cA.out _ (Below.refl _ _)).mono ?_; rintro e w1 ⟨rfl, b1⟩
            have r1 := HR.out.below b1
            have k1 := r1.c1
            have f1 := r1.fz 1
            have r1' := Lib.hid r1
            clear r1
            go_wp2_with fail
            go_ret
            exact ⟨rfl, r1'.out.set1 (at_ + n), grown_trans (grown_below b1 _) (grown_set _ _ _ _)⟩
      · have hvn : IntKind.i64.wrap (-1 - (v : Int)) = -1 - (v : Int) := IntWalk.i64_in _ (by omega)
        have hX := int_k1 (low := low) (high := high) ha h63
        by_cases hlo : -1 - (v : Int) < low
        · have hI := Lib.hid (show intF low high l = (0, 0, 9) by rw [hX, if_pos (Or.inl hlo)])
          rw [hI.out]
          clear ha hI hX h63
          go_enter Try.func23, Try.ntmps23
          go_wp2_with fail
          refine (cA.out _ (Below.refl _ _)).mono ?_; rintro e w1 ⟨rfl, b1⟩
          go_wp2_with fail
          refine (cF.out _ _ b1).mono ?_; rintro e w2 ⟨rfl, r2, g2⟩
          go_wp2_with fail
          go_ret
          exact ⟨rfl, r2, grown_trans (grown_below b1 _) g2⟩
        · by_cases hhi : high < -1 - (v : Int)
          · have hI := Lib.hid (show intF low high l = (0, 0, 9) by rw [hX, if_pos (Or.inr hhi)])
            rw [hI.out]
            clear ha hI hX h63
            go_enter Try.func23, Try.ntmps23
            go_wp2_with fail
            refine (cA.out _ (Below.refl _ _)).mono ?_; rintro e w1 ⟨rfl, b1⟩
            go_wp2_with fail
            refine (cF.out _ _ b1).mono ?_; rintro e w2 ⟨rfl, r2, g2⟩
            go_wp2_with fail
            go_ret
            exact ⟨rfl, r2, grown_trans (grown_below b1 _) g2⟩
          · have hI := Lib.hid (show intF low high l = (-1 - (v : Int), n, 0) by rw [hX, if_neg (by omega)])
            rw [hI.out]
            have hw : IntKind.i64.wrap ((at_ : Int) + (n : Int)) = (at_ : Int) + (n : Int) := IntWalk.i64_in _ (by omega)
            clear ha hI hX h63
            go_enter Try.func23, Try.ntmps23
            go_wp2_with fail
            refine (cA.out _ (Below.refl _ _)).mono ?_; rintro e w1 ⟨rfl, b1⟩
            have r1 := HR.out.below b1
            have k1 := r1.c1
            have f1 := r1.fz 1
            have r1' := Lib.hid r1
            clear r1
            go_wp2_with fail
            go_ret
            exact ⟨rfl, r1'.out.set1 (at_ + n), grown_trans (grown_below b1 _) (grown_set _ _ _ _)⟩
  · have hI := Lib.hid (show intF low high l = (0, 0, x) by unfold intF; rw [ha, if_pos hx])
    have hx1 : (x == 0) = false := beq_false_of_ne hx
    have hx2 : (x != 0) = true := bne_iff_ne.2 hx
    rw [hI.out]
    unfold ArgEnd at cA
    rw [ha] at cA
    clear hx ha hI hl
    go_enter Try.func23, Try.ntmps23
    go_wp2_with fail
    refine (cA.out _ (Below.refl _ _)).mono ?_; rintro e w1 ⟨rfl, b1⟩
    go_wp2_with fail
    refine (cF.out _ _ b1).mono ?_; rintro e w2 ⟨rfl, r2, g2⟩
    go_wp2_with fail
    go_ret
    exact ⟨rfl, r2, grown_trans (grown_below b1 _) g2⟩
end Go.Proofs.Ytglhbjfogbcddaa.Cb
