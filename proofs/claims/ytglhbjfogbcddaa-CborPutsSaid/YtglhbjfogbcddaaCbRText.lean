/-
  Contract of the reference's Text of layer 5.
-/
import Derived.Test.YtglhbjfogbcddaaCbRMore
namespace Go.Proofs.Ytglhbjfogbcddaa.Cb
open Go.RowKit

theorem text_x {most : Int} {l : List UInt8} {k v n : Nat} {x : Int} (ha : argF 2 2 l = (k, v, n, x)) (h : x ≠ 0) : textF most l = ([], 0, x) := by unfold textF; rw [ha, if_pos h]
theorem text_4 {most : Int} {l : List UInt8} {k v n : Nat} (ha : argF 2 2 l = (k, v, n, 0)) (h : most < (v : Int)) : textF most l = ([], 0, 4) := by unfold textF; rw [ha, if_neg (by simp), if_pos h]
theorem text_3 {most : Int} {l : List UInt8} {k v n : Nat} (ha : argF 2 2 l = (k, v, n, 0)) (h : ¬ most < (v : Int)) (h3 : l.length - n < v) : textF most l = ([], 0, 3) := by unfold textF; rw [ha, if_neg (by simp), if_neg h, if_pos h3]
theorem text_v {most : Int} {l : List UInt8} {k v n : Nat} (ha : argF 2 2 l = (k, v, n, 0)) (h : ¬ most < (v : Int)) (h3 : ¬ l.length - n < v) : textF most l = ((l.drop n).take v, n + v, 0) := by unfold textF; rw [ha, if_neg (by simp), if_neg h, if_neg h3]

set_option maxHeartbeats 2000000 in
set_option maxRecDepth 100000 in
theorem rText_any (b at_ : Nat) (s : ByteArray) (most : Int) (T : TypeId) (w : World) (h : Rdr w b T s at_ 0) (hs : s.size ≤ 100000) (hat : at_ ≤ s.size) (hm : most ≤ 9223372036854775807) :
    Calls Try.prog 25 #[.pointer (some ⟨b, 0, none⟩), .int .i64 most] w
      (RdEnd b T s (.string (toS (textF most (s.data.toList.drop at_)).1)) (at_ + (textF most (s.data.toList.drop at_)).2.1) (textF most (s.data.toList.drop at_)).2.2 w) := by
  have h2 := h.c2
  have HR := Lib.hid h
  have cA := Lib.hid (fun w' (hb : Below w.heap.size w w') => rarg_any 2 2 b at_ s w' (Nat.lt_of_lt_of_le h.lt hb.size) hs hat (h.below hb).c0 (h.below hb).c1)
  obtain ⟨l, hl⟩ : ∃ l, s.data.toList.drop at_ = l := ⟨_, rfl⟩
  rw [hl] at cA ⊢
  obtain ⟨k, v, n, x, ha⟩ : ∃ k v n x, argF 2 2 l = (k, v, n, x) := ⟨_, _, _, _, rfl⟩
  have cF := Lib.hid (fun y W (hb : Below w.heap.size w W) => rfails_any b at_ s 0 y T W (h.below hb))
  unfold ArgEnd at cA
  rw [ha] at cA
  have hat' : (at_ : Int) ≤ 100000 := by omega
  have hat2 : (at_ : Int) ≤ (s.size : Int) := by omega
  have hs2 : (s.size : Int) ≤ 100000 := by omega
  clear h
  by_cases hx : x = 0
  · subst hx
    have hok := arg_ok ha
    have hn : n ≤ l.length := hok.2.2.2.1
    have hv64 := hok.2.2.2.2
    have hlen : l.length = s.size - at_ := by rw [← hl, List.length_drop, ← Lib.size_eq]
    have hn' : (n : Int) ≤ (s.size : Int) - (at_ : Int) := by omega
    have q1 : IntKind.i64.wrap ((s.size : Int) - (at_ : Int)) = (s.size : Int) - (at_ : Int) := IntWalk.i64_in _ (by omega)
    have q2 : IntKind.i64.wrap ((s.size : Int) - (at_ : Int) - (n : Int)) = (s.size : Int) - (at_ : Int) - (n : Int) := IntWalk.i64_in _ (by omega)
    have q3 : IntKind.u64.wrap ((s.size : Int) - (at_ : Int) - (n : Int)) = (s.size : Int) - (at_ : Int) - (n : Int) := IntWalk.u64_in _ (by omega)
    clear hok
    by_cases hneg : most < 0
    · rw [text_4 ha (by omega)]
      clear ha hv64 hm hl
      go_enter Try.func25, Try.ntmps25
      go_wp2_with fail
      refine (cA.out _ (Below.refl _ _)).mono ?_; rintro e w1 ⟨rfl, b1⟩
      have r1 := HR.out.below b1
      have k0 := r1.c0
      have k1 := r1.c1
      have f1 := r1.fz 1
      have r1' := Lib.hid r1
      clear r1
      go_wp2_with fail
      go_quiet (fail)
      have hb1 := below_drew' b1 nq
      go_wp2_with fail
      refine (cF.out _ (w1.drewN nq) hb1).mono ?_; rintro e w2 ⟨rfl, r2, g2⟩
      go_wp2_with fail
      go_ret
      exact ⟨rfl, r2, grown_trans (grown_below hb1 _) g2⟩
    · have hu : IntKind.u64.wrap most = most := IntWalk.u64_in _ (by omega)
      by_cases hgt : most < (v : Int)
      · rw [text_4 ha hgt]
        clear ha hv64 hm hl
        go_enter Try.func25, Try.ntmps25
        go_wp2_with fail
        refine (cA.out _ (Below.refl _ _)).mono ?_; rintro e w1 ⟨rfl, b1⟩
        have r1 := HR.out.below b1
        have k0 := r1.c0
        have k1 := r1.c1
        have f1 := r1.fz 1
        have r1' := Lib.hid r1
        clear r1
        go_wp2_with fail
        go_quiet (fail)
        have hb1 := below_drew' b1 nq
        go_wp2_with fail
        refine (cF.out _ (w1.drewN nq) hb1).mono ?_; rintro e w2 ⟨rfl, r2, g2⟩
        go_wp2_with fail
        go_ret
        exact ⟨rfl, r2, grown_trans (grown_below hb1 _) g2⟩
      · by_cases hsh : l.length - n < v
        · rw [text_3 ha hgt hsh]
          have hsh' : (s.size : Int) - (at_ : Int) - (n : Int) < (v : Int) := by omega
          clear ha hv64 hm hl hsh
          go_enter Try.func25, Try.ntmps25
          go_wp2_with fail
          refine (cA.out _ (Below.refl _ _)).mono ?_; rintro e w1 ⟨rfl, b1⟩
          have r1 := HR.out.below b1
          have k0 := r1.c0
          have k1 := r1.c1
          have f1 := r1.fz 1
          have r1' := Lib.hid r1
          clear r1
          go_wp2_with fail
          go_quiet (fail)
          have hb1 := below_drew' b1 nq
          go_wp2_with fail
          refine (cF.out _ (w1.drewN nq) hb1).mono ?_; rintro e w2 ⟨rfl, r2, g2⟩
          go_wp2_with fail
          go_ret
          exact ⟨rfl, r2, grown_trans (grown_below hb1 _) g2⟩
        · rw [text_v ha hgt hsh]
          have hsh' : ¬ (s.size : Int) - (at_ : Int) - (n : Int) < (v : Int) := by omega
          have hvb : (v : Int) ≤ (s.size : Int) - (at_ : Int) - (n : Int) := by omega
          have hx := Lib.hid (show s.extract (at_ + n) (at_ + n + v) = toS ((l.drop n).take v) by
            rw [Lib.extract_eq, ← hl, List.drop_drop, show at_ + n + v - (at_ + n) = v by omega]; rfl)
          have p1 : IntKind.i64.wrap (v : Int) = (v : Int) := IntWalk.i64_in _ (by omega)
          have p2 : IntKind.i64.wrap ((at_ : Int) + (n : Int)) = (at_ : Int) + (n : Int) := IntWalk.i64_in _ (by omega)
          have p3 : IntKind.i64.wrap ((at_ : Int) + (n : Int) + (v : Int)) = (at_ : Int) + (n : Int) + (v : Int) := IntWalk.i64_in _ (by omega)
          have p4 : (0 : Int) ≤ (at_ : Int) + (n : Int) := by omega
          have p5 : (0 : Int) ≤ (at_ : Int) + (n : Int) + (v : Int) := by omega
          have p6 : (at_ : Int) + (n : Int) + (v : Int) ≤ (s.size : Int) := by omega
          have p7 : (at_ : Int) + (n : Int) ≤ (at_ : Int) + (n : Int) + (v : Int) := by omega
          have p8 : ((at_ : Int) + (n : Int)).toNat = at_ + n := by omega
          have p9 : ((at_ : Int) + (n : Int) + (v : Int)).toNat = at_ + n + v := by omega
          clear ha hv64 hm hl hsh hlen
          go_enter Try.func25, Try.ntmps25
          go_wp2_with fail
          refine (cA.out _ (Below.refl _ _)).mono ?_; rintro e w1 ⟨rfl, b1⟩
          have r1 := HR.out.below b1
          have k0 := r1.c0
          have k1 := r1.c1
          have f1 := r1.fz 1
          have r1' := Lib.hid r1
          clear r1
          go_wp2_with fail
          go_quiet (fail)
          have hb1 := below_drew' b1 nq
          go_wp2_with fail
          revert nq; intro nq0 hb1
          go_quiet (fail)
          go_wp2_with fail
          go_ret
          refine ⟨by rw [← hx.out]; rfl, ?_, grown_trans (grown_below (b1.trans (below_drewN w1 _ |>.mono b1.size)) _) (grown_set _ _ _ _)⟩
          rw [← Nat.add_assoc]
          exact Rdr.set1 (w := w1.drewN _) r1'.out (at_ + n + v)
  · rw [text_x ha hx]
    have hx1 : (x == 0) = false := beq_false_of_ne hx
    have hx2 : (x != 0) = true := bne_iff_ne.2 hx
    clear hx ha hl hm
    go_enter Try.func25, Try.ntmps25
    go_wp2_with fail
    refine (cA.out _ (Below.refl _ _)).mono ?_; rintro e w1 ⟨rfl, b1⟩
    have r1 := HR.out.below b1
    have k0 := r1.c0
    have k1 := r1.c1
    have f1 := r1.fz 1
    have r1' := Lib.hid r1
    clear r1
    go_wp2_with fail
    go_quiet (fail)
    have hb1 := below_drew' b1 nq
    go_wp2_with fail
    refine (cF.out _ (w1.drewN nq) hb1).mono ?_; rintro e w2 ⟨rfl, r2, g2⟩
    go_wp2_with fail
    go_ret
    exact ⟨rfl, r2, grown_trans (grown_below hb1 _) g2⟩
end Go.Proofs.Ytglhbjfogbcddaa.Cb
