/-
  Contract of the program of layer 8: Gaps.
-/
import Derived.Test.YtmfhjgddpkecfaaSpP5
namespace Go.Proofs.Ytmfhjgddpkecfaa.Sp
open Go.RowKit

theorem cell_past_one {w : World} {k i : Nat} {x : Value} {T : TypeId} (h : w.heap[k]? = some (.cells #[x] T (0, 0))) : w.cell? ⟨k, i + 1, none⟩ = none := by
  simp [World.cell?, h]
/-- Spans lie in no block of one cell. -/
theorem SpnAt.ne_one {w : World} {b off c k : Nat} {l : List Spn} {x : Value} {T : TypeId} (h : SpnAt w b off c l) (hl : 0 < l.length) (hk : w.heap[k]? = some (.cells #[x] T (0, 0))) : b ≠ k := by
  rintro rfl
  have := (h.at_ 0 l[0] (List.getElem?_eq_getElem hl)).2
  rw [show off + 0 * 2 + 1 = off + 1 by omega, cell_past_one hk] at this
  cases this
/-- Behind w1 all blocks below B but two are as they were. -/
def KeepB (w1 : World) (B b a : Nat) (W : World) : Prop := ∀ k, k < B → k ≠ b → k ≠ a → W.heap[k]? = w1.heap[k]?
theorem KeepB.unt {w1 w2 W : World} {B b a : Nat} {v : Value} {O : List Spn} (h : KeepB w1 B b a W) (own : OwnS W B v O) (hB : B ≤ W.heap.size) (u : Untouched W b v w2) : KeepB w1 B b a w2 := fun k hk h1 h2 =>
  (u k (by omega) h1 (fun e => by have := OwnS.lt own k e; omega)).trans (h k hk h1 h2)
theorem KeepB.alloc {w1 W : World} {B b a : Nat} (h : KeepB w1 B b a W) (hB : B ≤ W.heap.size) (o : Obj) : KeepB w1 B b a (W.alloc o) := fun k hk h1 h2 =>
  (Below.heap_alloc _ _ _ (by omega)).trans (h k hk h1 h2)
theorem KeepB.setA {w1 W : World} {B b a : Nat} (h : KeepB w1 B b a W) (u : Value) : KeepB w1 B b a (W.setCell ⟨a, 0, none⟩ u) := fun k hk h1 h2 =>
  (Below.heap_setCell _ _ _ _ h2).trans (h k hk h1 h2)
theorem KeepB.cell {w1 W : World} {B b a : Nat} (h : KeepB w1 B b a W) {k i : Nat} (hk : k < B) (h1 : k ≠ b) (h2 : k ≠ a) : W.cell? ⟨k, i, none⟩ = w1.cell? ⟨k, i, none⟩ := World.cell?_of_block (w := w1) (h k hk h1 h2)
theorem BoxS.setA {W : World} {a b B : Nat} {O : List Spn} {x : Int} (h : BoxS W b B O) (ha : W.heap[a]? = some (.cells #[.int .i64 x] 3 (0, 0))) (u : Value) : BoxS (W.setCell ⟨a, 0, none⟩ u) b B O := by
  obtain ⟨v, h1, h2⟩ := h
  exact ⟨v, (Below.heap_setCell _ _ _ _ (int_ne_box ha h1).symm).trans h1, ownsRow_setCell_other h2 (int_ne_own h2 ha) u⟩
theorem ga_next {e t : Int} {c O U : List Spn} {j : Nat} {x : Spn} (hx : c[j]? = some x) (h : O ++ gaL e t (c.drop j) = U) : O ++ (if t < min x.1 e then [(t, min x.1 e)] else []) ++ gaL e (max t x.2) (c.drop (j + 1)) = U := by
  rw [drop_at hx, gaL, ← List.append_assoc] at h
  exact h
theorem ga_last {e t : Int} {c O U : List Spn} (h : O ++ gaL e t (c.drop c.length) = U) : O ++ (if t < e then [(t, e)] else []) = U := by
  rw [List.drop_length, gaL] at h
  exact h
theorem gap_ret {a : Act} {W : World} {g : Nat} {p : Option Addr} {k c : Nat} {R : Ending → World → Prop} (hp : a.tmps.getD 4 undef = .pointer (some ⟨g, 0, none⟩)) (hc : W.cell? ⟨g, 0, none⟩ = some (.slice p k c)) (hdf : a.defers = []) (hR : R (.returned (.slice p k c)) W) :
    bodyPost Try.prog Try.f29 R .ret a W := by
  refine bodyPost_ret (v := .slice p k c) ?_ hdf hR
  have hagg : (isAgg 22).run Try.prog W = .ok false W := by
    unfold isAgg
    rw [Sem.run_bind, run_underlying Try.underlying22 W]
    rfl
  have hl : (loadVar 22 ⟨g, 0, none⟩).run Try.prog W = .ok (.slice p k c) W := by
    unfold loadVar
    rw [Sem.run_bind, hagg]
    simp [Result.andThen, hc]
  have hp' : a.tmps[4]?.getD undef = .pointer (some ⟨g, 0, none⟩) := by simpa using hp
  simp [results, hp', asAddr, hl]
set_option maxHeartbeats 4000000 in
set_option maxRecDepth 100000 in
theorem pgaps_any (l : List Spn) (p q : Int) (v : Value) (w : World) (hl : Spns w v l) (hll : l.length ≤ 20000) :
    Calls Try.prog 29 #[v, .agg #[.int .i64 p, .int .i64 q]] w (NoEnd (gaL q p (normL l)) w) := by
  have hcl := norm_len l
  obtain ⟨W0, hW0⟩ : ∃ W0, w.alloc (.cells #[.int .i64 p, .int .i64 q] 38) = W0 := ⟨_, rfl⟩
  obtain ⟨W1, hW1⟩ : ∃ W1, (W0.alloc (.cells #[.slice none 0 0] 22)) = W1 := ⟨_, rfl⟩
  obtain ⟨W2, hW2⟩ : ∃ W2, (W1.alloc (.cells #[.int .i64 p] 3)) = W2 := ⟨_, rfl⟩
  have s0 : W0.heap.size = w.heap.size + 1 := by rw [← hW0]; exact size_alloc _ _
  have s1 : W1.heap.size = w.heap.size + 2 := by rw [← hW1, size_alloc, s0]
  have s2 : W2.heap.size = w.heap.size + 3 := by rw [← hW2, size_alloc, s1]
  have c1 := Lib.hid (fun W (h : Below w.heap.size w W) => pnormal_rec l.length l v W rfl hll (hl.below h))
  obtain ⟨C, hC⟩ : ∃ C, normL l = C := ⟨_, rfl⟩
  obtain ⟨U, hU⟩ : ∃ U, gaL q p (normL l) = U := ⟨_, rfl⟩
  rw [hU]
  rw [hC] at c1 hU hcl
  have HU := Lib.hid hU
  have hcl : C.length ≤ 20000 := by omega
  obtain ⟨pv, cv, rfl⟩ := hl.nil
  obtain ⟨N, hN⟩ : ∃ N, l.length = N := ⟨_, rfl⟩
  rw [hN] at c1 ⊢
  obtain ⟨n, hn⟩ : ∃ n, w.heap.size = n := ⟨_, rfl⟩
  have b0 : Below n w W0 := by rw [← hW0, ← hn]; exact alloc_below w _
  have z0 := World.cell?_alloc_mark w #[.int .i64 p, .int .i64 q] 38 (0, 0)
  rw [hW0, hn] at z0
  have b1 : Below (n + 1) W0 W1 := by rw [← hW1]; exact (Below.refl (n + 1) W0).alloc (by omega) _
  have b2 : Below (n + 1) W1 W2 := by rw [← hW2]; exact (Below.refl (n + 1) W1).alloc (by omega) _
  have g1 : W1.heap[n + 1]? = some (.cells #[.slice none 0 0] 22 (0, 0)) := by
    have := heap_alloc_new W0 (.cells #[.slice none 0 0] 22)
    rw [hW1, s0, hn] at this
    exact this
  have g2 : W2.heap[n + 1]? = some (.cells #[.slice none 0 0] 22 (0, 0)) := by
    have := Below.heap_alloc W1 (.cells #[.int .i64 p] 3) (n + 1) (by omega)
    rw [hW2] at this
    exact this.trans g1
  have g3 : W2.heap[n + 2]? = some (.cells #[.int .i64 p] 3 (0, 0)) := by
    have := heap_alloc_new W1 (.cells #[.int .i64 p] 3)
    rw [hW2, s1, hn] at this
    exact this
  have ZZ := Lib.hid (fun W (h : Below (n + 1) W0 W) => (⟨(h.cell (Nat.lt_succ_self n)).trans (z0 0), (h.cell (Nat.lt_succ_self n)).trans (z0 1)⟩ : W.cell? ⟨n, 0, none⟩ = some (.int .i64 p) ∧ W.cell? ⟨n, 1, none⟩ = some (.int .i64 q)))
  have y1 := (ZZ.out W1 b1).1
  have B2 := Lib.hid (b1.trans b2)
  have B0 := Lib.hid b0
  have G2 := Lib.hid g2
  have G3 := Lib.hid g3
  rw [hn] at s0 s1 s2
  clear hl hll hN hC hU z0 b1 b2 g1 g2 g3 b0
  go_enter Try.func29, Try.ntmps29
  go_wp2_with fail
  refine (c1.out _ ((B0.out.trans (B2.out.mono (Nat.le_succ n))).mono (by omega))).mono ?_; rintro e w3 ⟨v3, rfl, n3, k3⟩
  obtain ⟨p3, c3, rfl⟩ := n3.nil
  obtain ⟨B, hB⟩ : ∃ B, w3.heap.size = B := ⟨_, rfl⟩
  have hBn : n + 3 ≤ B := by have := k3.size; omega
  have N3 := Lib.hid n3
  have k4 := Lib.hid (B2.out.trans (k3.mono (by omega)))
  have g2 := Lib.hid ((k3.block (n + 1) (by omega)).trans G2.out)
  have g3 := Lib.hid ((k3.block (n + 2) (by omega)).trans G3.out)
  clear n3 k3 c1 G2 G3 B2 y1 s1 s2 hW1 hW2
  have hkb := Lib.hid (show KeepB w3 B (n + 1) (n + 2) w3 from fun k _ _ _ => rfl)
  go_wp2_with fail
  go_loopw [15] (fun iv wr => ∃ (j : Nat) (O : List Spn) (t : Int), iv = .int .i64 (j : Int) ∧ j ≤ C.length ∧ O.length ≤ j ∧ Hid (BoxS wr (n + 1) B O) ∧ Hid (wr.heap[n + 2]? = some (.cells #[.int .i64 t] 3 (0, 0))) ∧ Hid (Below (n + 1) W0 wr) ∧ Hid (KeepB w3 B (n + 1) (n + 2) wr) ∧ B ≤ wr.heap.size ∧ Hid (O ++ gaL q t (C.drop j) = U)) (fun iv _ => C.length - (intOf iv).toNat)
  case atStart => exact ⟨0, [], p, rfl, Nat.zero_le _, Nat.le_refl _, ⟨_, g2.out, OwnS.nil _ _⟩, g3.out, k4.out, hkb.out, Nat.le_of_eq hB.symm, HU.out⟩
  case round =>
    clear HU k4 hkb
    obtain ⟨j, O, t, rfl, hj, hOj, HX, hA, hK, hkb, hBr, hU⟩ := hrel
    by_cases hlt : j < C.length
    · have hlt' : (j : Int) < (C.length : Int) := by omega
      obtain ⟨x, hx⟩ : ∃ x, C[j]? = some x := ⟨_, List.getElem?_eq_getElem hlt⟩
      obtain ⟨bc, oc, c4, e1, a1⟩ := N3.out.open (by omega)
      simp only [Value.slice.injEq] at e1
      obtain ⟨rfl, -, rfl⟩ := e1
      obtain ⟨x0, x1⟩ := a1.at_ j x hx
      have lc := a1.lt
      have d1 := a1.ne_one (by omega) g2.out
      have d2 := a1.ne_one (by omega) g3.out
      replace x0 := (hkb.out.cell (by omega) d1 d2).trans x0
      replace x1 := (hkb.out.cell (by omega) d1 d2).trans x1
      have hn2 := ga_next hx hU.out
      obtain ⟨xp, xq⟩ := x
      simp only at x0 x1 hn2
      rw [max_if, min_if] at hn2
      obtain ⟨P, hP⟩ : ∃ P, (if q < xp then q else xp) = P := ⟨_, rfl⟩
      obtain ⟨R, hR⟩ : ∃ R, (if t < xq then xq else t) = R := ⟨_, rfl⟩
      rw [hP, hR] at hn2
      have hnx := Lib.hid hn2
      obtain ⟨W4, hW4⟩ : ∃ W4, wr.alloc (.cells #[.int .i64 xp, .int .i64 xq] 38) = W4 := ⟨_, rfl⟩
      have A4 : Below wr.heap.size wr W4 := by rw [← hW4]; exact alloc_below _ _
      have s4 : W4.heap.size = wr.heap.size + 1 := by rw [← hW4]; exact size_alloc _ _
      have z4 := World.cell?_alloc_mark wr #[.int .i64 xp, .int .i64 xq] 38 (0, 0)
      rw [hW4] at z4
      have q0 : W4.cell? ⟨wr.heap.size, 0, none⟩ = some (.int .i64 xp) := z4 0
      have q1 := Lib.hid (show W4.cell? ⟨wr.heap.size, 1, none⟩ = some (.int .i64 xq) from z4 1)
      have K4 := Lib.hid (hK.out.trans (A4.mono (by have := hK.out.size; omega)))
      have w4 := (ZZ.out _ K4.out).2
      have X4 := Lib.hid (HX.out.below A4)
      have hA4 := Lib.hid ((A4.block (n + 2) (by omega)).trans hA.out)
      have kb4 := Lib.hid (show KeepB w3 B (n + 1) (n + 2) W4 from by rw [← hW4]; exact hkb.out.alloc hBr _)
      obtain ⟨v4, hv4, own4⟩ := X4.out
      have hv4 := Lib.hid hv4
      have own4r := OwnS.lt own4
      have hne4 : v4.ownBlock ≠ some wr.heap.size := by
        obtain ⟨v, hv, own⟩ := HX.out
        have e : v4 = v := by
          have := hv4.out.symm.trans ((A4.block (n + 1) (by omega)).trans hv)
          simpa using this
        subst e
        intro e
        rcases own.form with ⟨rfl, -⟩ | ⟨g, c, rfl, -, hg⟩
        · cases e
        · have : g = wr.heap.size := by simpa [Value.ownBlock] using e
          omega
      have own4 := Lib.hid own4
      clear hx a1 hU hn2 HX hA hK hkb z4 A4
      go_wp2_with fail
      refine (puntil_any O t P (n + 2) (n + 1) B (n + 1) v4 W4 hA4.out hv4.out own4.out (Nat.le_refl _) (by omega) (by omega) (by omega)).mono ?_; rintro e w5 ⟨⟨rfl, X5, k5⟩, u5⟩
      have hol : (O ++ (if t < P then [(t, P)] else [])).length ≤ j + 1 := by
        rw [List.length_append]
        split <;> simp only [List.length_cons, List.length_nil] <;> omega
      have a5 := (u5 (n + 2) (by omega) (by omega) (int_ne_own own4.out hA4.out)).trans hA4.out
      have r1 := (World.cell?_of_block (w := W4) (u5 wr.heap.size (by omega) (by omega) hne4)).trans q1.out
      have r0 := cell_of_one a5
      have f5 := free_of_one a5
      have hsz : B ≤ w5.heap.size := by have := k5.size; omega
      have Z : Hid (BoxS (w5.setCell ⟨n + 2, 0, none⟩ (.int .i64 R)) (n + 1) B (O ++ (if t < P then [(t, P)] else [])) ∧ (w5.setCell ⟨n + 2, 0, none⟩ (.int .i64 R)).heap[n + 2]? = some (.cells #[.int .i64 R] 3 (0, 0)) ∧ Below (n + 1) W0 (w5.setCell ⟨n + 2, 0, none⟩ (.int .i64 R)) ∧ KeepB w3 B (n + 1) (n + 2) (w5.setCell ⟨n + 2, 0, none⟩ (.int .i64 R)) ∧ B ≤ (w5.setCell ⟨n + 2, 0, none⟩ (.int .i64 R)).heap.size) :=
        ⟨X5.setA a5 _, one_setCell a5, (K4.out.trans k5).setCell (p := ⟨n + 2, 0, none⟩) (Nat.le_succ _) _, (kb4.out.unt own4.out (by omega) u5).setA _, by simpa [World.setCell] using hsz⟩
      clear X5 k5 u5 a5 q0 hW4 s4 own4r kb4 K4 X4 hA4 hne4 own4 hv4 w4 x0 x1 hP
      go_wp2_with fail
      exact ⟨⟨j + 1, _, R, rfl, hlt, hol, Z.out.1, Z.out.2.1, Z.out.2.2.1, Z.out.2.2.2.1, Z.out.2.2.2.2, hnx.out⟩, by simp [intOf]; omega⟩
    · obtain rfl : j = C.length := by omega
      have hlt' : ¬ (C.length : Int) < (C.length : Int) := by omega
      have hlst := Lib.hid (ga_last hU.out)
      obtain ⟨v4, hv4, own4⟩ := HX.out
      have hv4 := Lib.hid hv4
      have own4 := Lib.hid own4
      have w4 := (ZZ.out _ hK.out).2
      clear hU
      go_wp2_with fail
      refine (puntil_any O t q (n + 2) (n + 1) B (n + 1) v4 _ hA.out hv4.out own4.out (Nat.le_refl _) (by omega) hBr (by omega)).mono ?_; rintro e w5 ⟨⟨rfl, X5, k5⟩, -⟩
      obtain ⟨v5, hv5, own5⟩ := X5
      rw [hlst.out] at own5
      obtain ⟨p5, c5, rfl, -⟩ := own5.shape
      have own5 := Lib.hid own5
      have hv5' := Lib.hid hv5
      have r5 := cell_of_one hv5
      have f5 := free_of_one hv5
      have K5 := Lib.hid (hK.out.trans k5)
      clear hv5 k5 own4 hv4 hA HX w4
      go_wp2_with fail
      have c6 := cell_of_one (one_setCell (u := .slice p5 U.length c5) hv5'.out)
      have O6 : Hid (OwnS (w5.setCell ⟨n + 1, 0, none⟩ (.slice p5 U.length c5)) B (.slice p5 U.length c5) U) := ownsRow_setCell_other own5.out (own_ne_box own5.out hv5'.out) (.slice p5 U.length c5)
      have K6 := Lib.hid (K5.out.setCell (p := ⟨n + 1, 0, none⟩) (Nat.le_refl _) (.slice p5 U.length c5))
      generalize w5.setCell ⟨n + 1, 0, none⟩ (.slice p5 U.length c5) = W6 at c6 O6 K6 ⊢
      refine gap_ret (g := n + 1) rfl c6 rfl ?_
      refine ⟨_, rfl, OwnS.mono O6.out (by omega), ?_⟩
      rw [hn]
      exact B0.out.trans (K6.out.mono (Nat.le_succ n))
end Go.Proofs.Ytmfhjgddpkecfaa.Sp
