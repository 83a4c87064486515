/-
  Contracts of the program of layer 8: the two closures (what merge and Gaps add one span with).
-/
import Derived.Test.YtmfhjgddpkecfaaSpP1
namespace Go.Proofs.Ytmfhjgddpkecfaa.Sp
open Go.RowKit

def BoxEnd (w : World) (b B : Nat) (O : List Spn) (e : Ending) (w' : World) : Prop := e = .returned (.tuple #[]) ∧ BoxS w' b B O ∧ Below B w w'
theorem big_alloc {B : Nat} {w : World} (h : B ≤ w.heap.size) (o : Obj) : B ≤ (w.alloc o).heap.size := by
  show B ≤ (w.heap.push _).size
  rw [Array.size_push]; omega
theorem size_alloc (w : World) (o : Obj) : (w.alloc o).heap.size = w.heap.size + 1 := by show (w.heap.push _).size = _; rw [Array.size_push]
theorem news2_at (W : World) (a b : Value) {k : Nat} (hk : W.heap.size = k) : ∀ j u, [a, b][j]? = some u → (W.alloc (.cells #[a, b] 38)).cell? ((⟨k, 0, none⟩ : Addr).add j) = some u := by
  subst hk
  exact news2 W a b
/-- Behind an append to what the variable holds, and the store of the new slice. -/
theorem box_grown {w0 w1 w2 : World} {b B B0 : Nat} {v v' u : Value} {O O' : List Spn} (hb : w0.heap[b]? = some (.cells #[u] 22 (0, 0))) (h01 : Below w0.heap.size w0 w1) (own : OwnS w1 B v O) (hB : B0 ≤ b) (hBB : B0 ≤ B)
    (hg : w1.grownBy w2 v.ownBlock) (own2 : OwnS w2 B v' O') : BoxS (w2.setCell ⟨b, 0, none⟩ v') b B O' ∧ Below B0 w0 (w2.setCell ⟨b, 0, none⟩ v') := by
  have hlt := lt_of_block hb
  have hb1 := (h01.block b hlt).trans hb
  have hb2 : w2.heap[b]? = some (.cells #[u] 22 (0, 0)) := (hg.block b (lt_of_block hb1) (own_ne_box own hb1).symm).trans hb1
  exact ⟨box_put hb2 own2, ((h01.mono (by omega)).grown hg (Nat.le_trans (by omega) h01.size) (fun j hj => Nat.le_trans hBB (OwnS.lt own j hj))).setCell hB v'⟩
/-- What is read of the variable and may be written to it behind an append. -/
theorem box_seen {w0 w1 w2 : World} {b B : Nat} {v u : Value} {O : List Spn} (hb : w0.heap[b]? = some (.cells #[u] 22 (0, 0))) (h01 : Below w0.heap.size w0 w1) (own : OwnS w1 B v O)
    (hg : w1.grownBy w2 v.ownBlock) : w2.frozen? ⟨b, 0, none⟩ = false ∧ w2.cell? ⟨b, 0, none⟩ = some u := by
  have hlt := lt_of_block hb
  have hb1 := (h01.block b hlt).trans hb
  have hb2 := (hg.block b (lt_of_block hb1) (own_ne_box own hb1).symm).trans hb1
  exact ⟨free_of_one hb2, cell_of_one hb2⟩
/-- Behind a store into the row of what the variable holds. -/
theorem box_set {w0 w1 : World} {b B g c : Nat} {d : List Spn} {x : Spn} {z : Int} (hb : w0.heap[b]? = some (.cells #[.slice (some ⟨g, 0, none⟩) (d.length + 1) c] 22 (0, 0))) (h01 : Below w0.heap.size w0 w1) (own : OwnS w1 B (.slice (some ⟨g, 0, none⟩) (d.length + 1) c) (d ++ [x])) (hB : B ≤ b) (hg : B ≤ g) :
    BoxS (w1.setCell ⟨g, d.length * 2 + 1, none⟩ (.int .i64 z)) b B (d ++ [(x.1, z)]) ∧ Below B w0 (w1.setCell ⟨g, d.length * 2 + 1, none⟩ (.int .i64 z)) := by
  have hlt := lt_of_block hb
  have hb1 := (h01.block b hlt).trans hb
  have hne := own_ne_box own hb1
  have h2 := own.setB (get_last d x) z
  rw [set_last] at h2
  exact ⟨⟨_, (Below.heap_setCell _ _ _ _ (fun e => hne (by rw [e]; rfl))).trans hb1, h2⟩, (h01.mono (by omega)).setCell hg _⟩
set_option maxHeartbeats 4000000 in
set_option maxRecDepth 100000 in
theorem padd_any (O : List Spn) (p q : Int) (b B : Nat) (w : World) (hb : BoxS w b B O) (hB : B ≤ b) (hO : O.length ≤ 100000) :
    Calls Try.prog 34 #[.agg #[.int .i64 p, .int .i64 q], .pointer (some ⟨b, 0, none⟩)] w (BoxEnd w b B (adF O (p, q))) := by
  obtain ⟨v, hb, own⟩ := hb
  have hbl := lt_of_block hb
  obtain ⟨i0, hi0, hz0, hz1, hz2⟩ := info_parts info_spn
  have cB := cell_of_one hb
  have fB := free_of_one hb
  have hBs : B ≤ w.heap.size := by omega
  have FB := Lib.hid (fun n => below_drewN ((Below.refl w.heap.size w).alloc (Nat.le_refl _) (.cells #[.int .i64 p, .int .i64 q] 38)) n)
  have FZ := Lib.hid (fun n => (show B ≤ ((w.alloc (.cells #[.int .i64 p, .int .i64 q] 38)).drewN n).heap.size from big_alloc hBs _))
  have HB := Lib.hid hb
  have HO := Lib.hid own
  rcases List.eq_nil_or_concat O with rfl | ⟨d, c, rfl⟩
  · rw [ad_nil]
    obtain ⟨pv, cv, rfl, -⟩ := own.shape
    have room := Lib.hid (room2 (n := 0) (by decide))
    have FO := Lib.hid (fun n => (show OwnS ((w.alloc (.cells #[.int .i64 p, .int .i64 q] 38)).drewN n) B (.slice pv 0 cv) [] from HO.out.alloc _))
    clear own hb
    go_enter Try.func34, Try.ntmps34
    go_wp2_with fail
    go_quiet (fail)
    go_wp2_with (((at_builtin; refine wpList_append_own _ rfl _ _ 22 rfl B 38 i0 (.agg #[.int .i64 0, .int .i64 0]) 2 16 Try.underlying22 hi0 hz0 hz1 hz2 rfl (by decide) _ _ _ rfl (OwnS.alloc (FO.out _) _) ⟨w.heap.size + 1, 0, none⟩ 1 1 [.int .i64 p, .int .i64 q] rfl rfl (news2_at _ _ _ (size_alloc _ _)) (ones2 _ _) room.out.1 room.out.2 (big_alloc (FZ.out _) _) ?_)))
    intro v' w6 hown' hgrow _
    have own6 : OwnS w6 B v' [(p, q)] := OwnS.snoc (l := []) hown'
    have R := Lib.hid (box_grown HB.out ((FB.out _).alloc (FB.out _).size _) ((FO.out _).alloc _) hB (Nat.le_refl _) hgrow own6)
    obtain ⟨p6, c6, rfl, -⟩ := own6.shape
    have ⟨f6, g6⟩ := box_seen HB.out ((FB.out _).alloc (FB.out _).size _) ((FO.out _).alloc _) hgrow
    clear own6 hown' hgrow FO FB FZ HB HO
    go_wp2_with fail
    (try simp only [Exit.inBlock, Exit.then]); refine bodyPost_ret (results_none rfl _ _ _) rfl ?_
    exact ⟨rfl, R.out.1, R.out.2⟩
  · rw [List.concat_eq_append] at *
    obtain ⟨cp, cq⟩ := c
    rcases own.form with ⟨-, h0⟩ | ⟨g, cc, rfl, hg, hgl⟩
    · exact absurd h0 (by simp)
    have hdl : d.length ≤ 100000 := by rw [List.length_append] at hO; have : ([(cp, cq)] : List Spn).length = 1 := rfl; omega
    have e0 : (d ++ [(cp, cq)]).length = d.length + 1 := by rw [List.length_append]; rfl
    have x0 := own.at_ (get_last d (cp, cq))
    have fz := own.frozen (d.length * 2 + 1)
    have HG := Lib.hid (fun z W (h : Below w.heap.size w W) => box_set (z := z) (by rw [e0] at hb; exact hb) h (by have := HO.out.below h; rw [e0] at this; exact this) hB hg)
    obtain ⟨c0, c1⟩ := x0
    simp only at c0 c1
    rw [e0] at cB HO hb
    by_cases hlt : cq < p
    · rw [ad_next hlt]
      have room := Lib.hid (room2 (n := (d ++ [(cp, cq)]).length) (by omega))
      have FO := Lib.hid (fun n => (show OwnS ((w.alloc (.cells #[.int .i64 p, .int .i64 q] 38)).drewN n) B (.slice (some ⟨g, 0, none⟩) (d.length + 1) cc) (d ++ [(cp, cq)]) from HO.out.alloc _))
      have HB := Lib.hid hb
      obtain ⟨M, hM⟩ : ∃ M, d.length = M := ⟨_, rfl⟩
      have HM := Lib.hid hM
      obtain ⟨L, hL⟩ : ∃ L, d ++ [(cp, cq)] = L := ⟨_, rfl⟩
      rw [hL] at FO e0 room ⊢
      rw [hM] at cB HB c0 c1 FO hdl e0
      have HE := Lib.hid e0
      have hM0 : ¬ (M : Int) < 0 := by omega
      have hM1 : decide ((M : Int) < 0) = false := decide_eq_false hM0
      clear own hb HG hM hL fz e0 hO HO
      go_enter Try.func34, Try.ntmps34
      go_wp2_with fail
      go_quiet (fail)
      go_wp2_with (((at_builtin; refine wpList_append_own _ rfl _ _ 22 rfl B 38 i0 (.agg #[.int .i64 0, .int .i64 0]) 2 16 Try.underlying22 hi0 hz0 hz1 hz2 rfl (by decide) _ _ _ rfl (OwnS.alloc (FO.out _) _) ⟨w.heap.size + 1, 0, none⟩ 1 1 [.int .i64 p, .int .i64 q] rfl rfl (news2_at _ _ _ (size_alloc _ _)) (ones2 _ _) room.out.1 room.out.2 (big_alloc (FZ.out _) _) ?_)))
      intro v' w6 hown' hgrow _
      have own6 : OwnS w6 B v' (L ++ [(p, q)]) := OwnS.snoc hown'
      have R := Lib.hid (box_grown HB.out ((FB.out _).alloc (FB.out _).size _) ((FO.out _).alloc _) hB (Nat.le_refl _) hgrow own6)
      obtain ⟨p6, c6, rfl, -⟩ := own6.shape
      have ⟨f6, g6⟩ := box_seen HB.out ((FB.out _).alloc (FB.out _).size _) ((FO.out _).alloc _) hgrow
      clear own6 hown' hgrow FO FB FZ HB HE
      go_wp2_with fail
      (try simp only [Exit.inBlock, Exit.then]); refine bodyPost_ret (results_none rfl _ _ _) rfl ?_
      have R1 := R.out.1
      have R2 := R.out.2
      rw [List.length_append] at R1 R2
      exact ⟨rfl, R1, R2⟩
    · rw [ad_merge hlt]
      have HQ := Lib.hid (max_if cq q)
      have HG2 := Lib.hid (fun n => HG.out (if cq < q then q else cq) _ (FB.out n))
      have HX : Hid (d ++ [(cp, if cq < q then q else cq)] = d ++ [(cp, max cq q)]) := by unfold Hid; rw [max_if]
      obtain ⟨M, hM⟩ : ∃ M, d.length = M := ⟨_, rfl⟩
      rw [hM] at cB c0 c1 hdl HG2 fz
      have hM0 : ¬ (M : Int) < 0 := by omega
      have hM1 : decide ((M : Int) < 0) = false := decide_eq_false hM0
      obtain ⟨L, hL⟩ : ∃ L, d ++ [(cp, max cq q)] = L := ⟨_, rfl⟩
      rw [hL] at HX ⊢
      have HX2 := Lib.hid (HX.out ▸ HG2)
      clear own hb HG e0 hO HO HB HQ hM hL FZ FB HG2 HX
      go_enter Try.func34, Try.ntmps34
      go_wp2_with fail
      go_quiet (fail)
      go_wp2_with fail
      go_region
      go_end0
      exact ⟨rfl, (HX2.out _).1, (HX2.out _).2⟩
theorem int_ne_own {w : World} {a B : Nat} {v u : Value} {O : List Spn} (h : OwnS w B v O) (ha : w.heap[a]? = some (.cells #[u] 3 (0, 0))) : v.ownBlock ≠ some a := by
  intro e
  rcases h.2 with ⟨rfl, _⟩ | ⟨g, cap, cur, rfl, _, hg, _⟩
  · cases e
  · have : g = a := by simpa [Value.ownBlock] using e
    subst this
    rw [hg] at ha
    simp at ha
theorem int_ne_box {w : World} {a b : Nat} {v u : Value} (ha : w.heap[a]? = some (.cells #[u] 3 (0, 0))) (hb : w.heap[b]? = some (.cells #[v] 22 (0, 0))) : a ≠ b := by
  intro e
  subst e
  rw [ha] at hb
  simp at hb
/-- Behind the call every older block but the variable's and its row's is as it was. -/
def Untouched (w : World) (b : Nat) (v : Value) (w' : World) : Prop := ∀ k, k < w.heap.size → k ≠ b → v.ownBlock ≠ some k → w'.heap[k]? = w.heap[k]?
theorem unt_grown {w0 w1 w2 : World} {b : Nat} {v u : Value} (h01 : Below w0.heap.size w0 w1) (hg : w1.grownBy w2 v.ownBlock) : Untouched w0 b v (w2.setCell ⟨b, 0, none⟩ u) := fun k hk hkb hne =>
  (Below.heap_setCell _ _ _ _ hkb).trans ((hg.block k (Nat.lt_of_lt_of_le hk h01.size) (fun e => hne e.symm)).trans (h01.block k hk))
set_option maxHeartbeats 4000000 in
set_option maxRecDepth 100000 in
theorem puntil_any (O : List Spn) (t e : Int) (a b B B0 : Nat) (v : Value) (w : World) (ha : w.heap[a]? = some (.cells #[.int .i64 t] 3 (0, 0))) (hb : w.heap[b]? = some (.cells #[v] 22 (0, 0))) (own : OwnS w B v O) (hB : B0 ≤ b) (hBB : B0 ≤ B) (hBs : B ≤ w.heap.size) (hO : O.length ≤ 100000) :
    Calls Try.prog 33 #[.int .i64 e, .pointer (some ⟨a, 0, none⟩), .pointer (some ⟨b, 0, none⟩)] w fun x w' => (x = .returned (.tuple #[]) ∧ BoxS w' b B (O ++ (if t < e then [(t, e)] else [])) ∧ Below B0 w w') ∧ Untouched w b v w' := by
  have hbl := lt_of_block hb
  obtain ⟨i0, hi0, hz0, hz1, hz2⟩ := info_parts info_spn
  have cA := cell_of_one ha
  have cB := cell_of_one hb
  have fB := free_of_one hb
  have HB := Lib.hid hb
  have HO := Lib.hid own
  by_cases hlt : t < e
  · rw [if_pos hlt]
    have room := Lib.hid (room2 (n := O.length) (by omega))
    have A1 := Lib.hid ((Below.refl w.heap.size w).alloc (Nat.le_refl _) (.cells #[.int .i64 t, .int .i64 e] 38))
    obtain ⟨pv, cv, rfl, -⟩ := own.shape
    clear own hb ha
    go_enter Try.func33, Try.ntmps33
    go_wp2_with ((at_builtin; refine wpList_append_own _ rfl _ _ 22 rfl B 38 i0 (.agg #[.int .i64 0, .int .i64 0]) 2 16 Try.underlying22 hi0 hz0 hz1 hz2 rfl (by decide) _ _ _ rfl (OwnS.alloc (HO.out) _) ⟨w.heap.size, 0, none⟩ 1 1 [.int .i64 t, .int .i64 e] rfl rfl (news2_at _ _ _ (rfl)) (ones2 _ _) room.out.1 room.out.2 (big_alloc hBs _) ?_))
    intro v' w6 hown' hgrow _
    have own6 : OwnS w6 B v' (O ++ [(t, e)]) := OwnS.snoc hown'
    have R := Lib.hid (box_grown HB.out A1.out (HO.out.alloc _) hB hBB hgrow own6)
    obtain ⟨p6, c6, rfl, -⟩ := own6.shape
    have ⟨f6, g6⟩ := box_seen HB.out A1.out (HO.out.alloc _) hgrow
    have U := Lib.hid (unt_grown (b := b) (u := .slice p6 (O ++ [(t, e)]).length c6) A1.out hgrow)
    clear own6 hown' hgrow HB HO
    go_wp2_with fail
    go_end0
    have R1 := R.out.1
    have R2 := R.out.2
    have U := U.out
    rw [List.length_append] at R1 R2 U
    exact ⟨⟨rfl, R1, R2⟩, U⟩
  · rw [if_neg hlt, List.append_nil]
    clear own hb ha
    go_enter Try.func33, Try.ntmps33
    go_wp2_with fail
    go_end0
    exact ⟨⟨rfl, ⟨v, HB.out, HO.out⟩, Below.refl _ _⟩, fun k _ _ _ => rfl⟩
end Go.Proofs.Ytmfhjgddpkecfaa.Sp
