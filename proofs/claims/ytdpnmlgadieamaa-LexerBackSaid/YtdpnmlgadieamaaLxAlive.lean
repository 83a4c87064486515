/-
  The examples of the chapter hold (layer 7).
-/
import Derived.Test.YtdpnmlgadieamaaLxPR
namespace Go.Proofs.Ytdpnmlgadieamaa.Lx
open Go.RowKit

/-- The cells of a list of lexemes. -/
def litC : List LexI → List Value
  | [] => []
  | x :: r => [.int .i64 x.k, .string (toS x.t), .int .i64 x.n, .int .i64 x.a] ++ litC r
theorem litC_at : ∀ (l : List LexI) (j : Nat) (x : LexI), l[j]? = some x → (litC l)[j * 4]? = some (.int .i64 x.k) ∧ (litC l)[j * 4 + 1]? = some (.string (toS x.t)) ∧ (litC l)[j * 4 + 2]? = some (.int .i64 x.n) ∧ (litC l)[j * 4 + 3]? = some (.int .i64 x.a)
  | [], _, _, h => by simp at h
  | y :: l, 0, x, h => by
    simp at h
    subst h
    exact ⟨rfl, rfl, rfl, rfl⟩
  | y :: l, j + 1, x, h => by
    have := litC_at l j x (by simpa using h)
    have e : ∀ i, (litC (y :: l))[(j + 1) * 4 + i]? = (litC l)[j * 4 + i]? := fun i => by
      rw [litC, List.getElem?_append_right (by show 4 ≤ _; omega)]
      show (litC l)[(j + 1) * 4 + i - 4]? = _
      congr 1; omega
    exact ⟨(e 0).trans this.1, (e 1).trans this.2.1, (e 2).trans this.2.2.1, (e 3).trans this.2.2.2⟩
/-- A list of lexemes just made. -/
theorem made_lexs (w : World) (l : List LexI) : Lexs (w.alloc (.cells (litC l).toArray 35)) (.slice (some ⟨w.heap.size, 0, none⟩) l.length l.length) l := by
  refine ⟨_, _, rfl, Nat.le_refl _, fun _ => ⟨w.heap.size, 0, rfl, by show _ < (w.heap.push _).size; rw [Array.size_push]; exact Nat.lt_succ_self _, Nat.le_refl _, fun j x hj => ?_⟩⟩
  have h := litC_at l j x hj
  have e : ∀ i, (w.alloc (.cells (litC l).toArray 35)).cell? ⟨w.heap.size, i, none⟩ = (litC l)[i]? := fun i => by
    rw [World.cell?_alloc_mark w (litC l).toArray 35 (0, 0) i]; simp
  simp only [Nat.zero_add]
  exact ⟨(e _).trans h.1, (e _).trans h.2.1, (e _).trans h.2.2.1, (e _).trans h.2.2.2⟩
def exL : List Lex := [⟨1, [97, 49], 0, 0⟩, ⟨4, [45, 62], 0, 3⟩, ⟨2, [53], 5, 6⟩, ⟨4, [59], 0, 7⟩, ⟨0, [], 0, 8⟩]
def exI : List LexI := [⟨1, [97, 49], 0, 0⟩, ⟨4, [45, 62], 0, 3⟩, ⟨2, [53], 5, 6⟩, ⟨4, [59], 0, 7⟩, ⟨0, [], 0, 8⟩]
theorem ex_scan : scanM (ByteArray.mk #[97, 49, 32, 45, 62, 32, 53, 59]).data.toList = (exL, 0, 0) := by kernel_rfl
theorem ex_bad : scanM (ByteArray.mk #[97, 32, 63]).data.toList = ([], 5, 2) := by kernel_rfl
theorem ex_same : sameBy eqI (exL.map toI) exI = true := by kernel_rfl
theorem ex_quote : qtV (ByteArray.mk #[97, 34, 10]).data.toList = [34, 97, 92, 34, 92, 110, 34] ∧ qtE (ByteArray.mk #[97, 34, 10]).data.toList = 0 := ⟨by kernel_rfl, by kernel_rfl⟩
theorem ex_print : prF [] false (exL.map toI) = [97, 49, 32, 45, 62, 32, 53, 32, 59] := by kernel_rfl
theorem ex_mild : Mild (exL.map toI) := ⟨by show 5 ≤ 20000; decide, fun x hx => by
  have e : exL.map toI = exI := rfl
  rw [e] at hx
  simp only [exI, List.mem_cons, List.not_mem_nil, or_false] at hx
  rcases hx with rfl | rfl | rfl | rfl | rfl <;> exact ⟨by decide, by constructor <;> decide⟩⟩
set_option maxHeartbeats 4000000 in
set_option maxRecDepth 100000 in
theorem alive_any (w : World) : Calls Try.prog 11 #[] w fun e w' => e = .returned (.bool true) ∧ Below w.heap.size w w' := by
  have c1 := Lib.hid (fun w => qScan_any ⟨#[97, 49, 32, 45, 62, 32, 53, 59]⟩ w (by decide))
  have c2 := Lib.hid (fun w => qScan_any ⟨#[97, 32, 63]⟩ w (by decide))
  have c3 := Lib.hid (fun w => qQuote_any ⟨#[97, 34, 10]⟩ w (by decide))
  have c4 := Lib.hid (fun w => qMark_any ⟨#[45, 62]⟩ w)
  have c5 := Lib.hid (fun w => qMark_any ⟨#[63]⟩ w)
  rw [ex_scan] at c1
  rw [ex_bad] at c2
  unfold QtEnd at c3
  rw [ex_quote.1, ex_quote.2] at c3
  have m4 : Hid (mkL (ByteArray.mk #[45, 62]).data.toList = true) := by show _ = _; kernel_rfl
  have m5 : Hid (mkL (ByteArray.mk #[63]).data.toList = false) := by show _ = _; kernel_rfl
  rw [m4.out] at c4
  rw [m5.out] at c5
  have cS := Lib.hid (fun (W : World) (va vb : Value) (ha : Lexs W va (exL.map toI)) (hb : Lexs W vb exI) => rsame_any (exL.map toI) exI va vb W ha hb (by show 5 ≤ 1000000; decide) (by show 5 ≤ 1000000; decide))
  rw [ex_same] at cS
  have cP := Lib.hid (fun (W : World) (v : Value) (h : Lexs W v (exL.map toI)) => qPrint_any (exL.map toI) v W h ex_mild)
  rw [ex_print] at cP
  generalize sameBy eqM (exL.map toI) exI = S at cS
  have h1 : ((toS [34, 97, 92, 34, 92, 110, 34]).toList == [34, 97, 92, 34, 92, 110, 34]) = true := by rw [toS_list]; exact beq_self_eq_true _
  have h2 : ((toS [97, 49, 32, 45, 62, 32, 53, 32, 59]).toList == [97, 49, 32, 45, 62, 32, 53, 32, 59]) = true := by rw [toS_list]; exact beq_self_eq_true _
  clear m4 m5
  go_enter Try.func11, Try.ntmps11
  go_wp2_with fail
  refine (c1.out _).mono ?_; rintro e w1 ⟨v1, rfl, own1, k1⟩
  have n1 := own1.lexs
  have m1 := Lib.hid (made_lexs w1 exI)
  have n1' := Lib.hid (n1.below ((Below.refl w1.heap.size w1).alloc (Nat.le_refl _) (.cells (litC exI).toArray 35)))
  have B1 := k1.alloc k1.size (.cells (litC exI).toArray 35)
  clear own1 n1
  go_wp2_with fail
  refine (cS.out _ _ _ n1'.out m1.out).mono ?_; rintro e w2 ⟨rfl, k2⟩
  have B2 := stepB B1 k2
  have n2 := Lib.hid (n1'.out.below k2)
  clear m1 n1' k2 B1 k1
  go_wp2_with fail
  refine (c2.out _).mono ?_; rintro e w3 ⟨v3, rfl, -, k3⟩
  have B3 := stepB B2 k3
  have n3 := Lib.hid (n2.out.below k3)
  clear k3 B2 n2
  go_wp2_with fail
  refine (c3.out _).mono ?_; rintro e w4 ⟨rfl, k4⟩
  have B4 := stepB B3 k4
  have n4 := Lib.hid (n3.out.below k4)
  clear k4 B3 n3
  go_wp2_with fail
  refine (cP.out _ _ n4.out).mono ?_; rintro e w5 ⟨rfl, k5⟩
  have B5 := stepB B4 k5
  clear k5 B4 n4
  go_wp2_with fail
  refine (c4.out _).mono ?_; rintro e w6 ⟨rfl, k6⟩
  have B6 := stepB B5 k6
  go_wp2_with fail
  refine (c5.out _).mono ?_; rintro e w7 ⟨rfl, k7⟩
  have B7 := stepB B6 k7
  go_wp2_with fail
  go_ret
  exact ⟨rfl, B7⟩
end Go.Proofs.Ytdpnmlgadieamaa.Lx
