/-
  For every two strings the law LexerParts (P7.6) returns true and leaves its arguments alone: the lexemes of two texts with a line feed between them are those of the first one, and those of the second one (the law itself asks this of at most 3000 bytes each). No condition.
-/
import Derived.Test.YtdpnmlgadieamaaRows
import Derived.WalkKit
import Derived.ProofKit
import Derived.OpenShut
import Derived.ShutString
import Derived.ChangeOld
import Derived.Below
import Derived.Test.YtdpnmlgadieamaaLxLaw
namespace Go.Proofs.Ytdpnmlgadieamaa.lexerParts
open Go.ChangeShapes Go.WideShapes Go.ChangeAt Go.RowKit Go.Proofs.Ytdpnmlgadieamaa.Lx
open Go.ChangeMaps (open_string shut_string)
set_option linter.unusedVariables false

theorem own : ownKnob Try.prog.godebug = none := by kernel_rfl

theorem lexsC_one : ∀ (l : List Lex), ∀ u ∈ lexsC l, u.oneCell' = true
  | [], u, h => by simp [lexsC] at h
  | x :: l, u, h => by
    rw [lexsC] at h
    rcases List.mem_append.1 h with h | h
    · exact ones4 _ _ _ _ u h
    · exact lexsC_one l u h
theorem off_le {s : List UInt8} : ∀ {l : List Lex} {lo : Nat}, OffOk s lo l → ∀ x ∈ l, x.a ≤ s.length
  | [], _, _, x, hx => by simp at hx
  | [y], _, h, x, hx => by rw [List.mem_singleton.1 hx]; exact Nat.le_of_eq h.2.2.2.2
  | y :: z :: r, _, h, x, hx => by
    rcases List.mem_cons.1 hx with rfl | hx
    · exact Nat.le_of_lt h.2.1
    · exact off_le h.2.2.2.2.2 x hx
theorem off_pos {s : List UInt8} {l : List Lex} {lo : Nat} (h : OffOk s lo l) : 0 < l.length := by
  cases l with
  | nil => exact h.elim
  | cons x r => rw [List.length_cons]; omega
theorem src_pre {w : World} {B g n c : Nat} {xs : List Lex} {x : Lex} (h : OwnL w B (.slice (some ⟨g, 0, none⟩) n c) (xs ++ [x])) : ∀ j u, (lexsC xs)[j]? = some u → w.cell? ((⟨g, 0, none⟩ : Addr).add j) = some u := fun j u hj => by
  have h' := h
  unfold OwnL at h'
  obtain rfl : n = (xs ++ [x]).length := by
    rcases h.2 with ⟨e, _⟩ | ⟨_, _, _, e, _⟩
    · cases e
    · cases e; rfl
  refine World.ownsRow.cells h' rfl j _ ?_
  rw [lexsC_app, List.getElem?_append_left (List.getElem?_eq_some_iff.1 hj).1]; exact hj
theorem own_form {w : World} {B : Nat} {v : Value} {l : List Lex} {n : Nat} (h : OwnL w B v l) (hl : l.length = n + 1) : ∃ g c, v = .slice (some ⟨g, 0, none⟩) (n + 1) c ∧ n + 1 ≤ c := by
  rcases h.2 with ⟨_, h0⟩ | ⟨g, cap, cur, rfl, _, _, hcap, _⟩
  · omega
  · exact ⟨g, cap, by rw [hl], by rw [← hl]; exact hcap⟩
theorem take_mv {ys : List Lex} {k : Nat} {x : Lex} (D : Nat) (h : ys[k]? = some x) : (ys.take (k + 1)).map (mv D) = (ys.take k).map (mv D) ++ [mv D x] := by
  rw [List.take_add_one, h, List.map_append]; rfl

/-! ### The walk: the law returns true, and writes nothing that was there. -/
set_option maxRecDepth 100000 in
set_option maxHeartbeats 16000000 in
theorem walk (b0 : ByteArray) (w0 : b0.size ≤ maxLen) (b1 : ByteArray) (w1 : b1.size ≤ maxLen) (w : World) :
    Calls Try.prog 9 #[.string b0, .string b1] w fun e w' => e = .returned (.bool true) ∧ Below w.heap.size w w' := by
  by_cases hbig : 3000 < b0.size
  · have hbig' : (3000 : Int) < (b0.size : Int) := by omega
    clear hbig w0 w1
    go_enter Try.func9, Try.ntmps9
    go_wp2_with fail
    refine (alive_any _).mono ?_; rintro e w9 ⟨rfl, k9⟩
    go_wp2_with fail
    go_ret
    exact ⟨rfl, k9⟩
  by_cases hbig2 : 3000 < b1.size
  · have hs1 : ¬ (3000 : Int) < (b0.size : Int) := by omega
    have hbig' : (3000 : Int) < (b1.size : Int) := by omega
    clear hbig hbig2 w0 w1
    go_enter Try.func9, Try.ntmps9
    go_wp2_with fail
    refine (alive_any _).mono ?_; rintro e w9 ⟨rfl, k9⟩
    go_wp2_with fail
    go_ret
    exact ⟨rfl, k9⟩
  obtain ⟨a, rfl⟩ : ∃ a, b0 = toS a := ⟨b0.data.toList, (toS_data b0).symm⟩
  obtain ⟨b, rfl⟩ : ∃ b, b1 = toS b := ⟨b1.data.toList, (toS_data b1).symm⟩
  rw [toS_size] at hbig hbig2
  have c1 := Lib.hid (fun w => qScan_any (toS a) w (by rw [toS_size]; omega))
  have c2 := Lib.hid (fun w => qScan_any (toS b) w (by rw [toS_size]; omega))
  rw [data_toS] at c1 c2
  have hsz1 : ((toS a).size : Int) = (a.length : Int) := by rw [toS_size]
  have hsz2 : ((toS b).size : Int) = (b.length : Int) := by rw [toS_size]
  have hs1 : ¬ (3000 : Int) < (a.length : Int) := by omega
  have hs2 : ¬ (3000 : Int) < (b.length : Int) := by omega
  by_cases ha : (scanM a).2.1 = 0
  · by_cases hb : (scanM b).2.1 = 0
    · obtain ⟨xs, x1, x2⟩ := scan_join ha hb (by omega)
      obtain ⟨-, hoff⟩ := (scan_off (s := b) (by omega)).1 hb
      have hle := off_le hoff
      have hpos := off_pos hoff
      have hl1 := scan_len a
      have hl2 := scan_len b
      rw [x1, List.length_append] at hl1
      have c3 := Lib.hid (fun w => qScan_any (toS (a ++ [10] ++ b)) w (by rw [toS_size, List.length_append, List.length_append]; show _ + 1 + _ ≤ _; omega))
      have e10 : a ++ [10] ++ b = a ++ 10 :: b := by rw [List.append_assoc]; rfl
      rw [data_toS, e10, x2] at c3
      have s1 : ∀ W : World, (Op.stringOp .add (toS a) ⟨#[10]⟩).run Try.prog W = .ok (.string (toS (a ++ [10]))) W := add_lists a [10] (by show _ + 1 ≤ _; omega)
      have s2 : ∀ W : World, (Op.stringOp .add (toS (a ++ [10])) (toS b)).run Try.prog W = .ok (.string (toS (a ++ 10 :: b))) W := by
        rw [← e10]
        exact add_lists (a ++ [10]) b (by rw [List.length_append]; show _ + 1 + _ ≤ _; omega)
      unfold ScEnd at c1 c2 c3
      rw [x1, ha] at c1
      rw [hb] at c2
      simp only at c3
      generalize (scanM a).2.2 = P1 at c1
      generalize (scanM b).2.2 = P2 at c2
      generalize (scanM b).1 = ys at *
      obtain ⟨m, hm⟩ : ∃ m, ys.length = m + 1 := ⟨ys.length - 1, by omega⟩
      obtain ⟨n, hn⟩ : ∃ n, xs.length = n := ⟨_, rfl⟩
      have hn1 : n ≤ 3000 := by rw [hn] at hl1; have e : [(⟨0, [], 0, a.length⟩ : Lex)].length = 1 := rfl; omega
      have hm1 : m ≤ 3000 := by omega
      have HA := Lib.hid (show (xs ++ [(⟨0, [], 0, a.length⟩ : Lex)]).length = n + 1 by rw [List.length_append, hn]; rfl)
      have HL : Hid (∀ x ∈ ys, x.a ≤ 3000) := fun x hx => Nat.le_trans (hle x hx) (by omega)
      have HY := Lib.hid hm
      have HN := Lib.hid hn
      have hwant : ((xs ++ ys.map (mv (a.length + 1))).map toI).length ≤ 1000000 := by rw [List.length_map, List.length_append, List.length_map, hn, hm]; omega
      have cS := Lib.hid (fun (W : World) (va vb : Value) (h1 : Lexs W va ((xs ++ ys.map (mv (a.length + 1))).map toI)) (h2 : Lexs W vb ((xs ++ ys.map (mv (a.length + 1))).map toI)) => rsame_any _ _ va vb W h1 h2 hwant hwant)
      rw [sameBy_refl] at cS
      generalize sameBy eqM ((xs ++ ys.map (mv (a.length + 1))).map toI) ((xs ++ ys.map (mv (a.length + 1))).map toI) = S at cS
      have HD : Hid (∀ x : Lex, lexC (mv (a.length + 1) x) = [.int .i64 x.k, .string (toS x.t), .int .i64 x.n, .int .i64 ((x.a : Int) + (a.length : Int) + 1)]) := fun x => by
        show [_, _, _, _] = [_, _, _, _]
        rw [show (mv (a.length + 1) x).a = x.a + (a.length + 1) from rfl, show ((x.a + (a.length + 1) : Nat) : Int) = (x.a : Int) + (a.length : Int) + 1 by omega]
        rfl
      obtain ⟨i0, hi0, hz0, hz1, hz2⟩ := info_parts info_lexz
      have ha3 : (a.length : Int) ≤ 3000 := by omega
      generalize toS (a ++ 10 :: b) = U at c3 s2
      generalize toS (a ++ [10]) = Z at s1 s2
      generalize toS a = X at *
      generalize toS b = Y at *
      obtain ⟨K, hK⟩ : ∃ K, a.length = K := ⟨_, rfl⟩
      obtain ⟨K2, hK2⟩ : ∃ K, b.length = K := ⟨_, rfl⟩
      rw [hK] at hsz1 hs1 c1 c3 cS HA HD ha3
      rw [hK2] at hsz2 hs2
      have e1 : (((n : Int) + 1) == 0) = false := beq_eq_false_iff_ne.2 (by omega)
      have e2 : (((m : Int) + 1) == 0) = false := beq_eq_false_iff_ne.2 (by omega)
      clear hbig hbig2 w0 w1 ha hb x1 x2 hoff hle hpos hl1 hl2 hwant e10 hm hn hK hK2
      go_enter Try.func9, Try.ntmps9
      go_wp2_with fail
      refine (c1.out _).mono ?_; rintro e w1 ⟨v1, rfl, own1, k1⟩
      obtain ⟨g1, cp1, rfl, hcp1⟩ := own_form own1 HA.out
      have own1 := Lib.hid own1
      go_wp2_with fail
      refine (c2.out _).mono ?_; rintro e w2 ⟨v2, rfl, own2, k2⟩
      have m2 := Lib.hid (stepB k1 k2)
      have sP := Lib.hid (src_pre ((own1.out.below k2).alloc (.cells #[] 35)))
      have o2 := own2.lexs
      obtain ⟨b3, off3, c3', e3', a3⟩ := o2.open (by rw [List.length_map, HY.out]; omega)
      rw [List.length_map, HY.out] at e3'
      subst e3'
      have A3 := Lib.hid a3
      have ownE : Hid (OwnL (w2.alloc (.cells #[] 35)) w2.heap.size (.slice (some ⟨w2.heap.size, 0, none⟩) 0 0) []) := World.ownsRow_lit (base := w2.heap.size) (e := 35) (size := 4) w2 #[] 0 (Nat.le_refl _) (by decide) rfl
      have lenP := Lib.hid (show (lexsC xs).length = n * 4 by rw [lexsC_len, HN.out])
      have hcp2 : (n : Int) ≤ (cp1 : Int) := by omega
      have hcp3 : n ≤ cp1 := by omega
      have room : Hid (0 + n ≤ maxLen ∧ (0 + n) * 40 ≤ 140737488355328) := ⟨by unfold maxLen; omega, by omega⟩
      have hB0 := Lib.hid ((Below.refl w2.heap.size w2).alloc (Nat.le_refl _) (.cells #[] 35))
      clear own1 own2 o2 a3
      go_wp2_with (at_builtin; refine wpList_append_own _ rfl _ _ 23 rfl w2.heap.size 35 i0 (.agg lx0) 4 40 Try.underlying23 hi0 hz0 hz1 hz2 rfl (by decide) _ _ _ rfl ownE.out ⟨g1, 0, none⟩ n cp1 (lexsC xs) rfl lenP.out sP.out (lexsC_one xs) room.out.1 room.out.2 hB0.out.size ?_)
      intro v10 w10 own10 grow10 _
      have own10' : Hid (OwnL w10 w2.heap.size v10 (xs ++ (ys.take 0).map (mv (K + 1)))) := by
        unfold Hid OwnL
        rw [List.take_zero, List.map_nil, List.append_nil, HN.out]
        simpa [lexsC] using own10
      have B10 : Hid (Below w2.heap.size w2 w10) := hB0.out.grown grow10 hB0.out.size (fun j hj => by cases hj; exact Nat.le_refl _)
      clear own10 grow10 ownE lenP sP hB0 room
      go_wp2_with fail
      go_loopw [11, 12] (fun v i wr => ∃ k : Nat, i = .int .i64 (k : Int) ∧ k ≤ m + 1 ∧ Hid (Below w2.heap.size w2 wr) ∧ Hid (OwnL wr w2.heap.size v (xs ++ (ys.take k).map (mv (K + 1))))) (fun _ i _ => m + 1 - (intOf i).toNat)
      case atStart => exact ⟨0, rfl, Nat.zero_le _, B10.out, own10'.out⟩
      case round =>
        clear own10' B10
        obtain ⟨k, rfl, hk, hB, hown⟩ := hrel
        by_cases hlt : k < m + 1
        · have hlt' : (k : Int) < (m : Int) + 1 := by omega
          obtain ⟨x, hx⟩ : ∃ x, ys[k]? = some x := ⟨_, List.getElem?_eq_getElem (by rw [HY.out]; exact hlt)⟩
          obtain ⟨y0, y1, y2, y3⟩ := A3.out.at_ k (toI x) (by rw [List.getElem?_map, hx]; rfl)
          have lb := A3.out.lt
          have y0 := (hB.out.cell lb).trans y0
          have y1 := (hB.out.cell lb).trans y1
          have y2 := (hB.out.cell lb).trans y2
          have y3 := (hB.out.cell lb).trans y3
          have hxa := HL.out x (List.mem_of_getElem? hx)
          have hres := Lib.hid (HD.out x)
          obtain ⟨acc, hacc⟩ : ∃ acc, xs ++ (ys.take k).map (mv (K + 1)) = acc := ⟨_, rfl⟩
          have hnx : Hid (xs ++ (ys.take (k + 1)).map (mv (K + 1)) = acc ++ [mv (K + 1) x]) := by
            unfold Hid
            rw [take_mv (K + 1) hx, ← List.append_assoc, hacc]
          have hlen : Hid (acc.length ≤ 1000000) := by
            unfold Hid
            rw [← hacc, List.length_append, List.length_map, List.length_take, HN.out]; omega
          rw [hacc] at hown
          clear hacc
          generalize mv (K + 1) x = x' at hres hnx
          obtain ⟨kk, t, nn, aa⟩ := x
          simp only [toI] at y0 y1 y2 y3 hxa hres
          generalize toS t = tS at y1 hres
          have hxa' : (aa : Int) ≤ 3000 := by omega
          have hxb : (aa : Int) + (K : Int) + 1 ≤ 6001 := by omega
          have hxc : (0 : Int) ≤ (aa : Int) + (K : Int) + 1 := by omega
          have n2 := Lib.hid (Blk.new wr 35 lx0)
          have x3 := blk_row (Blk.new wr 35 lx0) (lxL kk tS nn (aa : Int))
          have z3 : ((wr.alloc lxO).setRow wr.heap.size (lxL kk tS nn (aa : Int))).cell? ⟨wr.heap.size, 3, none⟩ = some (.int .i64 (aa : Int)) := x3.cell 3
          have f3 : ((wr.alloc lxO).setRow wr.heap.size (lxL kk tS nn (aa : Int))).frozen? ⟨wr.heap.size, 3, none⟩ = false := x3.frozen 3
          have x4 : Hid (Blk (((wr.alloc lxO).setRow wr.heap.size (lxL kk tS nn (aa : Int))).setCell ⟨wr.heap.size, 3, none⟩ (.int .i64 ((aa : Int) + (K : Int) + 1))) wr.heap.size 35 (lxL kk tS nn ((aa : Int) + (K : Int) + 1))) := x3.set_ 3 _
          have m3 : Below wr.heap.size wr (((wr.alloc lxO).setRow wr.heap.size (lxL kk tS nn (aa : Int))).setCell ⟨wr.heap.size, 3, none⟩ (.int .i64 ((aa : Int) + (K : Int) + 1))) := (below_row ((Below.refl _ wr).alloc (Nat.le_refl _) lxO) (Nat.le_refl _) _).setCell (Nat.le_refl _) _
          have B3 := Lib.hid (stepB hB.out m3)
          have own3 := Lib.hid (hown.out.below m3)
          have room := Lib.hid (room4 hlen.out)
          have hsz : Hid ((((wr.alloc lxO).setRow wr.heap.size (lxL kk tS nn (aa : Int))).setCell ⟨wr.heap.size, 3, none⟩ (.int .i64 ((aa : Int) + (K : Int) + 1))).heap.size = wr.heap.size + 1) := by show _ = _; simp
          clear hB hown m3 x3 hx hlen
          go_wp2_with (first | (refine wpList_store_row rfl 35 (.tmp 13) (.tmp 71) rfl wr.heap.size (lxL kk tS nn (aa : Int)) rfl rfl 35 _ n2.out (lx_size _ _ _ _) rfl (lx_ones _ _ _ _) ?_) | (refine wpList_load_row rfl 35 (.tmp 13) rfl wr.heap.size rfl 35 _ (0, 0) _ x4.out Try.underlying35 rfl (lx_size _ _ _ _) ?_) | (at_builtin; refine wpList_append_own _ rfl _ _ 23 rfl w2.heap.size 35 i0 (.agg lx0) 4 40 Try.underlying23 hi0 hz0 hz1 hz2 rfl (by decide) _ _ _ rfl (OwnL.alloc own3.out _) ⟨wr.heap.size + 1, 0, none⟩ 1 1 [.int .i64 kk, .string tS, .int .i64 nn, .int .i64 ((aa : Int) + (K : Int) + 1)] rfl rfl (news4_at _ hsz.out _ _ _ _) (ones4 _ _ _ _) room.out.1 room.out.2 (B3.out.alloc B3.out.size _).size ?_))
          intro v' w6 hown' hgrow _
          have k6 : Hid (Below w2.heap.size w2 w6) := (B3.out.alloc B3.out.size _).grown hgrow (B3.out.alloc B3.out.size _).size (fun j hj => OwnL.lt own3.out j hj)
          have hf2 : Hid (OwnL w6 w2.heap.size v' (xs ++ (ys.take (k + 1)).map (mv (K + 1)))) := by
            unfold Hid
            rw [hnx.out]
            exact OwnL.snoc (by rw [hres.out]; exact hown')
          clear hown' hgrow own3
          go_wp2_with fail
          exact ⟨⟨k + 1, rfl, hlt, k6.out, hf2.out⟩, by simp [intOf]; omega⟩
        · obtain rfl : k = m + 1 := by omega
          have hlt' : ¬ (m : Int) + 1 < (m : Int) + 1 := by omega
          have hw0 := hown.out.lexs
          rw [List.take_of_length_le (by rw [HY.out]; exact Nat.le_refl _)] at hw0
          have hw := Lib.hid hw0
          clear hw0
          have m3 := Lib.hid (m2.out.trans (hB.out.mono m2.out.size))
          clear hB hown A3 HL HD m2
          go_wp2_with fail
          refine (c3.out _).mono ?_; rintro e w4 ⟨v4, rfl, own4, k4⟩
          have n4 := Lib.hid own4.lexs
          have nw := Lib.hid (hw.out.below k4)
          have m4 := stepB m3.out k4
          clear own4 hw
          go_wp2_with fail
          refine (cS.out _ _ _ n4.out nw.out).mono ?_; rintro e w5 ⟨rfl, k5⟩
          have m5 := stepB m4 k5
          go_wp2_with fail
          refine (alive_any _).mono ?_; rintro e w9 ⟨rfl, k9⟩
          go_wp2_with fail
          go_ret
          exact ⟨rfl, stepB m5 k9⟩
    · have hE : ((scanM b).2.1 != 0) = true := bne_iff_ne.2 hb
      unfold ScEnd at c1 c2
      rw [ha] at c1
      generalize (scanM b).2.1 = E at c2 hE
      generalize scanM a = T1 at c1
      generalize scanM b = T2 at c2
      clear hbig hbig2 w0 w1 ha hb
      go_enter Try.func9, Try.ntmps9
      go_wp2_with fail
      refine (c1.out _).mono ?_; rintro e w1 ⟨v1, rfl, own1, k1⟩
      go_wp2_with fail
      refine (c2.out _).mono ?_; rintro e w2 ⟨v2, rfl, own2, k2⟩
      have m2 := stepB k1 k2
      clear own1 own2
      go_wp2_with fail
      refine (alive_any _).mono ?_; rintro e w9 ⟨rfl, k9⟩
      go_wp2_with fail
      go_ret
      exact ⟨rfl, stepB m2 k9⟩
  · have hE : ((scanM a).2.1 != 0) = true := bne_iff_ne.2 ha
    unfold ScEnd at c1 c2
    generalize (scanM a).2.1 = E at c1 hE
    generalize scanM a = T1 at c1
    generalize scanM b = T2 at c2
    clear hbig hbig2 w0 w1 ha
    go_enter Try.func9, Try.ntmps9
    go_wp2_with fail
    refine (c1.out _).mono ?_; rintro e w1 ⟨v1, rfl, own1, k1⟩
    go_wp2_with fail
    refine (c2.out _).mono ?_; rintro e w2 ⟨v2, rfl, own2, k2⟩
    have m2 := stepB k1 k2
    clear own1 own2
    go_wp2_with fail
    refine (alive_any _).mono ?_; rintro e w9 ⟨rfl, k9⟩
    go_wp2_with fail
    go_ret
    exact ⟨rfl, stepB m2 k9⟩

/-! ### The row's step -/
set_option maxRecDepth 100000 in
theorem lifted (os : Os) (started : os.Started) (H : Type) (enc : TypeId × Value → H) :
    ReturnsInHanded {} Try.checked os 9 .any (Rows.lexerPartsSpec.pre6 enc Try.prog Try.f9 Rows.lexerPartsRow.domain false) (Rows.lexerPartsSpec.post enc Try.prog Try.f9 false true false false) := by
  refine returnsInHanded_of_change (C := Try.checked) own started (by kernel_rfl) Try.func9
    (ChangeSpec.witness6 (enc := enc) (C := Try.checked) false ⟨#[], #[.string ByteArray.empty, .string ByteArray.empty], []⟩ 8 (by kernel_rfl) (by kernel_rfl) (by kernel_rfl) (by kernel_rfl)) ?_
  intro W base args ds gs before hval0 hW hcnd _
  have hval : ∀ (j : Nat) t v, Try.f9.params[j]? = some t → args[j]? = some v → Value.okWide Try.prog W .any base t v := hval0
  have hW' := hW
  obtain ⟨p, q, hA0, hV, rfl, hfz, hnd⟩ := hW
  have hA : DataW.TrodAll enc Try.prog W 0 (fun _ => true) true Try.f9.params.toList args.toList ds p := hA0
  rw [Try.params9] at hA hval
  obtain ⟨v0, vs0, d0, ds0, p0, q0, hargs, rfl, rfl, h0, r0⟩ := trodAll_cons hA
  obtain ⟨v1, vs1, d1, ds1, p1, q1, rfl, rfl, rfl, h1, r1⟩ := trodAll_cons r0
  obtain ⟨rfl, rfl, rfl⟩ := trodAll_nil r1
  obtain rfl : args = #[v0, v1] := by cases args; simp_all
  obtain ⟨rfl, rfl⟩ := trodVars_none hV
  obtain ⟨b0, rfl, rfl, rfl, w0⟩ := open_string Try.underlying9 (hval 0 9 v0 rfl rfl) h0
  obtain ⟨b1, rfl, rfl, rfl, w1⟩ := open_string Try.underlying9 (hval 1 9 v1 rfl rfl) h1
  clear hA0 hval0
  simp only [List.append_nil] at hW'
  refine (walk b0 w0 b1 w1 W).mono fun e W' ⟨he, hg⟩ => ?_
  subst he
  exact ⟨_, rfl, _, _, _, [], [], [], hW', (trodAll_cons_mk (shut_bool Try.underlying4 _) trodAll_mk0), (trodAll_cons_mk (shut_string Try.underlying9 w0) (trodAll_cons_mk (shut_string Try.underlying9 w1) trodAll_mk0)), rfl, hg.frame _, fun h => by cases h⟩

theorem over : Rows.lexerPartsRow.holds Try.pinned (OpenSpec.ofChange Rows.lexerPartsSpec) :=
  OpenClaim.holds_of_wide 9 Try.f9 rfl rfl rfl rfl rfl rfl rfl ⟨rfl, rfl, rfl, rfl, rfl⟩ rfl rfl rfl rfl rfl (by kernel_rfl) Try.func9 (by kernel_rfl)
    (of_decide_eq_true (by kernel_rfl)) (by unfold Func.isWrapper; first | (rw [if_pos (by decide +kernel)]; kernel_rfl) | (rw [if_neg (by decide +kernel)]; exact ⟨rfl, rfl⟩))
    (fun os started H enc _ => lifted os started H enc)

/-- The statement. -/
theorem proved : Rows.LexerPartsSaid :=
  over
#print axioms proved
end Go.Proofs.Ytdpnmlgadieamaa.lexerParts
