/-
  For every string the law LexerBack (P7.1, P7.2, P7.5) returns true and leaves its argument alone: what Print writes of the lexemes of a text has the same lexemes but for At (the law itself asks this of at most 3000 bytes). No condition.
-/
import Derived.Test.YtdpnmlgadieamaaRows
import Derived.WalkKit
import Derived.ProofKit
import Derived.OpenShut
import Derived.ShutString
import Derived.ChangeOld
import Derived.Below
import Derived.Test.YtdpnmlgadieamaaLxLaw
namespace Go.Proofs.Ytdpnmlgadieamaa.lexerBack
open Go.ChangeShapes Go.WideShapes Go.ChangeAt Go.RowKit Go.Proofs.Ytdpnmlgadieamaa.Lx
open Go.ChangeMaps (open_string shut_string)
set_option linter.unusedVariables false

theorem own : ownKnob Try.prog.godebug = none := by kernel_rfl



/-! ### The walk: the law returns true, and writes nothing that was there. -/
set_option maxRecDepth 100000 in
set_option maxHeartbeats 16000000 in
theorem walk (b0 : ByteArray) (w0 : b0.size ≤ maxLen) (w : World) :
    Calls Try.prog 8 #[.string b0] w fun e w' => e = .returned (.bool true) ∧ Below w.heap.size w w' := by
  by_cases hbig : 3000 < b0.size
  · have hbig' : (3000 : Int) < (b0.size : Int) := by omega
    clear hbig w0
    go_enter Try.func8, Try.ntmps8
    go_wp2_with fail
    refine (alive_any _).mono ?_; rintro e w9 ⟨rfl, k9⟩
    go_wp2_with fail
    go_ret
    exact ⟨rfl, k9⟩
  · have hs : ¬ (3000 : Int) < (b0.size : Int) := by omega
    have hn : b0.data.toList.length ≤ 3000 := by rw [len_data]; omega
    have c1 := Lib.hid (fun w => qScan_any b0 w (by omega))
    unfold ScEnd at c1
    by_cases h0 : (scanM b0.data.toList).2.1 = 0
    · obtain ⟨xs, ys, x1, y1, al, hg, hlp, hj⟩ := scan_back h0 hn
      have hl0 := scan_len b0.data.toList
      rw [x1, List.length_append] at hl0
      have hl : xs.length + 1 ≤ 3001 := by have e : [(⟨0, [], 0, b0.data.toList.length⟩ : Lex)].length = 1 := rfl; omega
      obtain ⟨al1, al2⟩ := alike_same xs ys al
      rw [x1, h0] at c1
      generalize (scanM b0.data.toList).2.2 = P at c1
      generalize b0.data.toList.length = N at c1
      have hpr := pr_jn xs hg N
      have hmild : Mild ((xs ++ [(⟨0, [], 0, N⟩ : Lex)]).map toI) := by
        refine ⟨by rw [List.length_map, List.length_append]; show _ + 1 ≤ _; omega, fun z hz => ?_⟩
        obtain ⟨x, hx, rfl⟩ := List.mem_map.1 hz
        rcases List.mem_append.1 hx with hx | hx
        · have := good_short hx (hg x hx)
          exact ⟨by show x.t.length ≤ _; omega, good_mild (hg x hx)⟩
        · rw [List.mem_singleton.1 hx]
          exact ⟨by show 0 ≤ 20000; decide, by show (-9223372036854775808 : Int) ≤ 0; decide, by show (0 : Int) ≤ 9223372036854775807; decide⟩
      have cP := Lib.hid (fun (W : World) (v : Value) (h : Lexs W v ((xs ++ [(⟨0, [], 0, N⟩ : Lex)]).map toI)) => qPrint_any _ v W h hmild)
      rw [hpr] at cP
      have c2 := Lib.hid (fun w => qScan_any (toS (jn xs)) w (by rw [toS_size]; omega))
      rw [data_toS, y1] at c2
      unfold ScEnd at c2
      simp only at c1 c2
      have hS : sameBy eqM ((xs ++ [(⟨0, [], 0, N⟩ : Lex)]).map toI) ((ys ++ [(⟨0, [], 0, (jn xs).length⟩ : Lex)]).map toI) = true := by
        rw [List.map_append, List.map_append]
        show sameBy eqM (xs.map toI ++ [toI ⟨0, [], 0, N⟩]) (ys.map toI ++ [toI ⟨0, [], 0, (jn xs).length⟩]) = true
        rw [sameBy_snoc _ _ _ _ _ (by rw [List.length_map, List.length_map, al2]), al1]; rfl
      have l1 : ((xs ++ [(⟨0, [], 0, N⟩ : Lex)]).map toI).length = xs.length + 1 := by rw [List.length_map, List.length_append]; rfl
      have l2 : ((ys ++ [(⟨0, [], 0, (jn xs).length⟩ : Lex)]).map toI).length = xs.length + 1 := by rw [List.length_map, List.length_append, al2]; rfl
      have hlast : ((ys ++ [(⟨0, [], 0, (jn xs).length⟩ : Lex)]).map toI)[xs.length]? = some ⟨0, [], 0, ((jn xs).length : Int)⟩ := by
        rw [al2, List.getElem?_map, List.getElem?_append_right (Nat.le_refl _), Nat.sub_self]; rfl
      have cS := Lib.hid (fun (W : World) (va vb : Value) (ha : Lexs W va ((xs ++ [(⟨0, [], 0, N⟩ : Lex)]).map toI)) (hb : Lexs W vb ((ys ++ [(⟨0, [], 0, (jn xs).length⟩ : Lex)]).map toI)) => rsame_any _ _ va vb W ha hb (by rw [l1]; omega) (by rw [l2]; omega))
      rw [hS] at cS
      generalize sameBy eqI ((xs ++ [(⟨0, [], 0, N⟩ : Lex)]).map toI) ((ys ++ [(⟨0, [], 0, (jn xs).length⟩ : Lex)]).map toI) = S at cS
      have hsz := toS_size (jn xs)
      generalize jn xs = J at *
      generalize toS J = X at cP c2 hsz
      obtain ⟨M, hM⟩ : ∃ M, J.length = M := ⟨_, rfl⟩
      rw [hM] at hsz hlast c2 cS l2
      obtain ⟨n, hnn⟩ : ∃ n, xs.length = n := ⟨_, rfl⟩
      rw [hnn] at l1 l2 hlast hl
      have hsz' : (X.size : Int) = (M : Int) := by omega
      have q1 : ∀ W : World, (Op.equalIn 10000 35 (.agg #[.int .i64 0, .string ⟨#[]⟩, .int .i64 0, .int .i64 (M : Int)]) (.agg #[.int .i64 0, .string ⟨#[]⟩, .int .i64 0, .int .i64 (M : Int)])).run Try.prog W = .ok true W := fun W => by
        have := eq_lex ⟨0, [], 0, (M : Int)⟩ ⟨0, [], 0, (M : Int)⟩ W
        rw [eqI_refl] at this
        exact this
      generalize xs ++ [(⟨0, [], 0, N⟩ : Lex)] = A at c1 cP cS l1
      generalize ys ++ [(⟨0, [], 0, M⟩ : Lex)] = B at c2 cS l2 hlast
      have la : A.length = n + 1 := by rw [List.length_map] at l1; exact l1
      have HL := Lib.hid l1
      have HM := Lib.hid l2
      have HX := Lib.hid hlast
      have e2 : ((n : Int) + 1 != (n : Int) + 1) = false := by simp
      have e3 : (n : Int) < (n : Int) + 1 := by omega
      have e4 : ¬ (n : Int) < 0 := by omega
      have e5 : (0 : Int) ≤ (n : Int) := by omega
      have e1 : IntKind.i64.wrap ((n : Int)) = (n : Int) := IntWalk.i64_in _ (by omega)
      have e1' : wrap64 (n : Int) = (n : Int) := by rw [← IntWalk.i64_left]; exact e1
      clear hl0 hbig w0 hn h0 x1 y1 al hg hlp hj al1 al2 hpr hmild hS l1 l2 hlast hsz hM hnn la hl xs ys J
      go_enter Try.func8, Try.ntmps8
      go_wp2_with fail
      refine (c1.out _).mono ?_; rintro e w1 ⟨v1, rfl, own1, k1⟩
      have n1 := own1.lexs
      obtain ⟨p1, c1', rfl⟩ := n1.nil
      rw [HL.out] at n1 ⊢
      have n1 := Lib.hid n1
      clear own1
      go_wp2_with fail
      refine (cP.out _ _ n1.out).mono ?_; rintro e w2 ⟨rfl, k2⟩
      have m2 := stepB k1 k2
      have n2 := Lib.hid (n1.out.below k2)
      clear n1
      go_wp2_with fail
      refine (c2.out _).mono ?_; rintro e w3 ⟨v3, rfl, own3, k3⟩
      have m3 := stepB m2 k3
      have n3 := Lib.hid (n2.out.below k3)
      have o3 := own3.lexs
      clear n2 own3
      obtain ⟨b3, off3, c3, e3', a3⟩ := o3.open (by rw [HM.out]; omega)
      rw [HM.out] at e3'
      subst e3'
      obtain ⟨y0, y1', y2, y3⟩ := a3.at_ n _ HX.out
      have y1 : w3.cell? ⟨b3, off3 + n * 4 + 1, none⟩ = some (.string ⟨#[]⟩) := y1'
      have O3 := Lib.hid o3
      clear a3 y1' o3
      go_wp2_with fail
      refine (cS.out _ _ _ n3.out O3.out).mono ?_; rintro e w4 ⟨rfl, k4⟩
      have m4 := stepB m3 k4
      go_wp2_with fail
      refine (alive_any _).mono ?_; rintro e w9 ⟨rfl, k9⟩
      go_wp2_with fail
      go_ret
      exact ⟨rfl, stepB m4 k9⟩
    · have ho := (scan_off (s := b0.data.toList) (by omega)).2 h0
      rw [ho.1] at c1
      have hE : ((scanM b0.data.toList).2.1 != 0) = true := bne_iff_ne.2 h0
      generalize (scanM b0.data.toList).2.1 = E at c1 hE
      generalize (scanM b0.data.toList).2.2 = P at c1
      clear hbig w0 hn h0 ho
      go_enter Try.func8, Try.ntmps8
      go_wp2_with fail
      refine (c1.out _).mono ?_; rintro e w1 ⟨v1, rfl, own1, k1⟩
      have n1 := own1.lexs
      obtain ⟨p1, c1', rfl⟩ := n1.nil
      clear own1 n1
      go_wp2_with fail
      refine (alive_any _).mono ?_; rintro e w9 ⟨rfl, k9⟩
      go_wp2_with fail
      go_ret
      exact ⟨rfl, stepB k1 k9⟩

/-! ### The row's step -/
set_option maxRecDepth 100000 in
theorem lifted (os : Os) (started : os.Started) (H : Type) (enc : TypeId × Value → H) :
    ReturnsInHanded {} Try.checked os 8 .any (Rows.lexerBackSpec.pre6 enc Try.prog Try.f8 Rows.lexerBackRow.domain false) (Rows.lexerBackSpec.post enc Try.prog Try.f8 false true false false) := by
  refine returnsInHanded_of_change (C := Try.checked) own started (by kernel_rfl) Try.func8
    (ChangeSpec.witness6 (enc := enc) (C := Try.checked) false ⟨#[], #[.string ByteArray.empty], []⟩ 8 (by kernel_rfl) (by kernel_rfl) (by kernel_rfl) (by kernel_rfl)) ?_
  intro W base args ds gs before hval0 hW hcnd _
  have hval : ∀ (j : Nat) t v, Try.f8.params[j]? = some t → args[j]? = some v → Value.okWide Try.prog W .any base t v := hval0
  have hW' := hW
  obtain ⟨p, q, hA0, hV, rfl, hfz, hnd⟩ := hW
  have hA : DataW.TrodAll enc Try.prog W 0 (fun _ => true) true Try.f8.params.toList args.toList ds p := hA0
  rw [Try.params8] at hA hval
  obtain ⟨v0, vs0, d0, ds0, p0, q0, hargs, rfl, rfl, h0, r0⟩ := trodAll_cons hA
  obtain ⟨rfl, rfl, rfl⟩ := trodAll_nil r0
  obtain rfl : args = #[v0] := by cases args; simp_all
  obtain ⟨rfl, rfl⟩ := trodVars_none hV
  obtain ⟨b0, rfl, rfl, rfl, w0⟩ := open_string Try.underlying9 (hval 0 9 v0 rfl rfl) h0
  clear hA0 hval0
  simp only [List.append_nil] at hW'
  refine (walk b0 w0 W).mono fun e W' ⟨he, hg⟩ => ?_
  subst he
  exact ⟨_, rfl, _, _, _, [], [], [], hW', (trodAll_cons_mk (shut_bool Try.underlying4 _) trodAll_mk0), (trodAll_cons_mk (shut_string Try.underlying9 w0) trodAll_mk0), rfl, hg.frame _, fun h => by cases h⟩

theorem over : Rows.lexerBackRow.holds Try.pinned (OpenSpec.ofChange Rows.lexerBackSpec) :=
  OpenClaim.holds_of_wide 8 Try.f8 rfl rfl rfl rfl rfl rfl rfl ⟨rfl, rfl, rfl, rfl, rfl⟩ rfl rfl rfl rfl rfl (by kernel_rfl) Try.func8 (by kernel_rfl)
    (of_decide_eq_true (by kernel_rfl)) (by unfold Func.isWrapper; first | (rw [if_pos (by decide +kernel)]; kernel_rfl) | (rw [if_neg (by decide +kernel)]; exact ⟨rfl, rfl⟩))
    (fun os started H enc _ => lifted os started H enc)

/-- The statement. -/
theorem proved : Rows.LexerBackSaid :=
  over
#print axioms proved
end Go.Proofs.Ytdpnmlgadieamaa.lexerBack
