/-
  For every string the law LexerQuotes (P7.3) returns true and leaves its argument alone: Quote agrees with the reference, and Scan of what it returns has the string alone (the law itself asks this of at most 1000 bytes). No condition.
-/
import Derived.Test.YtdpnmlgadieamaaRows
import Derived.WalkKit
import Derived.ProofKit
import Derived.OpenShut
import Derived.ShutString
import Derived.ChangeOld
import Derived.Below
import Derived.Test.YtdpnmlgadieamaaLxLaw
namespace Go.Proofs.Ytdpnmlgadieamaa.lexerQuotes
open Go.ChangeShapes Go.WideShapes Go.ChangeAt Go.RowKit Go.Proofs.Ytdpnmlgadieamaa.Lx
open Go.ChangeMaps (open_string shut_string)
set_option linter.unusedVariables false

theorem own : ownKnob Try.prog.godebug = none := by kernel_rfl



/-! ### The walk: the law returns true, and writes nothing that was there. -/
set_option maxRecDepth 100000 in
set_option maxHeartbeats 16000000 in
theorem walk (b0 : ByteArray) (w0 : b0.size ≤ maxLen) (w : World) :
    Calls Try.prog 5 #[.string b0] w fun e w' => e = .returned (.bool true) ∧ Below w.heap.size w w' := by
  by_cases hbig : 1000 < b0.size
  · have hbig' : (1000 : Int) < (b0.size : Int) := by omega
    clear hbig w0
    go_enter Try.func5, Try.ntmps5
    go_wp2_with fail
    refine (alive_any _).mono ?_; rintro e w9 ⟨rfl, k9⟩
    go_wp2_with fail
    go_ret
    exact ⟨rfl, k9⟩
  · have hs : ¬ (1000 : Int) < (b0.size : Int) := by omega
    have c1 := Lib.hid (fun w => qQuote_any b0 w (by omega))
    have c2 := Lib.hid (fun w => rquote_any b0 w (by omega))
    unfold QtEnd at c1 c2
    have hls : b0.data.toList.length ≤ 8000 := by rw [len_data]; omega
    have hql := qb_len b0.data.toList
    rw [len_data] at hql
    by_cases hq : qok b0.data.toList = true
    · have hE : qtE b0.data.toList = 0 := if_pos hq
      have hQ := scan_quote hq hls
      have hV : (qtV b0.data.toList).length ≤ 3000 := by
        unfold qtV
        rw [if_pos hq, List.length_cons, List.length_append]
        show _ + 1 + 1 ≤ _; omega
      rw [hE] at c1 c2
      generalize qtV b0.data.toList = X at c1 c2 hQ hV
      have hXX : ((toS X).toList != (toS X).toList) = false := by simp
      have c3 := Lib.hid (fun w => qScan_any (toS X) w (by rw [toS_size]; omega))
      rw [data_toS, hQ] at c3
      unfold ScEnd at c3
      have hxs : ((toS X).size : Int) = (X.length : Int) := by rw [toS_size]
      have hb0 := toS_data b0
      have hsame : sameBy eqI ([(⟨3, b0.data.toList, 0, 0⟩ : Lex), ⟨0, [], 0, X.length⟩].map toI) [⟨3, b0.data.toList, 0, 0⟩, ⟨0, [], 0, (X.length : Int)⟩] = true := sameBy_refl _
      have cS := Lib.hid (fun (W : World) (va vb : Value) (ha : Lexs W va ([(⟨3, b0.data.toList, 0, 0⟩ : Lex), ⟨0, [], 0, X.length⟩].map toI)) (hb : Lexs W vb [⟨3, b0.data.toList, 0, 0⟩, ⟨0, [], 0, (X.length : Int)⟩]) => rsame_any _ _ va vb W ha hb (by show 2 ≤ 1000000; decide) (by show 2 ≤ 1000000; decide))
      rw [hsame] at cS
      have hM := Lib.hid (fun W => (made_lexs W [⟨3, b0.data.toList, 0, 0⟩, ⟨0, [], 0, (X.length : Int)⟩] : Lexs (W.alloc (.cells #[.int .i64 3, .string (toS b0.data.toList), .int .i64 0, .int .i64 0, .int .i64 0, .string ⟨#[]⟩, .int .i64 0, .int .i64 (X.length : Int)] 35)) (.slice (some ⟨W.heap.size, 0, none⟩) 2 2) _))
      rw [hb0] at hM
      generalize sameBy eqM ([(⟨3, b0.data.toList, 0, 0⟩ : Lex), ⟨0, [], 0, X.length⟩].map toI) [⟨3, b0.data.toList, 0, 0⟩, ⟨0, [], 0, (X.length : Int)⟩] = S at cS
      obtain ⟨Y, hY⟩ : ∃ Y, toS X = Y := ⟨_, rfl⟩
      rw [hY] at c1 c2 c3 hXX hxs
      clear hbig w0 hls hql hq hE hQ hV hsame hb0 hY
      go_enter Try.func5, Try.ntmps5
      go_wp2_with fail
      refine (c1.out _).mono ?_; rintro e w1 ⟨rfl, k1⟩
      go_wp2_with fail
      refine (c2.out _).mono ?_; rintro e w2 ⟨rfl, k2⟩
      have m2 := stepB k1 k2
      go_wp2_with fail
      refine (c3.out _).mono ?_; rintro e w3 ⟨v3, rfl, own3, k3⟩
      have m3 := stepB m2 k3
      have n3 := Lib.hid (own3.lexs.below ((Below.refl w3.heap.size w3).alloc (Nat.le_refl _) (.cells #[.int .i64 3, .string b0, .int .i64 0, .int .i64 0, .int .i64 0, .string ⟨#[]⟩, .int .i64 0, .int .i64 (X.length : Int)] 35)))
      have m3' := m3.alloc m3.size (.cells #[.int .i64 3, .string b0, .int .i64 0, .int .i64 0, .int .i64 0, .string ⟨#[]⟩, .int .i64 0, .int .i64 (X.length : Int)] 35)
      have l3 := Lib.hid (hM.out w3)
      clear own3
      go_wp2_with fail
      refine (cS.out _ _ _ n3.out l3.out).mono ?_; rintro e w4 ⟨rfl, k4⟩
      have m4 := stepB m3' k4
      go_wp2_with fail
      refine (alive_any _).mono ?_; rintro e w9 ⟨rfl, k9⟩
      go_wp2_with fail
      go_ret
      exact ⟨rfl, stepB m4 k9⟩
    · have hE : qtE b0.data.toList = 5 := if_neg hq
      rw [hE] at c1 c2
      generalize qtV b0.data.toList = X at c1 c2
      have hXX : ((toS X).toList != (toS X).toList) = false := by simp
      generalize toS X = Y at c1 c2 hXX
      clear hbig w0 hls hql hq hE
      go_enter Try.func5, Try.ntmps5
      go_wp2_with fail
      refine (c1.out _).mono ?_; rintro e w1 ⟨rfl, k1⟩
      go_wp2_with fail
      refine (c2.out _).mono ?_; rintro e w2 ⟨rfl, k2⟩
      have m2 := stepB k1 k2
      go_wp2_with fail
      refine (alive_any _).mono ?_; rintro e w9 ⟨rfl, k9⟩
      go_wp2_with fail
      go_ret
      exact ⟨rfl, stepB m2 k9⟩

/-! ### The row's step -/
set_option maxRecDepth 100000 in
theorem lifted (os : Os) (started : os.Started) (H : Type) (enc : TypeId × Value → H) :
    ReturnsInHanded {} Try.checked os 5 .any (Rows.lexerQuotesSpec.pre6 enc Try.prog Try.f5 Rows.lexerQuotesRow.domain false) (Rows.lexerQuotesSpec.post enc Try.prog Try.f5 false true false false) := by
  refine returnsInHanded_of_change (C := Try.checked) own started (by kernel_rfl) Try.func5
    (ChangeSpec.witness6 (enc := enc) (C := Try.checked) false ⟨#[], #[.string ByteArray.empty], []⟩ 8 (by kernel_rfl) (by kernel_rfl) (by kernel_rfl) (by kernel_rfl)) ?_
  intro W base args ds gs before hval0 hW hcnd _
  have hval : ∀ (j : Nat) t v, Try.f5.params[j]? = some t → args[j]? = some v → Value.okWide Try.prog W .any base t v := hval0
  have hW' := hW
  obtain ⟨p, q, hA0, hV, rfl, hfz, hnd⟩ := hW
  have hA : DataW.TrodAll enc Try.prog W 0 (fun _ => true) true Try.f5.params.toList args.toList ds p := hA0
  rw [Try.params5] at hA hval
  obtain ⟨v0, vs0, d0, ds0, p0, q0, hargs, rfl, rfl, h0, r0⟩ := trodAll_cons hA
  obtain ⟨rfl, rfl, rfl⟩ := trodAll_nil r0
  obtain rfl : args = #[v0] := by cases args; simp_all
  obtain ⟨rfl, rfl⟩ := trodVars_none hV
  obtain ⟨b0, rfl, rfl, rfl, w0⟩ := open_string Try.underlying9 (hval 0 9 v0 rfl rfl) h0
  clear hA0 hval0
  simp only [List.append_nil] at hW'
  refine (walk b0 w0 W).mono fun e W' ⟨he, hg⟩ => ?_
  subst he
  exact ⟨_, rfl, _, _, _, [], [], [], hW', (trodAll_cons_mk (shut_bool Try.underlying4 _) trodAll_mk0), (trodAll_cons_mk (shut_string Try.underlying9 w0) trodAll_mk0), rfl, hg.frame _, fun h => by cases h⟩

theorem over : Rows.lexerQuotesRow.holds Try.pinned (OpenSpec.ofChange Rows.lexerQuotesSpec) :=
  OpenClaim.holds_of_wide 5 Try.f5 rfl rfl rfl rfl rfl rfl rfl ⟨rfl, rfl, rfl, rfl, rfl⟩ rfl rfl rfl rfl rfl (by kernel_rfl) Try.func5 (by kernel_rfl)
    (of_decide_eq_true (by kernel_rfl)) (by unfold Func.isWrapper; first | (rw [if_pos (by decide +kernel)]; kernel_rfl) | (rw [if_neg (by decide +kernel)]; exact ⟨rfl, rfl⟩))
    (fun os started H enc _ => lifted os started H enc)

/-- The statement. -/
theorem proved : Rows.LexerQuotesSaid :=
  over
#print axioms proved
end Go.Proofs.Ytdpnmlgadieamaa.lexerQuotes
