/-
  For every string s the law CborOnce (P5.5) returns true and leaves its argument alone: what is read has exactly the bytes of its encoding (the law itself asks this of strings of at most 2000 bytes). No condition.
-/
import Derived.Test.YtglhbjfogbcddaaRows
import Derived.WalkKit
import Derived.ProofKit
import Derived.OpenShut
import Derived.ShutString
import Derived.ChangeOld
import Derived.Below
import Derived.Test.YtglhbjfogbcddaaCbOnce
namespace Go.Proofs.Ytglhbjfogbcddaa.cborOnce
open Go.ChangeShapes Go.WideShapes Go.ChangeAt Go.RowKit Go.Proofs.Ytglhbjfogbcddaa.Cb
open Go.ChangeMaps (open_string shut_string)
set_option linter.unusedVariables false

theorem own : ownKnob Try.prog.godebug = none := by kernel_rfl



/-! ### The walk: the law returns true, and writes nothing that was there. -/
set_option maxRecDepth 100000 in
set_option maxHeartbeats 16000000 in
theorem walk (b0 : ByteArray) (w0 : b0.size ≤ maxLen) (w : World) :
    Calls Try.prog 7 #[.string b0] w fun e w' => e = .returned (.bool true) ∧ Below w.heap.size w w' := by
  by_cases hbig : 2000 < b0.size
  · have hbig' : (2000 : Int) < (b0.size : Int) := by omega
    clear hbig
    go_enter Try.func7, Try.ntmps7
    go_wp2_with fail
    refine (awake_any _).mono ?_; rintro e w1 ⟨rfl, hb⟩
    go_wp2_with fail
    go_ret
    exact ⟨rfl, hb⟩
  · have hs' : (b0.size : Int) ≤ 2000 := by omega
    have hs : b0.size ≤ 100000 := by omega
    have cI := Lib.hid (fun b w (h : PR w b b0 0 0) => qInt_any b 0 b0 0 (-9223372036854775808) 9223372036854775807 w h hs (Nat.zero_le _))
    have cT := Lib.hid (fun b w (h : PR w b b0 0 0) => qText_any b 0 b0 0 (b0.size : Int) w h hs (Nat.zero_le _) (by omega))
    have cB := Lib.hid (fun b w (h : PR w b b0 0 0) => qBool_any b 0 b0 0 w h hs (Nat.zero_le _))
    have cL := Lib.hid (fun b w (h : PR w b b0 0 0) => qList_any b 0 b0 0 9223372036854775807 w h hs (Nat.zero_le _) (by decide))
    unfold intR at cI
    unfold textR at cT
    unfold boolR at cB
    unfold listR at cL
    simp only [if_true, List.drop_zero, Nat.zero_add] at cI cT cB cL
    have oI := Lib.hid (once_int b0 (-9223372036854775808) 9223372036854775807)
    have oT := Lib.hid (once_text b0 (b0.size : Int))
    have oB := Lib.hid (once_bool b0)
    have oL := Lib.hid (once_list b0 9223372036854775807)
    obtain ⟨i1, i2, i3, hI⟩ : ∃ v n x, intF (-9223372036854775808) 9223372036854775807 b0.data.toList = (v, n, x) := ⟨_, _, _, rfl⟩
    obtain ⟨t1, t2, t3, hT⟩ : ∃ v n x, textF (b0.size : Int) b0.data.toList = (v, n, x) := ⟨_, _, _, rfl⟩
    obtain ⟨o1, o2, o3, hB⟩ : ∃ v n x, boolF b0.data.toList = (v, n, x) := ⟨_, _, _, rfl⟩
    obtain ⟨l1, l2, l3, hL⟩ : ∃ v n x, listF 9223372036854775807 b0.data.toList = (v, n, x) := ⟨_, _, _, rfl⟩
    have bI : -9223372036854775808 ≤ i1 ∧ i1 ≤ 9223372036854775807 := by
      by_cases hx : i3 = 0
      · subst hx; exact (int_once hI).2.2.2.2.2
      · have := (int_err (low := -9223372036854775808) (high := 9223372036854775807) (l := b0.data.toList) (by rw [hI]; exact hx)).1
        rw [hI] at this
        change i1 = 0 at this
        omega
    have bT : (t1.length : Int) ≤ 100000 := by
      by_cases hx : t3 = 0
      · subst hx; have := (text_once hT).2.2.2; omega
      · have := (text_err (most := (b0.size : Int)) (l := b0.data.toList) (by rw [hT]; exact hx)).1
        rw [hT] at this
        change t1 = [] at this
        rw [this]; decide
    have bL : l1 ≤ 9223372036854775807 := by
      by_cases hx : l3 = 0
      · subst hx; exact (list_once hL).2.2.2.2
      · have := (list_err (most := 9223372036854775807) (l := b0.data.toList) (by rw [hL]; exact hx)).1
        rw [hL] at this
        change l1 = 0 at this
        omega
    rw [hI] at cI oI
    rw [hT] at cT oT
    rw [hB] at cB oB
    rw [hL] at cL oL
    have eI := Lib.hid (fun w => qint_any i1 w bI.1 bI.2)
    have eT := Lib.hid (fun w => qtext_any (toS t1) w (by rw [toS_size]; omega))
    have eB := Lib.hid (fun w => qbool_any o1 w)
    have eL := Lib.hid (fun w => qlist_any l1 w bL)
    rw [data_toS] at eT
    clear hbig w0 hI hT hB hL bI bT bL
    go_enter Try.func7, Try.ntmps7
    go_wp2_with fail
    refine (qNew_any _ _).mono ?_; rintro e w1 ⟨ra, rfl, a1, ha, k1⟩
    go_wp2_with fail
    refine (qNew_any _ _).mono ?_; rintro e w2 ⟨rb, rfl, b2, hb, k2⟩
    have a2 := a1.below k2
    have m2 := stepB k1 k2
    have nab : ra ≠ rb := by have := a1.lt; omega
    have hb0 : w.heap.size ≤ rb := Nat.le_trans k1.size hb
    go_wp2_with fail
    refine (qNew_any _ _).mono ?_; rintro e w3 ⟨rc, rfl, c3, hc, k3⟩
    have a3 := a2.below k3
    have b3 := b2.below k3
    have m3 := stepB m2 k3
    have nac : ra ≠ rc := by have := a2.lt; omega
    have nbc : rb ≠ rc := by have := b2.lt; omega
    have hc0 : w.heap.size ≤ rc := Nat.le_trans m2.size hc
    go_wp2_with fail
    refine (qNew_any _ _).mono ?_; rintro e w4 ⟨rd, rfl, d4, hd, k4⟩
    have a4 := a3.below k4
    have b4 := b3.below k4
    have c4 := c3.below k4
    have m4 := stepB m3 k4
    have nad : ra ≠ rd := by have := a3.lt; omega
    have nbd : rb ≠ rd := by have := b3.lt; omega
    have ncd : rc ≠ rd := by have := c3.lt; omega
    have hd0 : w.heap.size ≤ rd := Nat.le_trans m3.size hd
    clear a1 a2 a3 b2 b3 c3 m2 m3 k1 k2 k3 k4 hb hc hd
    go_wp2_with fail
    refine (cI.out _ _ a4).mono ?_; rintro e w5 ⟨rfl, a5, g5⟩
    have b5 := b4.grown g5 (Ne.symm nab)
    have c5 := c4.grown g5 (Ne.symm nac)
    have d5 := d4.grown g5 (Ne.symm nad)
    have m5 := stepR m4 g5 ha
    clear a4 b4 c4 d4 m4 g5
    go_wp2_with fail
    refine (cT.out _ _ b5).mono ?_; rintro e w6 ⟨rfl, b6, g6⟩
    have a6 := a5.grown g6 nab
    have c6 := c5.grown g6 (Ne.symm nbc)
    have d6 := d5.grown g6 (Ne.symm nbd)
    have m6 := stepR m5 g6 hb0
    clear a5 b5 c5 d5 m5 g6
    go_wp2_with fail
    refine (cB.out _ _ c6).mono ?_; rintro e w7 ⟨rfl, c7, g7⟩
    have a7 := a6.grown g7 nac
    have b7 := b6.grown g7 nbc
    have d7 := d6.grown g7 (Ne.symm ncd)
    have m7 := stepR m6 g7 hc0
    clear a6 b6 c6 d6 m6 g7
    go_wp2_with fail
    refine (cL.out _ _ d7).mono ?_; rintro e w8 ⟨rfl, d8, g8⟩
    have a8 := a7.grown g8 nad
    have b8 := b7.grown g8 nbd
    have c8 := c7.grown g8 ncd
    have m8 := stepR m7 g8 hd0
    clear a7 b7 c7 d7 m7 g8
    go_wp2_with fail
    refine (eI.out _).mono ?_; rintro e w9 ⟨rfl, k9⟩
    have m9 := stepB m8 k9
    have a9 := a8.below k9
    have b9 := b8.below k9
    have c9 := c8.below k9
    have d9 := d8.below k9
    go_wp2_with fail
    refine (once_any _ _ _ _ _ _ a9 hs oI.out).mono ?_; rintro e w10 ⟨rfl, k10⟩
    have m10 := stepB m9 k10
    have b10 := b9.below k10
    have c10 := c9.below k10
    have d10 := d9.below k10
    go_wp2_with fail
    refine (eT.out _).mono ?_; rintro e w11 ⟨rfl, k11⟩
    have m11 := stepB m10 k11
    have b11 := b10.below k11
    have c11 := c10.below k11
    have d11 := d10.below k11
    go_wp2_with fail
    refine (once_any _ _ _ _ _ _ b11 hs oT.out).mono ?_; rintro e w12 ⟨rfl, k12⟩
    have m12 := stepB m11 k12
    have c12 := c11.below k12
    have d12 := d11.below k12
    go_wp2_with fail
    refine (eB.out _).mono ?_; rintro e w13 ⟨rfl, k13⟩
    have m13 := stepB m12 k13
    have c13 := c12.below k13
    have d13 := d12.below k13
    go_wp2_with fail
    refine (once_any _ _ _ _ _ _ c13 hs oB.out).mono ?_; rintro e w14 ⟨rfl, k14⟩
    have m14 := stepB m13 k14
    have d14 := d13.below k14
    go_wp2_with fail
    refine (eL.out _).mono ?_; rintro e w15 ⟨rfl, k15⟩
    have m15 := stepB m14 k15
    have d15 := d14.below k15
    go_wp2_with fail
    refine (once_any _ _ _ _ _ _ d15 hs oL.out).mono ?_; rintro e w16 ⟨rfl, k16⟩
    have m16 := stepB m15 k16
    go_wp2_with fail
    refine (awake_any _).mono ?_; rintro e w17 ⟨rfl, k17⟩
    go_wp2_with fail
    go_ret
    exact ⟨rfl, stepB m16 k17⟩

/-! ### The row's step -/
set_option maxRecDepth 100000 in
theorem lifted (os : Os) (started : os.Started) (H : Type) (enc : TypeId × Value → H) :
    ReturnsInHanded {} Try.checked os 7 .any (Rows.cborOnceSpec.pre6 enc Try.prog Try.f7 Rows.cborOnceRow.domain false) (Rows.cborOnceSpec.post enc Try.prog Try.f7 false true false false) := by
  refine returnsInHanded_of_change (C := Try.checked) own started (by kernel_rfl) Try.func7
    (ChangeSpec.witness6 (enc := enc) (C := Try.checked) false ⟨#[], #[.string ByteArray.empty], []⟩ 8 (by kernel_rfl) (by kernel_rfl) (by kernel_rfl) (by kernel_rfl)) ?_
  intro W base args ds gs before hval0 hW hcnd _
  have hval : ∀ (j : Nat) t v, Try.f7.params[j]? = some t → args[j]? = some v → Value.okWide Try.prog W .any base t v := hval0
  have hW' := hW
  obtain ⟨p, q, hA0, hV, rfl, hfz, hnd⟩ := hW
  have hA : DataW.TrodAll enc Try.prog W 0 (fun _ => true) true Try.f7.params.toList args.toList ds p := hA0
  rw [Try.params7] at hA hval
  obtain ⟨v0, vs0, d0, ds0, p0, q0, hargs, rfl, rfl, h0, r0⟩ := trodAll_cons hA
  obtain ⟨rfl, rfl, rfl⟩ := trodAll_nil r0
  obtain rfl : args = #[v0] := by cases args; simp_all
  obtain ⟨rfl, rfl⟩ := trodVars_none hV
  obtain ⟨b0, rfl, rfl, rfl, w0⟩ := open_string Try.underlying9 (hval 0 9 v0 rfl rfl) h0
  clear hA0 hval0
  simp only [List.append_nil] at hW'
  refine (walk b0 w0 W).mono fun e W' ⟨he, hg⟩ => ?_
  subst he
  exact ⟨_, rfl, _, _, _, [], [], [], hW', (trodAll_cons_mk (shut_bool Try.underlying4 _) trodAll_mk0), (trodAll_cons_mk (shut_string Try.underlying9 w0) trodAll_mk0), rfl, hg.frame _, fun h => by cases h⟩

theorem over : Rows.cborOnceRow.holds Try.pinned (OpenSpec.ofChange Rows.cborOnceSpec) :=
  OpenClaim.holds_of_wide 7 Try.f7 rfl rfl rfl rfl rfl rfl rfl ⟨rfl, rfl, rfl, rfl, rfl⟩ rfl rfl rfl rfl rfl (by kernel_rfl) Try.func7 (by kernel_rfl)
    (of_decide_eq_true (by kernel_rfl)) (by unfold Func.isWrapper; first | (rw [if_pos (by decide +kernel)]; kernel_rfl) | (rw [if_neg (by decide +kernel)]; exact ⟨rfl, rfl⟩))
    (fun os started H enc _ => lifted os started H enc)

/-- The statement. -/
theorem proved : Rows.CborOnceSaid :=
  over
#print axioms proved
end Go.Proofs.Ytglhbjfogbcddaa.cborOnce
