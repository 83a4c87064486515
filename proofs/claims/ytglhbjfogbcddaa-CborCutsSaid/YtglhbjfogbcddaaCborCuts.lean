/-
  For every list of integers and every uint16 the law CborCuts (P5.7) returns true and leaves its arguments alone: a list of integers whose encoding ends too early is ErrShort (the law itself asks this of at most 100 integers). No condition.
-/
import Derived.Test.YtglhbjfogbcddaaRows
import Derived.WalkKit
import Derived.ProofKit
import Derived.OpenShut
import Derived.ShutString
import Derived.ChangeOld
import Derived.Below
import Derived.Test.YtglhbjfogbcddaaCbArg
import Derived.Deep.RegionWith
namespace Go.Proofs.Ytglhbjfogbcddaa.cborCuts
open Go.ChangeShapes Go.WideShapes Go.ChangeAt Go.RowKit Go.Proofs.Ytglhbjfogbcddaa.Cb
open Go.ChangeMaps (open_string shut_string)
set_option linter.unusedVariables false

theorem own : ownKnob Try.prog.godebug = none := by kernel_rfl
theorem laidOut : laidOutB Try.prog = true := by kernel_rfl

def encK (zs : List Int) (k : Nat) : List UInt8 := listE (zs.length : Int) ++ (zs.take k).flatMap intE
theorem intE_le (n : Int) : (intE n).length ≤ 9 := by
  unfold intE
  split
  · rw [headL_length]; have := nOf_le (-1 - n).toNat; omega
  · rw [headL_length]; have := nOf_le n.toNat; omega
theorem listE_le (n : Int) : (listE n).length ≤ 9 := by
  unfold listE
  split
  · exact Nat.zero_le _
  · rw [headL_length]; have := nOf_le n.toNat; omega
theorem encK_succ {zs : List Int} {k : Nat} (h : k < zs.length) : encK zs (k + 1) = encK zs k ++ intE (zs.getD k 0) := by
  unfold encK
  rw [List.take_succ_eq_append_getElem h, List.flatMap_append, List.append_assoc]
  simp [List.getD, h]
theorem encK_le (zs : List Int) : ∀ k, k ≤ zs.length → (encK zs k).length ≤ 9 + 9 * k := by
  intro k
  induction k with
  | zero => intro _; unfold encK; rw [List.take_zero]; have := listE_le (zs.length : Int); simp; omega
  | succ k ih =>
    intro h
    rw [encK_succ h, List.length_append]
    have := ih (by omega)
    have := intE_le (zs.getD k 0)
    omega
theorem encK_split {zs : List Int} {k : Nat} (h : k < zs.length) : ∃ r, encK zs zs.length = encK zs k ++ (intE (zs.getD k 0) ++ r) := by
  refine ⟨(zs.drop (k + 1)).flatMap intE, ?_⟩
  unfold encK
  rw [List.take_length, List.append_assoc]
  congr 1
  conv => lhs; rw [← List.take_append_drop k zs, List.drop_eq_getElem_cons h]
  rw [List.flatMap_append, List.flatMap_cons]
  simp [List.getD, h]
theorem encK_zero (zs : List Int) : encK zs 0 = listE (zs.length : Int) := by unfold encK; simp
theorem encK_at {zs : List Int} (k : Nat) (h : k ≤ zs.length) : ∃ r, encK zs zs.length = encK zs k ++ r := by
  rcases Nat.lt_or_ge k zs.length with h1 | h1
  · obtain ⟨r, hr⟩ := encK_split h1; exact ⟨_, hr⟩
  · obtain rfl : k = zs.length := by omega
    exact ⟨[], by simp⟩
/-- Where a reader of a list that is cut at m stands behind k integers. -/
def At (zs : List Int) (m k pos : Nat) (x : Int) : Prop := pos ≤ m ∧ ((x = 0 ∧ pos = (encK zs k).length) ∨ x = 3)
theorem cut_list {zs : List Int} (hl : zs.length ≤ 100) {m : Nat} : ∃ v p x, listR 0 100 ((encK zs zs.length).take m) = (v, p, x) ∧ (v = (zs.length : Int) ∨ v = 0) ∧ At zs m 0 p x := by
  obtain ⟨r, hr⟩ := encK_at (zs := zs) 0 (Nat.zero_le _)
  rw [encK_zero] at hr
  unfold listR
  rw [if_pos rfl, hr]
  rcases Nat.lt_or_ge m (listE (zs.length : Int)).length with h | h
  · rw [List.take_append_of_le_length (by omega), list_cut (by omega) h]
    exact ⟨_, _, _, rfl, Or.inr rfl, Nat.zero_le _, Or.inr rfl⟩
  · rw [List.take_append, List.take_of_length_le h, list_back (by omega) (by omega) (by omega)]
    exact ⟨_, _, _, rfl, Or.inl rfl, h, Or.inl ⟨rfl, by rw [encK_zero]⟩⟩
theorem cut_int {zs : List Int} {m k pos : Nat} {x z low high : Int} (hk : k < zs.length) (hz : zs.getD k 0 = z) (h1 : -9223372036854775808 ≤ z) (h2 : z ≤ 9223372036854775807) (hl : low ≤ z) (hh : z ≤ high)
    (h : At zs m k pos x) : At zs m (k + 1) (pos + (intR x low high (((encK zs zs.length).take m).drop pos)).2.1) (intR x low high (((encK zs zs.length).take m).drop pos)).2.2 := by
  obtain ⟨hp, ⟨rfl, rfl⟩ | rfl⟩ := h
  · obtain ⟨r, hr⟩ := encK_split hk
    rw [hz] at hr
    unfold intR
    rw [if_pos rfl, hr, List.drop_take, List.drop_left]
    rcases Nat.lt_or_ge (m - (encK zs k).length) (intE z).length with h | h
    · rw [List.take_append_of_le_length (by omega), int_cut h]
      exact ⟨by omega, Or.inr rfl⟩
    · rw [List.take_append, List.take_of_length_le h, int_back h1 h2 hl hh]
      refine ⟨?_, Or.inl ⟨rfl, ?_⟩⟩
      · show (encK zs k).length + (intE z).length ≤ m; omega
      · rw [encK_succ hk, hz, List.length_append]
  · exact ⟨hp, Or.inr rfl⟩
theorem cut_end {zs : List Int} {m pos : Nat} {x : Int} (hm : m < (encK zs zs.length).length) (h : At zs m zs.length pos x) : x = 3 := by
  obtain ⟨hp, ⟨rfl, rfl⟩ | rfl⟩ := h
  · omega
  · rfl
theorem listE_pos {n : Int} (h : 0 ≤ n) : 0 < (listE n).length := by
  unfold listE
  rw [if_neg (by omega), headL_length]
  omega

/-! ### The walk: the law returns true, and writes nothing that was there. -/
set_option maxRecDepth 100000 in
set_option maxHeartbeats 16000000 in
theorem walk (l0 : List Int) (v0 : Value) (a1 : Int) (w1 : (Lit.int .u16 a1).wf = true) (w : World) (h0 : Ints w v0 l0) :
    Calls Try.prog 9 #[v0, .int .u16 a1] w fun e w' => e = .returned (.bool true) ∧ Below w.heap.size w w' := by
  obtain ⟨⟨p, c, rfl, hcell⟩, hbd⟩ := h0
  by_cases hbig : 100 < l0.length
  · have hbig' : (100 : Int) < (l0.length : Int) := by omega
    clear hbig hcell hbd
    go_enter Try.func9, Try.ntmps9
    go_wp2_with fail
    refine (awake_any _).mono ?_; rintro e w1 ⟨rfl, hb⟩
    go_wp2_with fail
    go_ret
    exact ⟨rfl, hb⟩
  · have hl' : (l0.length : Int) ≤ 100 := by omega
    have hln : l0.length ≤ 100 := by omega
    have HC := Lib.hid hcell
    have HB := Lib.hid hbd
    have cL := Lib.hid (fun w => qlist_any (l0.length : Int) w (by omega))
    rw [← encK_zero] at cL
    have ha := bounds_u16 w1
    clear hcell hbd hbig w1
    go_enter Try.func9, Try.ntmps9
    go_wp2_with fail
    refine (cL.out _).mono ?_; rintro e w1 ⟨rfl, k1⟩
    go_wp2_with fail
    go_loopw [5, 6] (fun s i wr => ∃ k : Nat, i = .int .i64 k ∧ k ≤ l0.length ∧ s = .string (toS (encK l0 k)) ∧ Below w.heap.size w wr) (fun _ i _ => l0.length - (intOf i).toNat)
    case atStart => exact ⟨0, rfl, Nat.zero_le _, rfl, k1⟩
    case round =>
      obtain ⟨k, rfl, hk, rfl, hbw⟩ := hrel
      by_cases hlt : k < l0.length
      · obtain ⟨b, off, rfl, hb, hcs⟩ := HC.out (by omega)
        have hck := (hbw.cell hb).trans (hcs k hlt)
        obtain ⟨z, hz⟩ : ∃ z, l0.getD k 0 = z := ⟨_, rfl⟩
        have hzb : -9223372036854775808 ≤ z ∧ z ≤ 9223372036854775807 := by
          rw [← hz]; simp only [List.getD, List.getElem?_eq_getElem hlt, Option.getD_some]; exact HB.out _ (List.getElem_mem hlt)
        have hs := Lib.hid (encK_succ hlt)
        rw [hz] at hck hs
        have cI := Lib.hid (fun w => qint_any z w hzb.1 hzb.2)
        have e1 := add_lists (encK l0 k) (intE z) (by have := encK_le l0 k hk; have := intE_le z; omega)
        rw [← hs.out] at e1
        clear hcs hz hzb hs
        go_wp2_with fail
        refine (cI.out _).mono ?_; rintro e w2 ⟨rfl, k2⟩
        go_wp2_with fail
        exact ⟨⟨k + 1, rfl, hlt, rfl, stepB hbw k2⟩, by simp [intOf]; omega⟩
      · obtain rfl : k = l0.length := by omega
        have hlt' : ¬ (l0.length : Int) < (l0.length : Int) := by omega
        have hE := encK_le l0 l0.length (Nat.le_refl _)
        have hE0 : 0 < (encK l0 l0.length).length := by
          obtain ⟨r, hr⟩ := encK_at (zs := l0) 0 (Nat.zero_le _)
          rw [hr, List.length_append, encK_zero]
          have := listE_pos (n := (l0.length : Int)) (by omega)
          omega
        obtain ⟨m, hm⟩ : ∃ m : Nat, a1.tmod ((encK l0 l0.length).length : Int) = (m : Int) := ⟨(a1.tmod ((encK l0 l0.length).length : Int)).toNat, by have := Int.tmod_nonneg ((encK l0 l0.length).length : Int) ha.1; omega⟩
        have hmE : m < (encK l0 l0.length).length := by
          have := Int.tmod_lt_of_pos a1 (show (0 : Int) < ((encK l0 l0.length).length : Int) by omega)
          omega
        have cl := Lib.hid (cut_list hln (m := m))
        have ci := Lib.hid (fun (k pos : Nat) (x : Int) (hk : k < l0.length) (h : At l0 m k pos x) => cut_int (low := -9223372036854775808) (high := 9223372036854775807) hk rfl (HB.out _ (by simp only [List.getD, List.getElem?_eq_getElem hk, Option.getD_some]; exact List.getElem_mem hk)).1 (HB.out _ (by simp only [List.getD, List.getElem?_eq_getElem hk, Option.getD_some]; exact List.getElem_mem hk)).2 (HB.out _ (by simp only [List.getD, List.getElem?_eq_getElem hk, Option.getD_some]; exact List.getElem_mem hk)).1 (HB.out _ (by simp only [List.getD, List.getElem?_eq_getElem hk, Option.getD_some]; exact List.getElem_mem hk)).2 h)
        have ce := Lib.hid (fun (pos : Nat) (x : Int) (h : At l0 m l0.length pos x) => cut_end hmE h)
        obtain ⟨E, hEd⟩ : ∃ E, encK l0 l0.length = E := ⟨_, rfl⟩
        rw [hEd] at hE hE0 hm hmE cl ci ⊢
        have hEs : (toS E).size = E.length := toS_size _
        obtain ⟨T, hT⟩ : ∃ T, toS E = T := ⟨_, rfl⟩
        rw [hT] at hEs ⊢
        have hsz : (T.size : Int) = (E.length : Int) := by omega
        have hne : ((E.length : Int) == 0) = false := beq_false_of_ne (by omega)
        obtain ⟨S, hS⟩ : ∃ S, T.extract 0 m = S := ⟨_, rfl⟩
        have hSd : S.data.toList = E.take m := by
          rw [← hS, ← hT, Lib.extract_eq]
          simp [toS]
        have hSs : S.size = m := by
          have := congrArg List.length hSd
          rw [Array.length_toList, List.length_take] at this
          have h2 : S.size = S.data.size := rfl
          omega
        have hwr : IntKind.i64.wrap a1 = a1 := IntWalk.i64_in _ (by omega)
        have hwm : IntKind.i64.wrap (m : Int) = (m : Int) := IntWalk.i64_in _ (by omega)
        have hm0 : (0 : Int) ≤ (m : Int) := by omega
        have hmT : (m : Int) ≤ (T.size : Int) := by omega
        have hmn : ((m : Int)).toNat = m := by omega
        have hz0 : ¬ (E.length : Int) = 0 := by omega
        have hS1 : S.size ≤ 100000 := by omega
        obtain ⟨v, p0, x0, hlr, hv, hat0⟩ := cl.out
        go_wp2_with fail
        all_goals (
          refine (qNew_any _ _).mono ?_; rintro e w2 ⟨b, rfl, r2, hb2, k2⟩
          have m2 := stepB hbw k2
          have hb0 : w.heap.size ≤ b := Nat.le_trans hbw.size hb2
          have cR := qList_any b 0 S 0 100 w2 r2 hS1 (Nat.zero_le _) (by decide)
          rw [List.drop_zero, hSd, hlr, Nat.zero_add] at cR
          have cQ := Lib.hid (fun (pos : Nat) (x : Int) (hp : pos ≤ m) (W : World) (h : PR W b S pos x) => qInt_any b pos S x (-9223372036854775808) 9223372036854775807 W h hS1 (by omega))
          rw [hSd] at cQ
          have qE := Lib.hid (fun (pos : Nat) (W : World) (h : PR W b S pos 3) => qErr_any b pos S 3 W h)
          have qN := Lib.hid (fun (pos : Nat) (W : World) (h : PR W b S pos 3) => qEnd_any b pos S 3 W h (fun e => absurd e (by decide)))
          have hend : ∀ p, endV 3 p S.size = 3 := fun p => by unfold endV; rw [if_neg (by omega)]
          simp only [hend] at qN
          clear hbw k2 hb2 hend hSs hS1 hSd hS hT hEs hsz hne hwr hwm hm0 hmT hmn hz0 hlr cl hm hE hE0 hmE
          go_wp2_with fail
          refine cR.mono ?_; rintro e w3 ⟨rfl, r3, g3⟩
          have m3 := stepR m2 g3 hb0
          clear cR r2 m2 g3
          go_wp2_with fail
          go_loopw [9] (fun i wr => ∃ (k pos : Nat) (x : Int), i = .int .i64 k ∧ k ≤ l0.length ∧ At l0 m k pos x ∧ PR wr b S pos x ∧ Below w.heap.size w wr) (fun i _ => l0.length - (intOf i).toNat)
          case atStart => exact ⟨0, p0, x0, rfl, Nat.zero_le _, hat0, r3, m3⟩
          case round =>
            obtain ⟨k, pos, x, rfl, hk, hat, hr, hbw⟩ := hrel
            by_cases hlt : k < l0.length
            · have hnext := ci.out k pos x hlt hat
              have cQ' := Lib.hid (fun W => cQ.out pos x hat.1 W)
              obtain ⟨r, hrd⟩ : ∃ r, intR x (-9223372036854775808) 9223372036854775807 ((E.take m).drop pos) = r := ⟨_, rfl⟩
              rw [hrd] at hnext
              simp only [hrd] at cQ'
              clear hrd
              go_wp2_with fail
              refine (cQ'.out _ hr).mono ?_; rintro e w4 ⟨rfl, r4, g4⟩
              go_wp2_with fail
              exact ⟨⟨k + 1, _, _, rfl, hlt, hnext, r4, stepR hbw g4 hb0⟩, by simp [intOf]; omega⟩
            · obtain rfl : k = l0.length := by omega
              have hlt' : ¬ (l0.length : Int) < (l0.length : Int) := by omega
              obtain rfl := ce.out pos x hat
              have qE := Lib.hid (fun W => qE.out pos W)
              have qN := Lib.hid (fun W => qN.out pos W)
              have hv' : v = (l0.length : Int) ∨ (v = 0 ∧ ¬ (0 : Int) = (l0.length : Int)) := by omega
              rcases hv' with rfl | ⟨rfl, hv0⟩
              · clear hv
                go_wp2_with fail
                refine (qE.out _ hr).mono ?_; rintro e w4 ⟨rfl, k4⟩
                have m4 := stepB hbw k4
                have hr4 := hr.below k4
                go_wp2_with fail
                refine (qN.out _ hr4).mono ?_; rintro e w6 ⟨rfl, k6⟩
                have m6 := stepB m4 k6
                go_wp2_with fail
                refine (awake_any _).mono ?_; rintro e w7 ⟨rfl, k7⟩
                go_wp2_with fail
                go_ret
                exact ⟨rfl, stepB m6 k7⟩
              · have hv3 : ((0 : Int) == (l0.length : Int)) = false := beq_false_of_ne hv0
                clear hv
                go_wp2_with fail
                refine (qE.out _ hr).mono ?_; rintro e w4 ⟨rfl, k4⟩
                have m4 := stepB hbw k4
                have hr4 := hr.below k4
                go_wp2_with fail
                refine (qN.out _ hr4).mono ?_; rintro e w6 ⟨rfl, k6⟩
                have m6 := stepB m4 k6
                go_wp2_with fail
                refine (awake_any _).mono ?_; rintro e w7 ⟨rfl, k7⟩
                go_wp2_with fail
                go_ret
                exact ⟨rfl, stepB m6 k7⟩)

/-! ### The row's step -/
set_option maxRecDepth 100000 in
theorem lifted (os : Os) (started : os.Started) (H : Type) (enc : TypeId × Value → H) :
    ReturnsInHanded {} Try.checked os 9 .any (Rows.cborCutsSpec.pre6 enc Try.prog Try.f9 Rows.cborCutsRow.domain false) (Rows.cborCutsSpec.post enc Try.prog Try.f9 false true false false) := by
  refine returnsInHanded_of_change (C := Try.checked) own started (by kernel_rfl) Try.func9
    (ChangeSpec.witness6 (enc := enc) (C := Try.checked) false ⟨#[], #[.slice none 0 0, .int .u16 0], []⟩ 8 (by kernel_rfl) (by kernel_rfl) (by kernel_rfl) (by kernel_rfl)) ?_
  intro W base args ds gs before hval0 hW hcnd _
  have hval : ∀ (j : Nat) t v, Try.f9.params[j]? = some t → args[j]? = some v → Value.okWide Try.prog W .any base t v := hval0
  have hW' := hW
  obtain ⟨p, q, hA0, hV, rfl, hfz, hnd⟩ := hW
  have hA : DataW.TrodAll enc Try.prog W 0 (fun _ => true) true Try.f9.params.toList args.toList ds p := hA0
  rw [Try.params9] at hA hval
  obtain ⟨v0, vs0, d0, ds0, p0, q0, hargs, rfl, rfl, h0, r0⟩ := trodAll_cons hA
  obtain ⟨v1, vs1, d1, ds1, p1, q1, rfl, rfl, rfl, h1, r1⟩ := trodAll_cons r0
  obtain ⟨rfl, rfl, rfl⟩ := trodAll_nil r1
  obtain rfl : args = #[v0, v1] := by cases args; simp_all
  obtain ⟨rfl, rfl⟩ := trodVars_none hV
  obtain ⟨a0, len0, cap0, rfl⟩ := okWide_slice Try.underlying40 (hval 0 40 v0 rfl rfl)
  have k0 := h0
  have lt0 : ∀ x ∈ p0, x.block < W.heap.size := by obtain ⟨m, hm⟩ := k0; exact DataW.trod_lt m _ _ _ hm
  obtain ⟨l0, s0⟩ := ints_arg h0
  obtain ⟨a1, rfl, rfl, rfl, w1⟩ := open_int Try.underlying47 (hval 1 47 v1 rfl rfl) h1
  clear hA0 hval0
  simp only [List.append_nil] at hW'
  refine (walk l0 _ a1 w1 W s0).mono fun e W' ⟨he, hg⟩ => ?_
  subst he
  exact ⟨_, rfl, _, _, _, [], _, [], hW', trodAll_mk1 (shut_bool Try.underlying4 _), (trodAll_cons_mk (Below.trod laidOut (by kernel_rfl) (of_decide_eq_true (by kernel_rfl)) k0 hg lt0) (trodAll_cons_mk (shut_int Try.underlying47 w1) trodAll_mk0)), rfl, hg.frame _, fun h => by cases h⟩

theorem over : Rows.cborCutsRow.holds Try.pinned (OpenSpec.ofChange Rows.cborCutsSpec) :=
  OpenClaim.holds_of_wide 9 Try.f9 rfl rfl rfl rfl rfl rfl rfl ⟨rfl, rfl, rfl, rfl, rfl⟩ rfl rfl rfl rfl rfl (by kernel_rfl) Try.func9 (by kernel_rfl)
    (of_decide_eq_true (by kernel_rfl)) (by unfold Func.isWrapper; first | (rw [if_pos (by decide +kernel)]; kernel_rfl) | (rw [if_neg (by decide +kernel)]; exact ⟨rfl, rfl⟩))
    (fun os started H enc _ => lifted os started H enc)

/-- The statement. -/
theorem proved : Rows.CborCutsSaid :=
  over
#print axioms proved
end Go.Proofs.Ytglhbjfogbcddaa.cborCuts
