/-
  For every list of integers and every string the law CborNumbers (P5.4, the theorem of the stage) returns true and leaves its arguments alone: integers that are encoded one after the other are read again, whatever follows (the law itself asks this of at most 100 integers and 100 bytes). No condition.
-/
import Derived.Test.YtglhbjfogbcddaaRows
import Derived.WalkKit
import Derived.ProofKit
import Derived.OpenShut
import Derived.ShutString
import Derived.ChangeOld
import Derived.Below
import Derived.Test.YtglhbjfogbcddaaCbArg
import Derived.Deep.RegionWith
namespace Go.Proofs.Ytglhbjfogbcddaa.cborNumbers
open Go.ChangeShapes Go.WideShapes Go.ChangeAt Go.RowKit Go.Proofs.Ytglhbjfogbcddaa.Cb
open Go.ChangeMaps (open_string shut_string)
set_option linter.unusedVariables false

theorem own : ownKnob Try.prog.godebug = none := by kernel_rfl
theorem laidOut : laidOutB Try.prog = true := by kernel_rfl

def encK (zs : List Int) (k : Nat) : List UInt8 := listE (zs.length : Int) ++ (zs.take k).flatMap intE
theorem intE_le (n : Int) : (intE n).length ≤ 9 := by
  unfold intE
  split
  · rw [headL_length]; have := nOf_le (-1 - n).toNat; omega
  · rw [headL_length]; have := nOf_le n.toNat; omega
theorem listE_le (n : Int) : (listE n).length ≤ 9 := by
  unfold listE
  split
  · exact Nat.zero_le _
  · rw [headL_length]; have := nOf_le n.toNat; omega
theorem encK_succ {zs : List Int} {k : Nat} (h : k < zs.length) : encK zs (k + 1) = encK zs k ++ intE (zs.getD k 0) := by
  unfold encK
  rw [List.take_succ_eq_append_getElem h, List.flatMap_append, List.append_assoc]
  simp [List.getD, h]
theorem encK_le (zs : List Int) : ∀ k, k ≤ zs.length → (encK zs k).length ≤ 9 + 9 * k := by
  intro k
  induction k with
  | zero => intro _; unfold encK; rw [List.take_zero]; have := listE_le (zs.length : Int); simp; omega
  | succ k ih =>
    intro h
    rw [encK_succ h, List.length_append]
    have := ih (by omega)
    have := intE_le (zs.getD k 0)
    omega
theorem encK_split {zs : List Int} {k : Nat} (h : k < zs.length) : ∃ r, encK zs zs.length = encK zs k ++ (intE (zs.getD k 0) ++ r) := by
  refine ⟨(zs.drop (k + 1)).flatMap intE, ?_⟩
  unfold encK
  rw [List.take_length, List.append_assoc]
  congr 1
  conv => lhs; rw [← List.take_append_drop k zs, List.drop_eq_getElem_cons h]
  rw [List.flatMap_append, List.flatMap_cons]
  simp [List.getD, h]
theorem encK_zero (zs : List Int) : encK zs 0 = listE (zs.length : Int) := by unfold encK; simp

/-! ### The walk: the law returns true, and writes nothing that was there. -/
set_option maxRecDepth 100000 in
set_option maxHeartbeats 16000000 in
theorem walk (l0 : List Int) (v0 : Value) (b1 : ByteArray) (w1 : b1.size ≤ maxLen) (w : World) (h0 : Ints w v0 l0) :
    Calls Try.prog 5 #[v0, .string b1] w fun e w' => e = .returned (.bool true) ∧ Below w.heap.size w w' := by
  obtain ⟨⟨p, c, rfl, hcell⟩, hbd⟩ := h0
  by_cases hbig : 100 < l0.length
  · have hbig' : (100 : Int) < (l0.length : Int) := by omega
    clear hbig hcell hbd
    go_enter Try.func5, Try.ntmps5
    go_wp2_with fail
    refine (awake_any _).mono ?_; rintro e w1 ⟨rfl, hb⟩
    go_wp2_with fail
    go_ret
    exact ⟨rfl, hb⟩
  · have hl' : (l0.length : Int) ≤ 100 := by omega
    by_cases hbig2 : 100 < b1.size
    · have hbig2' : (100 : Int) < (b1.size : Int) := by omega
      clear hbig hbig2 hcell hbd
      go_enter Try.func5, Try.ntmps5
      go_wp2_with fail
      refine (awake_any _).mono ?_; rintro e w1 ⟨rfl, hb⟩
      go_wp2_with fail
      go_ret
      exact ⟨rfl, hb⟩
    · have hm' : (b1.size : Int) ≤ 100 := by omega
      have HC := Lib.hid hcell
      have HB := Lib.hid hbd
      have cL := Lib.hid (fun w => qlist_any (l0.length : Int) w (by omega))
      rw [← encK_zero] at cL
      clear hcell hbd
      go_enter Try.func5, Try.ntmps5
      go_wp2_with fail
      refine (cL.out _).mono ?_; rintro e w1 ⟨rfl, k1⟩
      go_wp2_with fail
      go_loopw [5, 6] (fun s i wr => ∃ k : Nat, i = .int .i64 k ∧ k ≤ l0.length ∧ s = .string (toS (encK l0 k)) ∧ Below w.heap.size w wr) (fun _ i _ => l0.length - (intOf i).toNat)
      case atStart => exact ⟨0, rfl, Nat.zero_le _, rfl, k1⟩
      case round =>
        obtain ⟨k, rfl, hk, rfl, hbw⟩ := hrel
        by_cases hlt : k < l0.length
        · obtain ⟨b, off, rfl, hb, hcs⟩ := HC.out (by omega)
          have hck := (hbw.cell hb).trans (hcs k hlt)
          obtain ⟨z, hz⟩ : ∃ z, l0.getD k 0 = z := ⟨_, rfl⟩
          have hzb : -9223372036854775808 ≤ z ∧ z ≤ 9223372036854775807 := by
            rw [← hz]; simp only [List.getD, List.getElem?_eq_getElem hlt, Option.getD_some]; exact HB.out _ (List.getElem_mem hlt)
          have hs := Lib.hid (encK_succ hlt)
          rw [hz] at hck hs
          have cI := Lib.hid (fun w => qint_any z w hzb.1 hzb.2)
          have e1 := add_lists (encK l0 k) (intE z) (by have := encK_le l0 k hk; have := intE_le z; omega)
          rw [← hs.out] at e1
          clear hcs hz hzb hs hbig hbig2
          go_wp2_with fail
          refine (cI.out _).mono ?_; rintro e w2 ⟨rfl, k2⟩
          go_wp2_with fail
          exact ⟨⟨k + 1, rfl, hlt, rfl, stepB hbw k2⟩, by simp [intOf]; omega⟩
        · obtain rfl : k = l0.length := by omega
          have hlt' : ¬ (l0.length : Int) < (l0.length : Int) := by omega
          have hE := encK_le l0 l0.length (Nat.le_refl _)
          obtain ⟨E, hEd⟩ : ∃ E, encK l0 l0.length = E := ⟨_, rfl⟩
          have hsp := Lib.hid (fun j (hj : j < l0.length) => encK_split hj)
          rw [hEd] at hE hsp ⊢
          have hEz : (toS E).size ≤ 909 := by rw [toS_size]; omega
          have hE2 : ¬ (2000 : Int) < ((toS E).size : Int) := by omega
          have e1 : ∀ W : World, (Op.stringOp .add (toS E) b1).run Try.prog W = .ok (.string (toS E ++ b1)) W := fun W => run_string_add_sum W _ _ (by omega)
          obtain ⟨S, hS⟩ : ∃ S, toS E ++ b1 = S := ⟨_, rfl⟩
          have hSd := Lib.hid (show S.data.toList = E ++ b1.data.toList by rw [← hS, ByteArray.data_append, Array.toList_append]; rfl)
          have hSz : S.size = E.length + b1.size := by rw [← hS, ByteArray.size_append, toS_size]
          rw [hS] at e1
          have hS1 : S.size ≤ 100000 := by omega
          clear hS hE hEz hbig hbig2
          go_wp2_with fail
          refine (qNew_any _ _).mono ?_; rintro e w2 ⟨b, rfl, r2, hb2, k2⟩
          have m2 := stepB hbw k2
          have hb0 : w.heap.size ≤ b := Nat.le_trans hbw.size hb2
          have cR := qList_any b 0 S 0 (l0.length : Int) w2 r2 hS1 (Nat.zero_le _) (by omega)
          have hlist : listR 0 (l0.length : Int) (S.data.toList.drop 0) = ((l0.length : Int), (encK l0 0).length, 0) := by
            unfold listR
            rw [if_pos rfl, List.drop_zero, hSd.out, encK_zero]
            by_cases hz0 : l0.length = 0
            · have : E = listE (l0.length : Int) := by rw [← hEd, hz0, encK_zero, hz0]
              rw [this]
              exact list_back (by omega) (by omega) (by omega) _
            · obtain ⟨r, hr⟩ := hsp.out 0 (by omega)
              rw [hr, encK_zero, List.append_assoc]
              exact list_back (by omega) (by omega) (by omega) _
          rw [hlist, Nat.zero_add] at cR
          clear hlist hbw k2 hb2
          go_wp2_with fail
          refine cR.mono ?_; rintro e w3 ⟨rfl, r3, g3⟩
          have m3 := stepR m2 g3 hb0
          clear cR r2 m2 g3
          go_wp2_with fail
          go_loopw [8] (fun i wr => ∃ k : Nat, i = .int .i64 k ∧ k ≤ l0.length ∧ PR wr b S (encK l0 k).length 0 ∧ Below w.heap.size w wr) (fun i _ => l0.length - (intOf i).toNat)
          case atStart => exact ⟨0, rfl, Nat.zero_le _, r3, m3⟩
          case round =>
            obtain ⟨k, rfl, hk, hr, hbw⟩ := hrel
            by_cases hlt : k < l0.length
            · obtain ⟨bb, off, rfl, hb, hcs⟩ := HC.out (by omega)
              have hcw := hcs k hlt
              obtain ⟨z, hz⟩ : ∃ z, l0.getD k 0 = z := ⟨_, rfl⟩
              have hzb : -9223372036854775808 ≤ z ∧ z ≤ 9223372036854775807 := by
                rw [← hz]; simp only [List.getD, List.getElem?_eq_getElem hlt, Option.getD_some]; exact HB.out _ (List.getElem_mem hlt)
              have hs := Lib.hid (encK_succ hlt)
              obtain ⟨rest, hrest⟩ := hsp.out k hlt
              rw [hz] at hcw hs hrest
              have hck := (hbw.cell hb).trans hcw
              have hread : intR 0 z z (S.data.toList.drop (encK l0 k).length) = (z, (intE z).length, 0) := by
                unfold intR
                rw [if_pos rfl, hSd.out, hrest, List.append_assoc, List.drop_left, List.append_assoc]
                exact int_back hzb.1 hzb.2 (Int.le_refl _) (Int.le_refl _) _
              have hatS : (encK l0 k).length ≤ S.size := by
                rw [hSz, hrest, List.length_append]; omega
              have cQ := Lib.hid (fun W (h : PR W b S (encK l0 k).length 0) => qInt_any b (encK l0 k).length S 0 z z W h hS1 hatS)
              rw [hread] at cQ
              have hlen : (encK l0 k).length + (intE z).length = (encK l0 (k + 1)).length := by rw [hs.out, List.length_append]
              simp only [hlen] at cQ
              have keepc : ∀ W4 : World, wr.drew.grownBy W4 (some b) → W4.cell? ⟨bb, off + k, none⟩ = some (.int .i64 z) := fun W4 g => by
                refine (World.cell?_of_block (w := wr.drew) (g.block bb (Nat.lt_of_lt_of_le hb hbw.size) (fun e => ?_))).trans hck
                have := Option.some.inj e
                omega
              have KC := Lib.hid keepc
              have hzz : (z != z) = false := by simp
              have hr' : PR wr.drew b S (encK l0 k).length 0 := hr.keep rfl
              clear hcs hcw hz hs hread hrest hlen keepc hatS hzb
              go_wp2_with fail
              go_region_with (go_at_call 22; refine (cQ.out _ hr').mono ?_; rintro e w4 ⟨rfl, r4, g4⟩; have hk4 := KC.out w4 g4)
              all_goals (
                have m4 := stepR hbw.drew g4 hb0
                go_wp2_with fail
                exact ⟨⟨k + 1, rfl, hlt, r4, m4⟩, by simp [intOf]; omega⟩)
            · obtain rfl : k = l0.length := by omega
              have hlt' : ¬ (l0.length : Int) < (l0.length : Int) := by omega
              rw [hEd] at hr
              have hatE : E.length ≤ S.size := by omega
              have qE := Lib.hid (fun W (h : PR W b S E.length 0) => qErr_any b E.length S 0 W h)
              have qL := Lib.hid (fun W (h : PR W b S E.length 0) => qLeft_any b E.length S 0 W h hS1 hatE)
              have qN := Lib.hid (fun W (h : PR W b S E.length 0) => qEnd_any b E.length S 0 W h (fun _ => ⟨hS1, hatE⟩))
              rw [show (S.size : Int) - (E.length : Int) = (b1.size : Int) by omega] at qL
              clear hS1 hatE hsp
              by_cases h0 : b1 = ⟨#[]⟩
              · subst h0
                rw [show endV 0 E.length S.size = 0 by unfold endV; rw [if_neg (by rintro ⟨-, h⟩; rw [hSz] at h; exact absurd h (by simp [ByteArray.size]))]] at qN
                clear hSz hSd
                go_wp2_with fail
                refine (qE.out _ hr).mono ?_; rintro e w4 ⟨rfl, k4⟩
                have m4 := stepB hbw k4
                have hr4 := hr.below k4
                go_wp2_with fail
                refine (qL.out _ hr4).mono ?_; rintro e w5 ⟨rfl, k5⟩
                have m5 := stepB m4 k5
                have hr5 := hr4.below k5
                go_wp2_with fail
                refine (qN.out _ hr5).mono ?_; rintro e w6 ⟨rfl, k6⟩
                have m6 := stepB m5 k6
                go_wp2_with fail
                refine (awake_any _).mono ?_; rintro e w7 ⟨rfl, k7⟩
                go_wp2_with fail
                go_ret
                exact ⟨rfl, stepB m6 k7⟩
              · have h1 : 0 < b1.size := by
                  rcases Nat.eq_zero_or_pos b1.size with h | h
                  · exact absurd (ByteArray.ext (Array.eq_empty_of_size_eq_zero h)) h0
                  · exact h
                rw [show endV 0 E.length S.size = 4 by unfold endV; rw [if_pos ⟨rfl, by omega⟩]] at qN
                have hb3 : b1.toList.isEmpty = false := by
                  cases h : b1.toList with
                  | nil =>
                    rw [Lib.toList_data] at h
                    have := congrArg List.length h
                    simp only [Array.length_toList] at this
                    exact absurd (show b1.size = 0 from this) (by omega)
                  | cons => rfl
                clear hSz hSd h1
                go_wp2_with fail
                refine (qE.out _ hr).mono ?_; rintro e w4 ⟨rfl, k4⟩
                have m4 := stepB hbw k4
                have hr4 := hr.below k4
                go_wp2_with fail
                refine (qL.out _ hr4).mono ?_; rintro e w5 ⟨rfl, k5⟩
                have m5 := stepB m4 k5
                have hr5 := hr4.below k5
                go_wp2_with fail
                refine (qN.out _ hr5).mono ?_; rintro e w6 ⟨rfl, k6⟩
                have m6 := stepB m5 k6
                go_wp2_with fail
                refine (awake_any _).mono ?_; rintro e w7 ⟨rfl, k7⟩
                go_wp2_with fail
                go_ret
                exact ⟨rfl, stepB m6 k7⟩

/-! ### The row's step -/
set_option maxRecDepth 100000 in
theorem lifted (os : Os) (started : os.Started) (H : Type) (enc : TypeId × Value → H) :
    ReturnsInHanded {} Try.checked os 5 .any (Rows.cborNumbersSpec.pre6 enc Try.prog Try.f5 Rows.cborNumbersRow.domain false) (Rows.cborNumbersSpec.post enc Try.prog Try.f5 false true false false) := by
  refine returnsInHanded_of_change (C := Try.checked) own started (by kernel_rfl) Try.func5
    (ChangeSpec.witness6 (enc := enc) (C := Try.checked) false ⟨#[], #[.slice none 0 0, .string ByteArray.empty], []⟩ 8 (by kernel_rfl) (by kernel_rfl) (by kernel_rfl) (by kernel_rfl)) ?_
  intro W base args ds gs before hval0 hW hcnd _
  have hval : ∀ (j : Nat) t v, Try.f5.params[j]? = some t → args[j]? = some v → Value.okWide Try.prog W .any base t v := hval0
  have hW' := hW
  obtain ⟨p, q, hA0, hV, rfl, hfz, hnd⟩ := hW
  have hA : DataW.TrodAll enc Try.prog W 0 (fun _ => true) true Try.f5.params.toList args.toList ds p := hA0
  rw [Try.params5] at hA hval
  obtain ⟨v0, vs0, d0, ds0, p0, q0, hargs, rfl, rfl, h0, r0⟩ := trodAll_cons hA
  obtain ⟨v1, vs1, d1, ds1, p1, q1, rfl, rfl, rfl, h1, r1⟩ := trodAll_cons r0
  obtain ⟨rfl, rfl, rfl⟩ := trodAll_nil r1
  obtain rfl : args = #[v0, v1] := by cases args; simp_all
  obtain ⟨rfl, rfl⟩ := trodVars_none hV
  obtain ⟨a0, len0, cap0, rfl⟩ := okWide_slice Try.underlying40 (hval 0 40 v0 rfl rfl)
  have k0 := h0
  have lt0 : ∀ x ∈ p0, x.block < W.heap.size := by obtain ⟨m, hm⟩ := k0; exact DataW.trod_lt m _ _ _ hm
  obtain ⟨l0, s0⟩ := ints_arg h0
  obtain ⟨b1, rfl, rfl, rfl, w1⟩ := open_string Try.underlying9 (hval 1 9 v1 rfl rfl) h1
  clear hA0 hval0
  simp only [List.append_nil] at hW'
  refine (walk l0 _ b1 w1 W s0).mono fun e W' ⟨he, hg⟩ => ?_
  subst he
  exact ⟨_, rfl, _, _, _, [], _, [], hW', trodAll_mk1 (shut_bool Try.underlying4 _), (trodAll_cons_mk (Below.trod laidOut (by kernel_rfl) (of_decide_eq_true (by kernel_rfl)) k0 hg lt0) (trodAll_cons_mk (shut_string Try.underlying9 w1) trodAll_mk0)), rfl, hg.frame _, fun h => by cases h⟩

theorem over : Rows.cborNumbersRow.holds Try.pinned (OpenSpec.ofChange Rows.cborNumbersSpec) :=
  OpenClaim.holds_of_wide 5 Try.f5 rfl rfl rfl rfl rfl rfl rfl ⟨rfl, rfl, rfl, rfl, rfl⟩ rfl rfl rfl rfl rfl (by kernel_rfl) Try.func5 (by kernel_rfl)
    (of_decide_eq_true (by kernel_rfl)) (by unfold Func.isWrapper; first | (rw [if_pos (by decide +kernel)]; kernel_rfl) | (rw [if_neg (by decide +kernel)]; exact ⟨rfl, rfl⟩))
    (fun os started H enc _ => lifted os started H enc)

/-- The statement. -/
theorem proved : Rows.CborNumbersSaid :=
  over
#print axioms proved
end Go.Proofs.Ytglhbjfogbcddaa.cborNumbers
