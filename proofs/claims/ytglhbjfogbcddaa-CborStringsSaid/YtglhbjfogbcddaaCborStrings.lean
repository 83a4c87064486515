/-
  For all lists of strings and of booleans and every string the law CborStrings (P5.4) returns true and leaves its arguments alone: strings and booleans that are encoded one after the other are read again, whatever follows (the law itself asks this of at most 60 strings of at most 300 bytes, 60 booleans and 100 bytes). No condition.
-/
import Derived.Test.YtglhbjfogbcddaaRows
import Derived.WalkKit
import Derived.ProofKit
import Derived.OpenShut
import Derived.ShutString
import Derived.ChangeOld
import Derived.Below
import Derived.Test.YtglhbjfogbcddaaCbSlices
import Derived.Deep.RegionWith
namespace Go.Proofs.Ytglhbjfogbcddaa.cborStrings
open Go.ChangeShapes Go.WideShapes Go.ChangeAt Go.RowKit Go.Proofs.Ytglhbjfogbcddaa.Cb
open Go.ChangeMaps (open_string shut_string)
set_option linter.unusedVariables false

theorem own : ownKnob Try.prog.godebug = none := by kernel_rfl
theorem laidOut : laidOutB Try.prog = true := by kernel_rfl

def encS (L : List ByteArray) (k : Nat) : List UInt8 := (L.take k).flatMap fun t => textE t.data.toList
def encB (L : List ByteArray) (B : List Bool) (k : Nat) : List UInt8 := encS L L.length ++ (B.take k).flatMap boolE
theorem size_data (t : ByteArray) : t.data.toList.length = t.size := by rw [Array.length_toList]; rfl
theorem textE_le (t : ByteArray) (h : t.size ≤ 300) : (textE t.data.toList).length ≤ 309 := by
  unfold textE
  rw [List.length_append, headL_length, size_data]
  have := nOf_le t.size
  omega
theorem boolE_len (b : Bool) : (boolE b).length = 1 := by cases b <;> rfl
theorem encS_succ {L : List ByteArray} {k : Nat} (h : k < L.length) : encS L (k + 1) = encS L k ++ textE (L.getD k ⟨#[]⟩).data.toList := by
  unfold encS
  rw [List.take_succ_eq_append_getElem h, List.flatMap_append]
  simp [List.getD, h]
theorem encB_succ {L : List ByteArray} {B : List Bool} {k : Nat} (h : k < B.length) : encB L B (k + 1) = encB L B k ++ boolE (B.getD k false) := by
  unfold encB
  rw [List.take_succ_eq_append_getElem h, List.flatMap_append, List.append_assoc]
  simp [List.getD, h]
theorem encB_zero (L : List ByteArray) (B : List Bool) : encB L B 0 = encS L L.length := by unfold encB; simp
theorem encS_le (L : List ByteArray) : ∀ k, k ≤ L.length → (∀ j, j < k → (L.getD j ⟨#[]⟩).size ≤ 300) → (encS L k).length ≤ 309 * k := by
  intro k
  induction k with
  | zero => intro _ _; unfold encS; rw [List.take_zero]; exact Nat.zero_le _
  | succ k ih =>
    intro h hs
    rw [encS_succ h, List.length_append]
    have := ih (by omega) (fun j hj => hs j (by omega))
    have := textE_le _ (hs k (by omega))
    omega
theorem encB_len (L : List ByteArray) (B : List Bool) : ∀ k, k ≤ B.length → (encB L B k).length = (encS L L.length).length + k := by
  intro k
  induction k with
  | zero => intro _; rw [encB_zero]; omega
  | succ k ih =>
    intro h
    rw [encB_succ h, List.length_append, ih (by omega), boolE_len]
    omega
theorem encS_split {L : List ByteArray} {B : List Bool} {k : Nat} (h : k < L.length) : ∃ r, encB L B B.length = encS L k ++ (textE (L.getD k ⟨#[]⟩).data.toList ++ r) := by
  refine ⟨(L.drop (k + 1)).flatMap (fun t => textE t.data.toList) ++ (B.take B.length).flatMap boolE, ?_⟩
  unfold encB encS
  rw [List.take_length, ← List.append_assoc, ← List.append_assoc]
  congr 1
  conv => lhs; rw [← List.take_append_drop k L, List.drop_eq_getElem_cons h]
  rw [List.flatMap_append, List.flatMap_cons, List.append_assoc]
  simp [List.getD, h]
theorem encB_split {L : List ByteArray} {B : List Bool} {k : Nat} (h : k < B.length) : ∃ r, encB L B B.length = encB L B k ++ (boolE (B.getD k false) ++ r) := by
  refine ⟨(B.drop (k + 1)).flatMap boolE, ?_⟩
  unfold encB
  rw [List.take_length, List.append_assoc]
  congr 1
  conv => lhs; rw [← List.take_append_drop k B, List.drop_eq_getElem_cons h]
  rw [List.flatMap_append, List.flatMap_cons]
  simp [List.getD, h]
theorem toS_data (t : ByteArray) : toS t.data.toList = t := by unfold toS; cases t; simp

/-! ### The walk: the law returns true, and writes nothing that was there. -/
set_option maxRecDepth 100000 in
set_option maxHeartbeats 16000000 in
theorem walk (l0 : List ByteArray) (v0 : Value) (l1 : List Bool) (v1 : Value) (b2 : ByteArray) (w2 : b2.size ≤ maxLen) (w : World) (h0 : Strs w v0 l0) (h1 : Bools w v1 l1) :
    Calls Try.prog 6 #[v0, v1, .string b2] w fun e w' => e = .returned (.bool true) ∧ Below w.heap.size w w' := by
  obtain ⟨p, c, rfl, hcell⟩ := h0
  obtain ⟨p1, c1, rfl, hcell1⟩ := h1
  have hmax := w2
  clear w2
  by_cases hbig : 60 < l0.length
  · have hbig' : (60 : Int) < (l0.length : Int) := by omega
    clear hbig hcell hcell1
    go_enter Try.func6, Try.ntmps6
    go_wp2_with fail
    refine (awake_any _).mono ?_; rintro e w1 ⟨rfl, hb⟩
    go_wp2_with fail
    go_ret
    exact ⟨rfl, hb⟩
  by_cases hbig1 : 60 < l1.length
  · have hbig' : ¬ (60 : Int) < (l0.length : Int) := by omega
    have hbig1' : (60 : Int) < (l1.length : Int) := by omega
    clear hbig hbig1 hcell hcell1
    go_enter Try.func6, Try.ntmps6
    go_wp2_with fail
    refine (awake_any _).mono ?_; rintro e w1 ⟨rfl, hb⟩
    go_wp2_with fail
    go_ret
    exact ⟨rfl, hb⟩
  by_cases hbig2 : 100 < b2.size
  · have hbig' : ¬ (60 : Int) < (l0.length : Int) := by omega
    have hbig1' : ¬ (60 : Int) < (l1.length : Int) := by omega
    have hbig2' : (100 : Int) < (b2.size : Int) := by omega
    clear hbig hbig1 hbig2 hcell hcell1
    go_enter Try.func6, Try.ntmps6
    go_wp2_with fail
    refine (awake_any _).mono ?_; rintro e w1 ⟨rfl, hb⟩
    go_wp2_with fail
    go_ret
    exact ⟨rfl, hb⟩
  have hl0 : ¬ (60 : Int) < (l0.length : Int) := by omega
  have hl1 : ¬ (60 : Int) < (l1.length : Int) := by omega
  have hl2 : ¬ (100 : Int) < (b2.size : Int) := by omega
  have hn0 : l0.length ≤ 60 := by omega
  have hn1 : l1.length ≤ 60 := by omega
  have hn2 : b2.size ≤ 100 := by omega
  have HC := Lib.hid hcell
  have HD := Lib.hid hcell1
  clear hcell hcell1 hbig hbig1 hbig2 hmax
  go_enter Try.func6, Try.ntmps6
  go_wp2_with fail
  go_loopw [7, 8] (fun s i wr => ∃ k : Nat, i = .int .i64 k ∧ k ≤ l0.length ∧ s = .string (toS (encS l0 k)) ∧ (∀ j, j < k → (l0.getD j ⟨#[]⟩).size ≤ 300) ∧ Below w.heap.size w wr) (fun _ i _ => l0.length - (intOf i).toNat)
  case atStart => exact ⟨0, rfl, Nat.zero_le _, rfl, fun j hj => absurd hj (Nat.not_lt_zero j), Below.refl _ _⟩
  case round =>
    obtain ⟨k, rfl, hk, rfl, hsz, hbw⟩ := hrel
    have HS := Lib.hid hsz
    clear hsz
    by_cases hlt : k < l0.length
    · obtain ⟨b, off, rfl, hb, hcs⟩ := HC.out (by omega)
      have hck := (hbw.cell hb).trans (hcs k hlt)
      have hs := Lib.hid (encS_succ hlt)
      have hle := encS_le l0 k hk HS.out
      obtain ⟨t, ht⟩ : ∃ t, l0.getD k ⟨#[]⟩ = t := ⟨_, rfl⟩
      rw [ht] at hck hs
      by_cases hbt : 300 < t.size
      · have hbt' : (300 : Int) < (t.size : Int) := by omega
        clear hcs hbt hs ht hle
        go_wp2_with fail
        refine (awake_any _).mono ?_; rintro e w1 ⟨rfl, k1⟩
        go_wp2_with fail
        go_ret
        exact ⟨rfl, stepB hbw k1⟩
      · have hbt' : ¬ (300 : Int) < (t.size : Int) := by omega
        have cT := Lib.hid (fun w => qtext_any t w (by omega))
        have e1 := add_lists (encS l0 k) (textE t.data.toList) (by have := textE_le t (by omega); omega)
        rw [← hs.out] at e1
        have HS' := Lib.hid (show ∀ j, j < k + 1 → (l0.getD j ⟨#[]⟩).size ≤ 300 from fun j hj => by
          rcases Nat.lt_or_ge j k with h | h
          · exact HS.out j h
          · obtain rfl : j = k := by omega
            rw [ht]; omega)
        clear hcs hs ht hbt hle
        go_wp2_with fail
        refine (cT.out _).mono ?_; rintro e w2 ⟨rfl, k2⟩
        go_wp2_with fail
        exact ⟨⟨k + 1, rfl, hlt, rfl, HS'.out, stepB hbw k2⟩, by simp [intOf]; omega⟩
    · obtain rfl : k = l0.length := by omega
      have hlt' : ¬ (l0.length : Int) < (l0.length : Int) := by omega
      have hleS := encS_le l0 l0.length (Nat.le_refl _) HS.out
      rw [← encB_zero l0 l1] at *
      go_wp2_with fail
      go_loopw [7, 9] (fun s i wr => ∃ k : Nat, i = .int .i64 k ∧ k ≤ l1.length ∧ s = .string (toS (encB l0 l1 k)) ∧ Below w.heap.size w wr) (fun _ i _ => l1.length - (intOf i).toNat)
      case atStart => exact ⟨0, rfl, Nat.zero_le _, rfl, hbw⟩
      case round =>
        clear hbw
        obtain ⟨k, rfl, hk, rfl, hbw⟩ := hrel
        by_cases hlt2 : k < l1.length
        · obtain ⟨b, off, rfl, hb, hcs⟩ := HD.out (by omega)
          have hck := (hbw.cell hb).trans (hcs k hlt2)
          have hs := Lib.hid (encB_succ (L := l0) hlt2)
          have hle := encB_len l0 l1 k hk
          rw [← encB_zero l0 l1] at hle
          obtain ⟨t, ht⟩ : ∃ t, l1.getD k false = t := ⟨_, rfl⟩
          rw [ht] at hck hs
          have cT := Lib.hid (fun w => qbool_any t w)
          have e1 := add_lists (encB l0 l1 k) (boolE t) (by have := boolE_len t; omega)
          rw [← hs.out] at e1
          clear hcs hs ht hle
          go_wp2_with fail
          refine (cT.out _).mono ?_; rintro e w2 ⟨rfl, k2⟩
          go_wp2_with fail
          exact ⟨⟨k + 1, rfl, hlt2, rfl, stepB hbw k2⟩, by simp [intOf]; omega⟩
        · obtain rfl : k = l1.length := by omega
          have hlt2' : ¬ (l1.length : Int) < (l1.length : Int) := by omega
          have hE := encB_len l0 l1 l1.length (Nat.le_refl _)
          rw [← encB_zero l0 l1] at hE
          have hsp := Lib.hid (fun j (hj : j < l0.length) => encS_split (B := l1) hj)
          have hspB := Lib.hid (fun j (hj : j < l1.length) => encB_split (L := l0) hj)
          obtain ⟨E, hEd⟩ : ∃ E, encB l0 l1 l1.length = E := ⟨_, rfl⟩
          rw [hEd] at hE hsp hspB ⊢
          have hEl : E.length ≤ 20000 := by omega
          have e1 : ∀ W : World, (Op.stringOp .add (toS E) b2).run Try.prog W = .ok (.string (toS E ++ b2)) W := fun W => run_string_add_sum W _ _ (by rw [toS_size]; omega)
          obtain ⟨S, hS⟩ : ∃ S, toS E ++ b2 = S := ⟨_, rfl⟩
          have hSd := Lib.hid (show S.data.toList = E ++ b2.data.toList by rw [← hS, ByteArray.data_append, Array.toList_append]; rfl)
          have hSz : S.size = E.length + b2.size := by rw [← hS, ByteArray.size_append, toS_size]
          rw [hS] at e1
          have hS1 : S.size ≤ 100000 := by omega
          clear hS
          go_wp2_with fail
          refine (qNew_any _ _).mono ?_; rintro e w2 ⟨b, rfl, r2, hb2, k2⟩
          have m2 := stepB hbw k2
          have hb0 : w.heap.size ≤ b := Nat.le_trans hbw.size hb2
          clear hbw k2 hb2
          go_wp2_with fail
          go_loopw [11] (fun i wr => ∃ k : Nat, i = .int .i64 k ∧ k ≤ l0.length ∧ PR wr b S (encS l0 k).length 0 ∧ Below w.heap.size w wr) (fun i _ => l0.length - (intOf i).toNat)
          case atStart => exact ⟨0, rfl, Nat.zero_le _, r2, m2⟩
          case round =>
            obtain ⟨k, rfl, hk, hr, hbw⟩ := hrel
            by_cases hlt3 : k < l0.length
            · obtain ⟨bb, off, rfl, hb, hcs⟩ := HC.out (by omega)
              have hcw := hcs k hlt3
              have hs := Lib.hid (encS_succ hlt3)
              obtain ⟨rest, hrest⟩ := hsp.out k hlt3
              have ht3 := HS.out k hlt3
              obtain ⟨t, ht⟩ : ∃ t, l0.getD k ⟨#[]⟩ = t := ⟨_, rfl⟩
              rw [ht] at hcw hs hrest ht3
              have hck := (hbw.cell hb).trans hcw
              have hread : textR 0 (t.size : Int) (S.data.toList.drop (encS l0 k).length) = (t.data.toList, (textE t.data.toList).length, 0) := by
                unfold textR
                rw [if_pos rfl, hSd.out, hrest, List.append_assoc, List.drop_left, List.append_assoc]
                exact text_back (by rw [size_data]; omega) (by rw [size_data]; omega) _
              have hatS : (encS l0 k).length ≤ S.size := by
                rw [hSz, hrest, List.length_append]; omega
              have cQ := Lib.hid (fun W (h : PR W b S (encS l0 k).length 0) => qText_any b (encS l0 k).length S 0 (t.size : Int) W h hS1 hatS (by omega))
              rw [hread] at cQ
              simp only [toS_data] at cQ
              have hlen : (encS l0 k).length + (textE t.data.toList).length = (encS l0 (k + 1)).length := by rw [hs.out, List.length_append]
              simp only [hlen] at cQ
              have keepc : ∀ W4 : World, wr.drew.grownBy W4 (some b) → W4.cell? ⟨bb, off + k, none⟩ = some (.string t) := fun W4 g => by
                refine (World.cell?_of_block (w := wr.drew) (g.block bb (Nat.lt_of_lt_of_le hb hbw.size) (fun e => ?_))).trans hck
                have := Option.some.inj e
                omega
              have KC := Lib.hid keepc
              have hq : (t.toList == t.toList) = true := beq_self_eq_true _
              have hr' : PR wr.drew b S (encS l0 k).length 0 := hr.keep rfl
              clear hcs hcw ht hs hread hrest hlen keepc hatS hE hEl hSz hS1 hleS hEd
              go_wp2_with fail
              go_region_with (go_at_call 24; refine (cQ.out _ hr').mono ?_; rintro e w4 ⟨rfl, r4, g4⟩; have hk4 := KC.out w4 g4)
              all_goals (
                have m4 := stepR hbw.drew g4 hb0
                go_wp2_with fail
                exact ⟨⟨k + 1, rfl, hlt3, r4, m4⟩, by simp [intOf]; omega⟩)
            · obtain rfl : k = l0.length := by omega
              have hr0 := hr
              rw [← encB_zero l0 l1] at hr0
              clear hr
              go_wp2_with fail
              go_loopw [12] (fun i wr => ∃ k : Nat, i = .int .i64 k ∧ k ≤ l1.length ∧ PR wr b S (encB l0 l1 k).length 0 ∧ Below w.heap.size w wr) (fun i _ => l1.length - (intOf i).toNat)
              case atStart => exact ⟨0, rfl, Nat.zero_le _, hr0, hbw⟩
              case round =>
                clear hbw
                obtain ⟨k, rfl, hk, hr, hbw⟩ := hrel
                by_cases hlt4 : k < l1.length
                · obtain ⟨bb, off, rfl, hb, hcs⟩ := HD.out (by omega)
                  have hcw := hcs k hlt4
                  have hs := Lib.hid (encB_succ (L := l0) hlt4)
                  obtain ⟨rest, hrest⟩ := hspB.out k hlt4
                  obtain ⟨t, ht⟩ : ∃ t, l1.getD k false = t := ⟨_, rfl⟩
                  rw [ht] at hcw hs hrest
                  have hck := (hbw.cell hb).trans hcw
                  have hread : boolR 0 (S.data.toList.drop (encB l0 l1 k).length) = (t, (boolE t).length, 0) := by
                    unfold boolR
                    rw [if_pos rfl, hSd.out, hrest, List.append_assoc, List.drop_left, List.append_assoc]
                    exact bool_back _ _
                  have hatS : (encB l0 l1 k).length ≤ S.size := by
                    rw [hSz, hrest, List.length_append]; omega
                  have cQ := Lib.hid (fun W (h : PR W b S (encB l0 l1 k).length 0) => qBool_any b (encB l0 l1 k).length S 0 W h hS1 hatS)
                  rw [hread] at cQ
                  have hlen : (encB l0 l1 k).length + (boolE t).length = (encB l0 l1 (k + 1)).length := by rw [hs.out, List.length_append]
                  simp only [hlen] at cQ
                  have keepc : ∀ W4 : World, wr.drew.grownBy W4 (some b) → W4.cell? ⟨bb, off + k, none⟩ = some (.bool t) := fun W4 g => by
                    refine (World.cell?_of_block (w := wr.drew) (g.block bb (Nat.lt_of_lt_of_le hb hbw.size) (fun e => ?_))).trans hck
                    have := Option.some.inj e
                    omega
                  have KC := Lib.hid keepc
                  have hq : (t == t) = true := beq_self_eq_true _
                  have hq2 : (t != t) = false := by cases t <;> rfl
                  have hr' : PR wr.drew b S (encB l0 l1 k).length 0 := hr.keep rfl
                  clear hcs hcw ht hs hread hrest hlen keepc hatS hE hEl hSz hS1 hleS hEd
                  go_wp2_with fail
                  go_region_with (go_at_call 26; refine (cQ.out _ hr').mono ?_; rintro e w4 ⟨rfl, r4, g4⟩; have hk4 := KC.out w4 g4)
                  all_goals (
                    have m4 := stepR hbw.drew g4 hb0
                    go_wp2_with fail
                    exact ⟨⟨k + 1, rfl, hlt4, r4, m4⟩, by simp [intOf]; omega⟩)
                · obtain rfl : k = l1.length := by omega
                  rw [hEd] at hr
                  have hatE : E.length ≤ S.size := by omega
                  have qE := Lib.hid (fun W (h : PR W b S E.length 0) => qErr_any b E.length S 0 W h)
                  have qL := Lib.hid (fun W (h : PR W b S E.length 0) => qLeft_any b E.length S 0 W h hS1 hatE)
                  rw [show (S.size : Int) - (E.length : Int) = (b2.size : Int) by omega] at qL
                  clear hS1 hatE hsp hspB hE hEl hSz hleS hSd hEd
                  go_wp2_with fail
                  refine (qE.out _ hr).mono ?_; rintro e w4 ⟨rfl, k4⟩
                  have m4 := stepB hbw k4
                  have hr4 := hr.below k4
                  go_wp2_with fail
                  refine (qL.out _ hr4).mono ?_; rintro e w5 ⟨rfl, k5⟩
                  have m5 := stepB m4 k5
                  go_wp2_with fail
                  refine (awake_any _).mono ?_; rintro e w7 ⟨rfl, k7⟩
                  go_wp2_with fail
                  go_ret
                  exact ⟨rfl, stepB m5 k7⟩

/-! ### The row's step -/
set_option maxRecDepth 100000 in
theorem lifted (os : Os) (started : os.Started) (H : Type) (enc : TypeId × Value → H) :
    ReturnsInHanded {} Try.checked os 6 .any (Rows.cborStringsSpec.pre6 enc Try.prog Try.f6 Rows.cborStringsRow.domain false) (Rows.cborStringsSpec.post enc Try.prog Try.f6 false true false false) := by
  refine returnsInHanded_of_change (C := Try.checked) own started (by kernel_rfl) Try.func6
    (ChangeSpec.witness6 (enc := enc) (C := Try.checked) false ⟨#[], #[.slice none 0 0, .slice none 0 0, .string ByteArray.empty], []⟩ 8 (by kernel_rfl) (by kernel_rfl) (by kernel_rfl) (by kernel_rfl)) ?_
  intro W base args ds gs before hval0 hW hcnd _
  have hval : ∀ (j : Nat) t v, Try.f6.params[j]? = some t → args[j]? = some v → Value.okWide Try.prog W .any base t v := hval0
  have hW' := hW
  obtain ⟨p, q, hA0, hV, rfl, hfz, hnd⟩ := hW
  have hA : DataW.TrodAll enc Try.prog W 0 (fun _ => true) true Try.f6.params.toList args.toList ds p := hA0
  rw [Try.params6] at hA hval
  obtain ⟨v0, vs0, d0, ds0, p0, q0, hargs, rfl, rfl, h0, r0⟩ := trodAll_cons hA
  obtain ⟨v1, vs1, d1, ds1, p1, q1, rfl, rfl, rfl, h1, r1⟩ := trodAll_cons r0
  obtain ⟨v2, vs2, d2, ds2, p2, q2, rfl, rfl, rfl, h2, r2⟩ := trodAll_cons r1
  obtain ⟨rfl, rfl, rfl⟩ := trodAll_nil r2
  obtain rfl : args = #[v0, v1, v2] := by cases args; simp_all
  obtain ⟨rfl, rfl⟩ := trodVars_none hV
  obtain ⟨a0, len0, cap0, rfl⟩ := okWide_slice Try.underlying42 (hval 0 42 v0 rfl rfl)
  have k0 := h0
  have lt0 : ∀ x ∈ p0, x.block < W.heap.size := by obtain ⟨m, hm⟩ := k0; exact DataW.trod_lt m _ _ _ hm
  obtain ⟨l0, s0⟩ := strs_arg h0
  obtain ⟨a1, len1, cap1, rfl⟩ := okWide_slice Try.underlying43 (hval 1 43 v1 rfl rfl)
  have k1 := h1
  have lt1 : ∀ x ∈ p1, x.block < W.heap.size := by obtain ⟨m, hm⟩ := k1; exact DataW.trod_lt m _ _ _ hm
  obtain ⟨l1, s1⟩ := bools_arg h1
  obtain ⟨b2, rfl, rfl, rfl, w2⟩ := open_string Try.underlying9 (hval 2 9 v2 rfl rfl) h2
  clear hA0 hval0
  simp only [List.append_nil] at hW'
  refine (walk l0 _ l1 _ b2 w2 W s0 s1).mono fun e W' ⟨he, hg⟩ => ?_
  subst he
  exact ⟨_, rfl, _, _, _, [], _, [], hW', trodAll_mk1 (shut_bool Try.underlying4 _), (trodAll_cons_mk (Below.trod laidOut (by kernel_rfl) (of_decide_eq_true (by kernel_rfl)) k0 hg lt0) (trodAll_cons_mk (Below.trod laidOut (by kernel_rfl) (of_decide_eq_true (by kernel_rfl)) k1 hg lt1) (trodAll_cons_mk (shut_string Try.underlying9 w2) trodAll_mk0))), rfl, hg.frame _, fun h => by cases h⟩

theorem over : Rows.cborStringsRow.holds Try.pinned (OpenSpec.ofChange Rows.cborStringsSpec) :=
  OpenClaim.holds_of_wide 6 Try.f6 rfl rfl rfl rfl rfl rfl rfl ⟨rfl, rfl, rfl, rfl, rfl⟩ rfl rfl rfl rfl rfl (by kernel_rfl) Try.func6 (by kernel_rfl)
    (of_decide_eq_true (by kernel_rfl)) (by unfold Func.isWrapper; first | (rw [if_pos (by decide +kernel)]; kernel_rfl) | (rw [if_neg (by decide +kernel)]; exact ⟨rfl, rfl⟩))
    (fun os started H enc _ => lifted os started H enc)

/-- The statement. -/
theorem proved : Rows.CborStringsSaid :=
  over
#print axioms proved
end Go.Proofs.Ytglhbjfogbcddaa.cborStrings
