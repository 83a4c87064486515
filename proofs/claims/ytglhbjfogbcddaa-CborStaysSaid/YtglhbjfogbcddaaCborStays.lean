/-
  For every string and every list of reads the law CborStays (P5.6) returns true and leaves its arguments alone: after an error every read returns the zero value, and the reader stays where it is, with the first error (the law itself asks this of at most 2000 bytes and 60 reads). No condition.
-/
import Derived.Test.YtglhbjfogbcddaaRows
import Derived.WalkKit
import Derived.ProofKit
import Derived.OpenShut
import Derived.ShutString
import Derived.ChangeOld
import Derived.Below
import Derived.Test.YtglhbjfogbcddaaCbActs
import Derived.Deep.RegionWith
namespace Go.Proofs.Ytglhbjfogbcddaa.cborStays
open Go.ChangeShapes Go.WideShapes Go.ChangeAt Go.RowKit Go.Proofs.Ytglhbjfogbcddaa.Cb
open Go.ChangeMaps (open_string shut_string)
set_option linter.unusedVariables false

theorem own : ownKnob Try.prog.godebug = none := by kernel_rfl
theorem laidOut : laidOutB Try.prog = true := by kernel_rfl

theorem stay_int {x low high : Int} {l : List UInt8} {v : Int} {n : Nat} {x' : Int} (h : intR x low high l = (v, n, x')) : (x' ≠ 0 → v = 0 ∧ n = 0) ∧ (x ≠ 0 → x' = x) ∧ n ≤ l.length := by
  have hle := intR_le x low high l
  rw [h] at hle
  unfold intR at h
  split at h
  · rename_i hx
    refine ⟨fun hn => ?_, fun hx' => absurd hx hx', hle⟩
    have := int_err (low := low) (high := high) (l := l) (by rw [h]; exact hn)
    rw [h] at this
    exact this
  · simp only [Prod.mk.injEq] at h
    obtain ⟨rfl, rfl, rfl⟩ := h
    exact ⟨fun _ => ⟨rfl, rfl⟩, fun _ => rfl, hle⟩
theorem stay_text {x most : Int} {l : List UInt8} {v : List UInt8} {n : Nat} {x' : Int} (h : textR x most l = (v, n, x')) : (x' ≠ 0 → v = [] ∧ n = 0) ∧ (x ≠ 0 → x' = x) ∧ n ≤ l.length := by
  have hle := textR_le x most l
  rw [h] at hle
  unfold textR at h
  split at h
  · rename_i hx
    refine ⟨fun hn => ?_, fun hx' => absurd hx hx', hle⟩
    have := text_err (most := most) (l := l) (by rw [h]; exact hn)
    rw [h] at this
    exact this
  · simp only [Prod.mk.injEq] at h
    obtain ⟨rfl, rfl, rfl⟩ := h
    exact ⟨fun _ => ⟨rfl, rfl⟩, fun _ => rfl, hle⟩
theorem stay_bool {x : Int} {l : List UInt8} {v : Bool} {n : Nat} {x' : Int} (h : boolR x l = (v, n, x')) : (x' ≠ 0 → v = false ∧ n = 0) ∧ (x ≠ 0 → x' = x) ∧ n ≤ l.length := by
  have hle := boolR_le x l
  rw [h] at hle
  unfold boolR at h
  split at h
  · rename_i hx
    refine ⟨fun hn => ?_, fun hx' => absurd hx hx', hle⟩
    have := bool_err (l := l) (by rw [h]; exact hn)
    rw [h] at this
    exact this
  · simp only [Prod.mk.injEq] at h
    obtain ⟨rfl, rfl, rfl⟩ := h
    exact ⟨fun _ => ⟨rfl, rfl⟩, fun _ => rfl, hle⟩
theorem stay_list {x most : Int} {l : List UInt8} {v : Int} {n : Nat} {x' : Int} (h : listR x most l = (v, n, x')) : (x' ≠ 0 → v = 0 ∧ n = 0) ∧ (x ≠ 0 → x' = x) ∧ n ≤ l.length := by
  have hle := listR_le x most l
  rw [h] at hle
  unfold listR at h
  split at h
  · rename_i hx
    refine ⟨fun hn => ?_, fun hx' => absurd hx hx', hle⟩
    have := list_err (most := most) (l := l) (by rw [h]; exact hn)
    rw [h] at this
    exact this
  · simp only [Prod.mk.injEq] at h
    obtain ⟨rfl, rfl, rfl⟩ := h
    exact ⟨fun _ => ⟨rfl, rfl⟩, fun _ => rfl, hle⟩

/-! ### The walk: the law returns true, and writes nothing that was there. -/
set_option maxRecDepth 100000 in
set_option maxHeartbeats 16000000 in
theorem walk (b0 : ByteArray) (w0 : b0.size ≤ maxLen) (l1 : List (Int × Int × Int)) (v1 : Value) (w : World) (h1 : Acts w v1 l1) :
    Calls Try.prog 8 #[.string b0, v1] w fun e w' => e = .returned (.bool true) ∧ Below w.heap.size w w' := by
  obtain ⟨p, c, rfl, hcell⟩ := h1
  by_cases hbig : 2000 < b0.size
  · have hbig' : (2000 : Int) < (b0.size : Int) := by omega
    clear hbig hcell w0
    go_enter Try.func8, Try.ntmps8
    go_wp2_with fail
    refine (awake_any _).mono ?_; rintro e w1 ⟨rfl, hb⟩
    go_wp2_with fail
    go_ret
    exact ⟨rfl, hb⟩
  by_cases hbig1 : 60 < l1.length
  · have hbig' : ¬ (2000 : Int) < (b0.size : Int) := by omega
    have hbig1' : (60 : Int) < (l1.length : Int) := by omega
    clear hbig hbig1 hcell w0
    go_enter Try.func8, Try.ntmps8
    go_wp2_with fail
    refine (awake_any _).mono ?_; rintro e w1 ⟨rfl, hb⟩
    go_wp2_with fail
    go_ret
    exact ⟨rfl, hb⟩
  have hl0 : ¬ (2000 : Int) < (b0.size : Int) := by omega
  have hl1 : ¬ (60 : Int) < (l1.length : Int) := by omega
  have hs : b0.size ≤ 100000 := by omega
  have hn1 : l1.length ≤ 60 := by omega
  have HC := Lib.hid hcell
  clear hcell hbig hbig1 w0
  go_enter Try.func8, Try.ntmps8
  go_wp2_with fail
  refine (qNew_any _ _).mono ?_; rintro e w2 ⟨b, rfl, r2, hb2, k2⟩
  have qEr := Lib.hid (fun (pos : Nat) (x : Int) (W : World) (h : PR W b b0 pos x) => qErr_any b pos b0 x W h)
  go_wp2_with fail
  go_loopw [6] (fun i wr => ∃ (k pos : Nat) (x : Int), i = .int .i64 k ∧ k ≤ l1.length ∧ pos ≤ b0.size ∧ PR wr b b0 pos x ∧ Below w.heap.size w wr) (fun i _ => l1.length - (intOf i).toNat)
  case atStart => exact ⟨0, 0, 0, rfl, Nat.zero_le _, Nat.zero_le _, r2, k2⟩
  case round =>
    obtain ⟨k, pos, x, rfl, hk, hpos, hr, hbw⟩ := hrel
    by_cases hlt : k < l1.length
    · obtain ⟨bb, off, rfl, hb, hcs⟩ := HC.out (by omega)
      obtain ⟨A0, A1, A2, -, bA0, bA1, bA2, g0, g1, g2⟩ := hcs k hlt
      have hb0 : w.heap.size ≤ b := hb2
      clear hcs
      by_cases ha0 : A0 = 0
      · subst ha0
        have cQ := Lib.hid (fun W (h : PR W b b0 pos x) => qInt_any b pos b0 x A1 A2 W h hs hpos)
        obtain ⟨v, n, x', hrd⟩ : ∃ v n x', intR x A1 A2 (b0.data.toList.drop pos) = (v, n, x') := ⟨_, _, _, rfl⟩
        rw [hrd] at cQ
        obtain ⟨hE, hF, hn⟩ := stay_int hrd
        have hpn : pos + n ≤ b0.size := by
          rw [List.length_drop, Array.length_toList] at hn
          have h2 : b0.data.size = b0.size := rfl
          omega
        clear hrd hn
        have qLe := Lib.hid (fun W (h : PR W b b0 pos x) => qLeft_any b pos b0 x W h hs hpos)
        have qLn := Lib.hid (fun W (h : PR W b b0 (pos + n) x') => qLeft_any b (pos + n) b0 x' W h hs hpn)
        have hlk : ¬ (b0.size : Int) - (pos : Int) < (b0.size : Int) - ((pos + n : Nat) : Int) := by omega
        obtain ⟨L, hL⟩ : ∃ L : Int, (b0.size : Int) - (pos : Int) = L := ⟨_, rfl⟩
        obtain ⟨L', hL'⟩ : ∃ L : Int, (b0.size : Int) - ((pos + n : Nat) : Int) = L := ⟨_, rfl⟩
        rw [hL] at qLe hlk
        rw [hL'] at qLn hlk
        obtain ⟨q, hq⟩ : ∃ q, pos + n = q := ⟨_, rfl⟩
        simp only [hq] at cQ qLn hpn hL'
        by_cases hx : x = 0
        · subst hx
          by_cases hx' : x' = 0
          · subst hx'
            clear hE hF hq hL hL' hpos
            go_wp2_with fail
            refine (qEr.out _ _ _ hr).mono ?_; rintro e w2 ⟨rfl, k2⟩
            have m2 := stepB hbw k2
            have hr2 := hr.below k2
            go_wp2_with fail
            refine (qLe.out _ hr2).mono ?_; rintro e w3 ⟨rfl, k3⟩
            have m3 := stepB m2 k3
            have hr3 := hr2.below k3
            have hc0 := (m3.cell hb).trans g0
            have hc1 := (m3.cell hb).trans g1
            have hc2 := (m3.cell hb).trans g2
            clear g0 g1 g2 k2 k3 m2 hr2
            have hr3' := hr3.keep (show w3.drew.heap[b]? = w3.heap[b]? from rfl)
            go_wp2_with fail
            go_region_with (go_at_call 22; refine (cQ.out _ hr3').mono ?_; rintro e w4 ⟨rfl, r4, g4⟩)
            all_goals (
              have m4 := stepR m3.drew g4 hb0
              go_wp2_with fail
              refine (qEr.out _ _ _ r4).mono ?_; rintro e w5 ⟨rfl, k5⟩
              have m5 := stepB m4 k5
              have r5 := r4.below k5
              go_wp2_with fail
              refine (qLn.out _ r5).mono ?_; rintro e w6 ⟨rfl, k6⟩
              have m6 := stepB m5 k6
              have r6 := r5.below k6
              go_wp2_with fail
              exact ⟨⟨k + 1, _, _, rfl, hlt, hpn, r6, m6⟩, by simp [intOf]; omega⟩)
          · obtain ⟨rfl, rfl⟩ := hE hx'
            obtain rfl : L = L' := by omega
            have hxb : (x' == 0) = false := beq_false_of_ne hx'
            have hxc : (x' != 0) = true := by simp [hx']
            have hLL : (L != L) = false := by simp
            clear hE hF hq hL hL' hpos
            go_wp2_with fail
            refine (qEr.out _ _ _ hr).mono ?_; rintro e w2 ⟨rfl, k2⟩
            have m2 := stepB hbw k2
            have hr2 := hr.below k2
            go_wp2_with fail
            refine (qLe.out _ hr2).mono ?_; rintro e w3 ⟨rfl, k3⟩
            have m3 := stepB m2 k3
            have hr3 := hr2.below k3
            have hc0 := (m3.cell hb).trans g0
            have hc1 := (m3.cell hb).trans g1
            have hc2 := (m3.cell hb).trans g2
            clear g0 g1 g2 k2 k3 m2 hr2
            have hr3' := hr3.keep (show w3.drew.heap[b]? = w3.heap[b]? from rfl)
            go_wp2_with fail
            go_region_with (go_at_call 22; refine (cQ.out _ hr3').mono ?_; rintro e w4 ⟨rfl, r4, g4⟩)
            all_goals (
              have m4 := stepR m3.drew g4 hb0
              go_wp2_with fail
              refine (qEr.out _ _ _ r4).mono ?_; rintro e w5 ⟨rfl, k5⟩
              have m5 := stepB m4 k5
              have r5 := r4.below k5
              go_wp2_with fail
              refine (qLn.out _ r5).mono ?_; rintro e w6 ⟨rfl, k6⟩
              have m6 := stepB m5 k6
              have r6 := r5.below k6
              go_wp2_with fail
              refine (qLn.out _ r6).mono ?_; rintro e w7 ⟨rfl, k7⟩
              have m7 := stepB m6 k7
              have r7 := r6.below k7
              go_wp2_with fail
              exact ⟨⟨k + 1, _, _, rfl, hlt, hpn, r7, m7⟩, by simp [intOf]; omega⟩)
        · obtain rfl := hF hx
          obtain ⟨rfl, rfl⟩ := hE hx
          obtain rfl : pos = q := by omega
          obtain rfl : L = L' := by omega
          have hxb : (x' == 0) = false := beq_false_of_ne hx
          have hxc : (x' != 0) = true := by simp [hx]
          have hxd : (x' != x') = false := by simp
          have hLL : (L != L) = false := by simp
          clear hE hF hq hL hL' hpos
          go_wp2_with fail
          refine (qEr.out _ _ _ hr).mono ?_; rintro e w2 ⟨rfl, k2⟩
          have m2 := stepB hbw k2
          have hr2 := hr.below k2
          go_wp2_with fail
          refine (qLe.out _ hr2).mono ?_; rintro e w3 ⟨rfl, k3⟩
          have m3 := stepB m2 k3
          have hr3 := hr2.below k3
          have hc0 := (m3.cell hb).trans g0
          have hc1 := (m3.cell hb).trans g1
          have hc2 := (m3.cell hb).trans g2
          clear g0 g1 g2 k2 k3 m2 hr2
          have hr3' := hr3.keep (show w3.drew.heap[b]? = w3.heap[b]? from rfl)
          go_wp2_with fail
          go_region_with (go_at_call 22; refine (cQ.out _ hr3').mono ?_; rintro e w4 ⟨rfl, r4, g4⟩)
          all_goals (
            have m4 := stepR m3.drew g4 hb0
            go_wp2_with fail
            refine (qEr.out _ _ _ r4).mono ?_; rintro e w5 ⟨rfl, k5⟩
            have m5 := stepB m4 k5
            have r5 := r4.below k5
            go_wp2_with fail
            refine (qLe.out _ r5).mono ?_; rintro e w6 ⟨rfl, k6⟩
            have m6 := stepB m5 k6
            have r6 := r5.below k6
            go_wp2_with fail
            refine (qEr.out _ _ _ r6).mono ?_; rintro e w7 ⟨rfl, k7⟩
            have m7 := stepB m6 k7
            have r7 := r6.below k7
            go_wp2_with fail
            refine (qLe.out _ r7).mono ?_; rintro e w8 ⟨rfl, k8⟩
            have m8 := stepB m7 k8
            have r8 := r7.below k8
            go_wp2_with fail
            exact ⟨⟨k + 1, _, _, rfl, hlt, hpn, r8, m8⟩, by simp [intOf]; omega⟩)
      have hab0 : (A0 == 0) = false := beq_false_of_ne ha0
      by_cases ha1 : A0 = 1
      · subst ha1
        have cQ := Lib.hid (fun W (h : PR W b b0 pos x) => qText_any b pos b0 x A2 W h hs hpos bA2.2)
        obtain ⟨v, n, x', hrd⟩ : ∃ v n x', textR x A2 (b0.data.toList.drop pos) = (v, n, x') := ⟨_, _, _, rfl⟩
        rw [hrd] at cQ
        obtain ⟨hE, hF, hn⟩ := stay_text hrd
        have hpn : pos + n ≤ b0.size := by
          rw [List.length_drop, Array.length_toList] at hn
          have h2 : b0.data.size = b0.size := rfl
          omega
        clear hrd hn
        have qLe := Lib.hid (fun W (h : PR W b b0 pos x) => qLeft_any b pos b0 x W h hs hpos)
        have qLn := Lib.hid (fun W (h : PR W b b0 (pos + n) x') => qLeft_any b (pos + n) b0 x' W h hs hpn)
        have hlk : ¬ (b0.size : Int) - (pos : Int) < (b0.size : Int) - ((pos + n : Nat) : Int) := by omega
        obtain ⟨L, hL⟩ : ∃ L : Int, (b0.size : Int) - (pos : Int) = L := ⟨_, rfl⟩
        obtain ⟨L', hL'⟩ : ∃ L : Int, (b0.size : Int) - ((pos + n : Nat) : Int) = L := ⟨_, rfl⟩
        rw [hL] at qLe hlk
        rw [hL'] at qLn hlk
        obtain ⟨q, hq⟩ : ∃ q, pos + n = q := ⟨_, rfl⟩
        simp only [hq] at cQ qLn hpn hL'
        by_cases hx : x = 0
        · subst hx
          by_cases hx' : x' = 0
          · subst hx'
            clear hE hF hq hL hL' hpos
            go_wp2_with fail
            refine (qEr.out _ _ _ hr).mono ?_; rintro e w2 ⟨rfl, k2⟩
            have m2 := stepB hbw k2
            have hr2 := hr.below k2
            go_wp2_with fail
            refine (qLe.out _ hr2).mono ?_; rintro e w3 ⟨rfl, k3⟩
            have m3 := stepB m2 k3
            have hr3 := hr2.below k3
            have hc0 := (m3.cell hb).trans g0
            have hc1 := (m3.cell hb).trans g1
            have hc2 := (m3.cell hb).trans g2
            clear g0 g1 g2 k2 k3 m2 hr2
            go_wp2_with fail
            refine (cQ.out _ hr3).mono ?_; rintro e w4 ⟨rfl, r4, g4⟩
            have m4 := stepR m3 g4 hb0
            go_wp2_with fail
            refine (qEr.out _ _ _ r4).mono ?_; rintro e w5 ⟨rfl, k5⟩
            have m5 := stepB m4 k5
            have r5 := r4.below k5
            go_wp2_with fail
            refine (qLn.out _ r5).mono ?_; rintro e w6 ⟨rfl, k6⟩
            have m6 := stepB m5 k6
            have r6 := r5.below k6
            go_wp2_with fail
            exact ⟨⟨k + 1, _, _, rfl, hlt, hpn, r6, m6⟩, by simp [intOf]; omega⟩
          · obtain ⟨rfl, rfl⟩ := hE hx'
            obtain rfl : L = L' := by omega
            simp only [show toS [] = (⟨#[]⟩ : ByteArray) from rfl] at cQ
            have hxb : (x' == 0) = false := beq_false_of_ne hx'
            have hxc : (x' != 0) = true := by simp [hx']
            have hLL : (L != L) = false := by simp
            clear hE hF hq hL hL' hpos
            go_wp2_with fail
            refine (qEr.out _ _ _ hr).mono ?_; rintro e w2 ⟨rfl, k2⟩
            have m2 := stepB hbw k2
            have hr2 := hr.below k2
            go_wp2_with fail
            refine (qLe.out _ hr2).mono ?_; rintro e w3 ⟨rfl, k3⟩
            have m3 := stepB m2 k3
            have hr3 := hr2.below k3
            have hc0 := (m3.cell hb).trans g0
            have hc1 := (m3.cell hb).trans g1
            have hc2 := (m3.cell hb).trans g2
            clear g0 g1 g2 k2 k3 m2 hr2
            go_wp2_with fail
            refine (cQ.out _ hr3).mono ?_; rintro e w4 ⟨rfl, r4, g4⟩
            have m4 := stepR m3 g4 hb0
            go_wp2_with fail
            refine (qEr.out _ _ _ r4).mono ?_; rintro e w5 ⟨rfl, k5⟩
            have m5 := stepB m4 k5
            have r5 := r4.below k5
            go_wp2_with fail
            refine (qLn.out _ r5).mono ?_; rintro e w6 ⟨rfl, k6⟩
            have m6 := stepB m5 k6
            have r6 := r5.below k6
            go_wp2_with fail
            refine (qLn.out _ r6).mono ?_; rintro e w7 ⟨rfl, k7⟩
            have m7 := stepB m6 k7
            have r7 := r6.below k7
            go_wp2_with fail
            exact ⟨⟨k + 1, _, _, rfl, hlt, hpn, r7, m7⟩, by simp [intOf]; omega⟩
        · obtain rfl := hF hx
          obtain ⟨rfl, rfl⟩ := hE hx
          obtain rfl : pos = q := by omega
          obtain rfl : L = L' := by omega
          simp only [show toS [] = (⟨#[]⟩ : ByteArray) from rfl] at cQ
          have hxb : (x' == 0) = false := beq_false_of_ne hx
          have hxc : (x' != 0) = true := by simp [hx]
          have hxd : (x' != x') = false := by simp
          have hLL : (L != L) = false := by simp
          clear hE hF hq hL hL' hpos
          go_wp2_with fail
          refine (qEr.out _ _ _ hr).mono ?_; rintro e w2 ⟨rfl, k2⟩
          have m2 := stepB hbw k2
          have hr2 := hr.below k2
          go_wp2_with fail
          refine (qLe.out _ hr2).mono ?_; rintro e w3 ⟨rfl, k3⟩
          have m3 := stepB m2 k3
          have hr3 := hr2.below k3
          have hc0 := (m3.cell hb).trans g0
          have hc1 := (m3.cell hb).trans g1
          have hc2 := (m3.cell hb).trans g2
          clear g0 g1 g2 k2 k3 m2 hr2
          go_wp2_with fail
          refine (cQ.out _ hr3).mono ?_; rintro e w4 ⟨rfl, r4, g4⟩
          have m4 := stepR m3 g4 hb0
          go_wp2_with fail
          refine (qEr.out _ _ _ r4).mono ?_; rintro e w5 ⟨rfl, k5⟩
          have m5 := stepB m4 k5
          have r5 := r4.below k5
          go_wp2_with fail
          refine (qLe.out _ r5).mono ?_; rintro e w6 ⟨rfl, k6⟩
          have m6 := stepB m5 k6
          have r6 := r5.below k6
          go_wp2_with fail
          refine (qEr.out _ _ _ r6).mono ?_; rintro e w7 ⟨rfl, k7⟩
          have m7 := stepB m6 k7
          have r7 := r6.below k7
          go_wp2_with fail
          refine (qLe.out _ r7).mono ?_; rintro e w8 ⟨rfl, k8⟩
          have m8 := stepB m7 k8
          have r8 := r7.below k8
          go_wp2_with fail
          exact ⟨⟨k + 1, _, _, rfl, hlt, hpn, r8, m8⟩, by simp [intOf]; omega⟩
      have hab1 : (A0 == 1) = false := beq_false_of_ne ha1
      by_cases ha2 : A0 = 2
      · subst ha2
        have cQ := Lib.hid (fun W (h : PR W b b0 pos x) => qBool_any b pos b0 x W h hs hpos)
        obtain ⟨v, n, x', hrd⟩ : ∃ v n x', boolR x (b0.data.toList.drop pos) = (v, n, x') := ⟨_, _, _, rfl⟩
        rw [hrd] at cQ
        obtain ⟨hE, hF, hn⟩ := stay_bool hrd
        have hpn : pos + n ≤ b0.size := by
          rw [List.length_drop, Array.length_toList] at hn
          have h2 : b0.data.size = b0.size := rfl
          omega
        clear hrd hn
        have qLe := Lib.hid (fun W (h : PR W b b0 pos x) => qLeft_any b pos b0 x W h hs hpos)
        have qLn := Lib.hid (fun W (h : PR W b b0 (pos + n) x') => qLeft_any b (pos + n) b0 x' W h hs hpn)
        have hlk : ¬ (b0.size : Int) - (pos : Int) < (b0.size : Int) - ((pos + n : Nat) : Int) := by omega
        obtain ⟨L, hL⟩ : ∃ L : Int, (b0.size : Int) - (pos : Int) = L := ⟨_, rfl⟩
        obtain ⟨L', hL'⟩ : ∃ L : Int, (b0.size : Int) - ((pos + n : Nat) : Int) = L := ⟨_, rfl⟩
        rw [hL] at qLe hlk
        rw [hL'] at qLn hlk
        obtain ⟨q, hq⟩ : ∃ q, pos + n = q := ⟨_, rfl⟩
        simp only [hq] at cQ qLn hpn hL'
        by_cases hx : x = 0
        · subst hx
          by_cases hx' : x' = 0
          · subst hx'
            clear hE hF hq hL hL' hpos
            go_wp2_with fail
            refine (qEr.out _ _ _ hr).mono ?_; rintro e w2 ⟨rfl, k2⟩
            have m2 := stepB hbw k2
            have hr2 := hr.below k2
            go_wp2_with fail
            refine (qLe.out _ hr2).mono ?_; rintro e w3 ⟨rfl, k3⟩
            have m3 := stepB m2 k3
            have hr3 := hr2.below k3
            have hc0 := (m3.cell hb).trans g0
            have hc1 := (m3.cell hb).trans g1
            have hc2 := (m3.cell hb).trans g2
            clear g0 g1 g2 k2 k3 m2 hr2
            go_wp2_with fail
            refine (cQ.out _ hr3).mono ?_; rintro e w4 ⟨rfl, r4, g4⟩
            have m4 := stepR m3 g4 hb0
            go_wp2_with fail
            refine (qEr.out _ _ _ r4).mono ?_; rintro e w5 ⟨rfl, k5⟩
            have m5 := stepB m4 k5
            have r5 := r4.below k5
            go_wp2_with fail
            refine (qLn.out _ r5).mono ?_; rintro e w6 ⟨rfl, k6⟩
            have m6 := stepB m5 k6
            have r6 := r5.below k6
            go_wp2_with fail
            exact ⟨⟨k + 1, _, _, rfl, hlt, hpn, r6, m6⟩, by simp [intOf]; omega⟩
          · obtain ⟨rfl, rfl⟩ := hE hx'
            obtain rfl : L = L' := by omega
            have hxb : (x' == 0) = false := beq_false_of_ne hx'
            have hxc : (x' != 0) = true := by simp [hx']
            have hLL : (L != L) = false := by simp
            clear hE hF hq hL hL' hpos
            go_wp2_with fail
            refine (qEr.out _ _ _ hr).mono ?_; rintro e w2 ⟨rfl, k2⟩
            have m2 := stepB hbw k2
            have hr2 := hr.below k2
            go_wp2_with fail
            refine (qLe.out _ hr2).mono ?_; rintro e w3 ⟨rfl, k3⟩
            have m3 := stepB m2 k3
            have hr3 := hr2.below k3
            have hc0 := (m3.cell hb).trans g0
            have hc1 := (m3.cell hb).trans g1
            have hc2 := (m3.cell hb).trans g2
            clear g0 g1 g2 k2 k3 m2 hr2
            go_wp2_with fail
            refine (cQ.out _ hr3).mono ?_; rintro e w4 ⟨rfl, r4, g4⟩
            have m4 := stepR m3 g4 hb0
            go_wp2_with fail
            refine (qEr.out _ _ _ r4).mono ?_; rintro e w5 ⟨rfl, k5⟩
            have m5 := stepB m4 k5
            have r5 := r4.below k5
            go_wp2_with fail
            refine (qLn.out _ r5).mono ?_; rintro e w6 ⟨rfl, k6⟩
            have m6 := stepB m5 k6
            have r6 := r5.below k6
            go_wp2_with fail
            refine (qLn.out _ r6).mono ?_; rintro e w7 ⟨rfl, k7⟩
            have m7 := stepB m6 k7
            have r7 := r6.below k7
            go_wp2_with fail
            exact ⟨⟨k + 1, _, _, rfl, hlt, hpn, r7, m7⟩, by simp [intOf]; omega⟩
        · obtain rfl := hF hx
          obtain ⟨rfl, rfl⟩ := hE hx
          obtain rfl : pos = q := by omega
          obtain rfl : L = L' := by omega
          have hxb : (x' == 0) = false := beq_false_of_ne hx
          have hxc : (x' != 0) = true := by simp [hx]
          have hxd : (x' != x') = false := by simp
          have hLL : (L != L) = false := by simp
          clear hE hF hq hL hL' hpos
          go_wp2_with fail
          refine (qEr.out _ _ _ hr).mono ?_; rintro e w2 ⟨rfl, k2⟩
          have m2 := stepB hbw k2
          have hr2 := hr.below k2
          go_wp2_with fail
          refine (qLe.out _ hr2).mono ?_; rintro e w3 ⟨rfl, k3⟩
          have m3 := stepB m2 k3
          have hr3 := hr2.below k3
          have hc0 := (m3.cell hb).trans g0
          have hc1 := (m3.cell hb).trans g1
          have hc2 := (m3.cell hb).trans g2
          clear g0 g1 g2 k2 k3 m2 hr2
          go_wp2_with fail
          refine (cQ.out _ hr3).mono ?_; rintro e w4 ⟨rfl, r4, g4⟩
          have m4 := stepR m3 g4 hb0
          go_wp2_with fail
          refine (qEr.out _ _ _ r4).mono ?_; rintro e w5 ⟨rfl, k5⟩
          have m5 := stepB m4 k5
          have r5 := r4.below k5
          go_wp2_with fail
          refine (qLe.out _ r5).mono ?_; rintro e w6 ⟨rfl, k6⟩
          have m6 := stepB m5 k6
          have r6 := r5.below k6
          go_wp2_with fail
          refine (qEr.out _ _ _ r6).mono ?_; rintro e w7 ⟨rfl, k7⟩
          have m7 := stepB m6 k7
          have r7 := r6.below k7
          go_wp2_with fail
          refine (qLe.out _ r7).mono ?_; rintro e w8 ⟨rfl, k8⟩
          have m8 := stepB m7 k8
          have r8 := r7.below k8
          go_wp2_with fail
          exact ⟨⟨k + 1, _, _, rfl, hlt, hpn, r8, m8⟩, by simp [intOf]; omega⟩
      have hab2 : (A0 == 2) = false := beq_false_of_ne ha2
      have cQ := Lib.hid (fun W (h : PR W b b0 pos x) => qList_any b pos b0 x A2 W h hs hpos bA2.2)
      obtain ⟨v, n, x', hrd⟩ : ∃ v n x', listR x A2 (b0.data.toList.drop pos) = (v, n, x') := ⟨_, _, _, rfl⟩
      rw [hrd] at cQ
      obtain ⟨hE, hF, hn⟩ := stay_list hrd
      have hpn : pos + n ≤ b0.size := by
        rw [List.length_drop, Array.length_toList] at hn
        have h2 : b0.data.size = b0.size := rfl
        omega
      clear hrd hn
      have qLe := Lib.hid (fun W (h : PR W b b0 pos x) => qLeft_any b pos b0 x W h hs hpos)
      have qLn := Lib.hid (fun W (h : PR W b b0 (pos + n) x') => qLeft_any b (pos + n) b0 x' W h hs hpn)
      have hlk : ¬ (b0.size : Int) - (pos : Int) < (b0.size : Int) - ((pos + n : Nat) : Int) := by omega
      obtain ⟨L, hL⟩ : ∃ L : Int, (b0.size : Int) - (pos : Int) = L := ⟨_, rfl⟩
      obtain ⟨L', hL'⟩ : ∃ L : Int, (b0.size : Int) - ((pos + n : Nat) : Int) = L := ⟨_, rfl⟩
      rw [hL] at qLe hlk
      rw [hL'] at qLn hlk
      obtain ⟨q, hq⟩ : ∃ q, pos + n = q := ⟨_, rfl⟩
      simp only [hq] at cQ qLn hpn hL'
      by_cases hx : x = 0
      · subst hx
        by_cases hx' : x' = 0
        · subst hx'
          clear hE hF hq hL hL' hpos
          go_wp2_with fail
          refine (qEr.out _ _ _ hr).mono ?_; rintro e w2 ⟨rfl, k2⟩
          have m2 := stepB hbw k2
          have hr2 := hr.below k2
          go_wp2_with fail
          refine (qLe.out _ hr2).mono ?_; rintro e w3 ⟨rfl, k3⟩
          have m3 := stepB m2 k3
          have hr3 := hr2.below k3
          have hc0 := (m3.cell hb).trans g0
          have hc1 := (m3.cell hb).trans g1
          have hc2 := (m3.cell hb).trans g2
          clear g0 g1 g2 k2 k3 m2 hr2
          go_wp2_with fail
          refine (cQ.out _ hr3).mono ?_; rintro e w4 ⟨rfl, r4, g4⟩
          have m4 := stepR m3 g4 hb0
          go_wp2_with fail
          refine (qEr.out _ _ _ r4).mono ?_; rintro e w5 ⟨rfl, k5⟩
          have m5 := stepB m4 k5
          have r5 := r4.below k5
          go_wp2_with fail
          refine (qLn.out _ r5).mono ?_; rintro e w6 ⟨rfl, k6⟩
          have m6 := stepB m5 k6
          have r6 := r5.below k6
          go_wp2_with fail
          exact ⟨⟨k + 1, _, _, rfl, hlt, hpn, r6, m6⟩, by simp [intOf]; omega⟩
        · obtain ⟨rfl, rfl⟩ := hE hx'
          obtain rfl : L = L' := by omega
          have hxb : (x' == 0) = false := beq_false_of_ne hx'
          have hxc : (x' != 0) = true := by simp [hx']
          have hLL : (L != L) = false := by simp
          clear hE hF hq hL hL' hpos
          go_wp2_with fail
          refine (qEr.out _ _ _ hr).mono ?_; rintro e w2 ⟨rfl, k2⟩
          have m2 := stepB hbw k2
          have hr2 := hr.below k2
          go_wp2_with fail
          refine (qLe.out _ hr2).mono ?_; rintro e w3 ⟨rfl, k3⟩
          have m3 := stepB m2 k3
          have hr3 := hr2.below k3
          have hc0 := (m3.cell hb).trans g0
          have hc1 := (m3.cell hb).trans g1
          have hc2 := (m3.cell hb).trans g2
          clear g0 g1 g2 k2 k3 m2 hr2
          go_wp2_with fail
          refine (cQ.out _ hr3).mono ?_; rintro e w4 ⟨rfl, r4, g4⟩
          have m4 := stepR m3 g4 hb0
          go_wp2_with fail
          refine (qEr.out _ _ _ r4).mono ?_; rintro e w5 ⟨rfl, k5⟩
          have m5 := stepB m4 k5
          have r5 := r4.below k5
          go_wp2_with fail
          refine (qLn.out _ r5).mono ?_; rintro e w6 ⟨rfl, k6⟩
          have m6 := stepB m5 k6
          have r6 := r5.below k6
          go_wp2_with fail
          refine (qLn.out _ r6).mono ?_; rintro e w7 ⟨rfl, k7⟩
          have m7 := stepB m6 k7
          have r7 := r6.below k7
          go_wp2_with fail
          exact ⟨⟨k + 1, _, _, rfl, hlt, hpn, r7, m7⟩, by simp [intOf]; omega⟩
      · obtain rfl := hF hx
        obtain ⟨rfl, rfl⟩ := hE hx
        obtain rfl : pos = q := by omega
        obtain rfl : L = L' := by omega
        have hxb : (x' == 0) = false := beq_false_of_ne hx
        have hxc : (x' != 0) = true := by simp [hx]
        have hxd : (x' != x') = false := by simp
        have hLL : (L != L) = false := by simp
        clear hE hF hq hL hL' hpos
        go_wp2_with fail
        refine (qEr.out _ _ _ hr).mono ?_; rintro e w2 ⟨rfl, k2⟩
        have m2 := stepB hbw k2
        have hr2 := hr.below k2
        go_wp2_with fail
        refine (qLe.out _ hr2).mono ?_; rintro e w3 ⟨rfl, k3⟩
        have m3 := stepB m2 k3
        have hr3 := hr2.below k3
        have hc0 := (m3.cell hb).trans g0
        have hc1 := (m3.cell hb).trans g1
        have hc2 := (m3.cell hb).trans g2
        clear g0 g1 g2 k2 k3 m2 hr2
        go_wp2_with fail
        refine (cQ.out _ hr3).mono ?_; rintro e w4 ⟨rfl, r4, g4⟩
        have m4 := stepR m3 g4 hb0
        go_wp2_with fail
        refine (qEr.out _ _ _ r4).mono ?_; rintro e w5 ⟨rfl, k5⟩
        have m5 := stepB m4 k5
        have r5 := r4.below k5
        go_wp2_with fail
        refine (qLe.out _ r5).mono ?_; rintro e w6 ⟨rfl, k6⟩
        have m6 := stepB m5 k6
        have r6 := r5.below k6
        go_wp2_with fail
        refine (qEr.out _ _ _ r6).mono ?_; rintro e w7 ⟨rfl, k7⟩
        have m7 := stepB m6 k7
        have r7 := r6.below k7
        go_wp2_with fail
        refine (qLe.out _ r7).mono ?_; rintro e w8 ⟨rfl, k8⟩
        have m8 := stepB m7 k8
        have r8 := r7.below k8
        go_wp2_with fail
        exact ⟨⟨k + 1, _, _, rfl, hlt, hpn, r8, m8⟩, by simp [intOf]; omega⟩
    · obtain rfl : k = l1.length := by omega
      have hlt' : ¬ (l1.length : Int) < (l1.length : Int) := by omega
      go_wp2_with fail
      refine (awake_any _).mono ?_; rintro e w7 ⟨rfl, k7⟩
      go_wp2_with fail
      go_ret
      exact ⟨rfl, stepB hbw k7⟩

/-! ### The row's step -/
set_option maxRecDepth 100000 in
theorem lifted (os : Os) (started : os.Started) (H : Type) (enc : TypeId × Value → H) :
    ReturnsInHanded {} Try.checked os 8 .any (Rows.cborStaysSpec.pre6 enc Try.prog Try.f8 Rows.cborStaysRow.domain false) (Rows.cborStaysSpec.post enc Try.prog Try.f8 false true false false) := by
  refine returnsInHanded_of_change (C := Try.checked) own started (by kernel_rfl) Try.func8
    (ChangeSpec.witness6 (enc := enc) (C := Try.checked) false ⟨#[], #[.string ByteArray.empty, .slice none 0 0], []⟩ 8 (by kernel_rfl) (by kernel_rfl) (by kernel_rfl) (by kernel_rfl)) ?_
  intro W base args ds gs before hval0 hW hcnd _
  have hval : ∀ (j : Nat) t v, Try.f8.params[j]? = some t → args[j]? = some v → Value.okWide Try.prog W .any base t v := hval0
  have hW' := hW
  obtain ⟨p, q, hA0, hV, rfl, hfz, hnd⟩ := hW
  have hA : DataW.TrodAll enc Try.prog W 0 (fun _ => true) true Try.f8.params.toList args.toList ds p := hA0
  rw [Try.params8] at hA hval
  obtain ⟨v0, vs0, d0, ds0, p0, q0, hargs, rfl, rfl, h0, r0⟩ := trodAll_cons hA
  obtain ⟨v1, vs1, d1, ds1, p1, q1, rfl, rfl, rfl, h1, r1⟩ := trodAll_cons r0
  obtain ⟨rfl, rfl, rfl⟩ := trodAll_nil r1
  obtain rfl : args = #[v0, v1] := by cases args; simp_all
  obtain ⟨rfl, rfl⟩ := trodVars_none hV
  obtain ⟨b0, rfl, rfl, rfl, w0⟩ := open_string Try.underlying9 (hval 0 9 v0 rfl rfl) h0
  obtain ⟨a1, len1, cap1, rfl⟩ := okWide_slice Try.underlying27 (hval 1 27 v1 rfl rfl)
  have k1 := h1
  have lt1 : ∀ x ∈ p1, x.block < W.heap.size := by obtain ⟨m, hm⟩ := k1; exact DataW.trod_lt m _ _ _ hm
  obtain ⟨l1, s1⟩ := acts_arg h1
  clear hA0 hval0
  simp only [List.append_nil] at hW'
  refine (walk b0 w0 l1 _ W s1).mono fun e W' ⟨he, hg⟩ => ?_
  subst he
  exact ⟨_, rfl, _, _, _, [], _, [], hW', trodAll_mk1 (shut_bool Try.underlying4 _), (trodAll_cons_mk (shut_string Try.underlying9 w0) (trodAll_cons_mk (Below.trod laidOut (by kernel_rfl) (of_decide_eq_true (by kernel_rfl)) k1 hg lt1) trodAll_mk0)), rfl, hg.frame _, fun h => by cases h⟩

theorem over : Rows.cborStaysRow.holds Try.pinned (OpenSpec.ofChange Rows.cborStaysSpec) :=
  OpenClaim.holds_of_wide 8 Try.f8 rfl rfl rfl rfl rfl rfl rfl ⟨rfl, rfl, rfl, rfl, rfl⟩ rfl rfl rfl rfl rfl (by kernel_rfl) Try.func8 (by kernel_rfl)
    (of_decide_eq_true (by kernel_rfl)) (by unfold Func.isWrapper; first | (rw [if_pos (by decide +kernel)]; kernel_rfl) | (rw [if_neg (by decide +kernel)]; exact ⟨rfl, rfl⟩))
    (fun os started H enc _ => lifted os started H enc)

/-- The statement. -/
theorem proved : Rows.CborStaysSaid :=
  over
#print axioms proved
end Go.Proofs.Ytglhbjfogbcddaa.cborStays
