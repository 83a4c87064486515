/-
  For every string and every change the law DigestBursts (P6.9) returns true and leaves its arguments alone: strings of equal length that differ in one byte have different hashes, and strings that differ only within four consecutive bytes have different checksums (the law itself asks this of at most 3000 bytes). No condition.
-/
import Derived.Test.YtandcacobahmbaaDoorRows
import Derived.WalkKit
import Derived.ProofKit
import Derived.OpenShut
import Derived.ShutString
import Derived.ChangeOld
import Derived.Below
import Derived.Carry
import Derived.Test.YtandcacobahmbaaDoorDgCard
import Derived.Test.YtandcacobahmbaaDoorCards
import Derived.Test.YtandcacobahmbaaDoorTie
import Derived.SevenTiedAt
import Derived.Test.YtandcacobahmbaaDoorDgBytes
import Derived.Deep.RegionHeld3
namespace Go.Proofs.YtandcacobahmbaaDoor.digestBursts
open Go.ChangeShapes Go.WideShapes Go.ChangeAt Go.RowKit Go.Proofs.YtandcacobahmbaaDoor.Dg
open Go.ChangeMaps (open_string shut_string)
set_option linter.unusedVariables false

theorem own : ownKnob Tryd.prog.godebug = none := by kernel_rfl
theorem laidOut : laidOutB Tryd.prog = true := by kernel_rfl

open Go.RowKit
/-- What the loop over the four bytes keeps. -/
structure LoopB (wr : World) (B g1 g2 a : Nat) (b0 : ByteArray) (c x0 x1 x2 x3 : UInt8) (w : World) (k : Nat) : Prop where
  b1 : BytesAt wr g1 (b0.data.toList.set a c)
  b2 : BytesAt wr g2 (mix b0.data.toList a [x0, x1, x2, x3] k)
  e1 : wr.cell? ⟨B, 1, none⟩ = some (.int .u8 (x0.toNat : Int))
  e2 : wr.cell? ⟨B, 2, none⟩ = some (.int .u8 (x1.toNat : Int))
  e3 : wr.cell? ⟨B, 3, none⟩ = some (.int .u8 (x2.toNat : Int))
  e4 : wr.cell? ⟨B, 4, none⟩ = some (.int .u8 (x3.toNat : Int))
  below : Below B w wr
theorem LoopB.bits {wr : World} {B g1 g2 a : Nat} {b0 : ByteArray} {c x0 x1 x2 x3 : UInt8} {w : World} {k : Nat} (h : LoopB wr B g1 g2 a b0 c x0 x1 x2 x3 w k) (j : Nat) (hj : j < 4) (x : UInt8) (hx : ([x0, x1, x2, x3] : List UInt8)[j]'(by show j < 4; omega) = x) : wr.cell? ⟨B, 1 + j, none⟩ = some (.int .u8 (x.toNat : Int)) := by
  match j, hj with
  | 0, _ => subst hx; exact h.e1
  | 1, _ => subst hx; exact h.e2
  | 2, _ => subst hx; exact h.e3
  | 3, _ => subst hx; exact h.e4
theorem LoopB.next {wr : World} {B g1 g2 a : Nat} {b0 : ByteArray} {c x0 x1 x2 x3 : UInt8} {w : World} {k : Nat} (h : LoopB wr B g1 g2 a b0 c x0 x1 x2 x3 w k) (hk : a + k < b0.data.toList.length) (h4 : k < 4) {d x : UInt8} (hd : b0.data.toList[a + k] = d)
    (hx : ([x0, x1, x2, x3] : List UInt8)[k]'(by show k < 4; omega) = x) (l1 : B < g1) (l2 : g1 < g2) : LoopB (wr.setCell ⟨g2, a + k, none⟩ (.int .u8 ((d ^^^ x).toNat : Int))).drew B g1 g2 a b0 c x0 x1 x2 x3 w (k + 1) := by
  have far := fun j v (e : wr.cell? ⟨B, j, none⟩ = some v) => (show (wr.setCell ⟨g2, a + k, none⟩ (.int .u8 ((d ^^^ x).toNat : Int))).drew.cell? ⟨B, j, none⟩ = some v from (World.cell?_setCell_far wr ⟨g2, a + k, none⟩ ⟨B, j, none⟩ _ (Nat.ne_of_gt (Nat.lt_trans l1 l2))).trans e)
  refine ⟨(h.b1.far (p := ⟨g2, a + k, none⟩) _ (Nat.ne_of_gt l2)).keep (Nat.le_refl _) rfl, ?_, far 1 _ h.e1, far 2 _ h.e2, far 3 _ h.e3, far 4 _ h.e4, (h.below.setCell (p := ⟨g2, a + k, none⟩) (Nat.le_of_lt (Nat.lt_trans l1 l2)) _).drew⟩
  have := h.b2.set (j := a + k) (by rw [mix_len (by omega) (by show k ≤ 4; omega)]; exact hk) (d ^^^ x)
  rw [← hd, ← hx, mix_succ hk (by show k < 4; omega), hd, hx] at this
  exact this.keep (Nat.le_refl _) rfl

/-! ### The walk: the law returns true, and writes nothing that was there. -/
set_option maxRecDepth 100000 in
set_option maxHeartbeats 16000000 in
theorem walk (b0 : ByteArray) (w0 : b0.size ≤ maxLen) (i1 : Int) (xa1 xb1 xc1 xd1 : UInt8) (wi1 : In64 i1) (w : World) (hT : Halves w) :
    Calls Tryd.prog 10 #[.string b0, .agg #[.int .i64 i1, .int .u8 ((xa1 : UInt8).toNat : Int), .int .u8 ((xb1 : UInt8).toNat : Int), .int .u8 ((xc1 : UInt8).toNat : Int), .int .u8 ((xd1 : UInt8).toNat : Int)]] w fun e w' => e = .returned (.bool true) ∧ Below w.heap.size w w' := by
  have HT := Lib.hid hT
  clear hT
  have AWK := Lib.hid (fun W (hB : Below w.heap.size w W) => awake_any W (HT.out.below hB))
  have m0 := (Below.refl w.heap.size w).alloc (Nat.le_refl _) (.cells #[.int .i64 i1, .int .u8 (xa1.toNat : Int), .int .u8 (xb1.toNat : Int), .int .u8 (xc1.toNat : Int), .int .u8 (xd1.toNat : Int)] 48)
  by_cases h1 : b0.size = 0
  · have n0 : ((b0.size : Int) == 0) = true := beq_iff_eq.2 (by omega)
    clear h1 w0 wi1
    go_enter Tryd.func10, Tryd.ntmps10
    go_wp2_with fail
    refine (AWK.out _ (m0)).mono ?_; rintro e w9 ⟨rfl, k9⟩
    go_wp2_with fail
    go_ret
    exact ⟨rfl, m0.trans (k9.mono m0.size)⟩
  · have n0 : ((b0.size : Int) == 0) = false := beq_false_of_ne (by omega)
    by_cases h2 : 3000 < b0.size
    · have h2' : (3000 : Int) < (b0.size : Int) := by omega
      clear h1 h2 w0 wi1
      go_enter Tryd.func10, Tryd.ntmps10
      go_wp2_with fail
      refine (AWK.out _ (m0)).mono ?_; rintro e w9 ⟨rfl, k9⟩
      go_wp2_with fail
      go_ret
      exact ⟨rfl, m0.trans (k9.mono m0.size)⟩
    · have hs : ¬ (3000 : Int) < (b0.size : Int) := by omega
      by_cases h3 : i1 < 0
      · clear h1 h2 w0 wi1
        go_enter Tryd.func10, Tryd.ntmps10
        go_wp2_with fail
        refine (AWK.out _ (m0)).mono ?_; rintro e w9 ⟨rfl, k9⟩
        go_wp2_with fail
        go_ret
        exact ⟨rfl, m0.trans (k9.mono m0.size)⟩
      · have hi0 : ¬ i1 < 0 := h3
        have hnp : 0 < b0.size := by omega
        obtain ⟨a, haI⟩ : ∃ a : Nat, i1 % (b0.size : Int) = (a : Int) := ⟨(i1 % (b0.size : Int)).toNat, by
          have := Int.emod_nonneg i1 (show (b0.size : Int) ≠ 0 by omega)
          omega⟩
        have han : a < b0.size := by
          have := Int.emod_lt_of_pos i1 (show (0 : Int) < (b0.size : Int) by omega)
          omega
        have han' : (a : Int) < (b0.size : Int) := by omega
        have hw : IntKind.i64.wrap (a : Int) = (a : Int) := IntWalk.i64_in _ (by omega)
        have hw' : wrap64 (a : Int) = (a : Int) := by rw [← IntWalk.i64_left]; exact hw
        have hnz : ¬ (b0.size : Int) = 0 := by omega
        have hl : b0.data.toList.length = b0.size := (Lib.size_eq b0).symm
        have ec := fun j => World.cell?_alloc_mark w #[.int .i64 i1, .int .u8 (xa1.toNat : Int), .int .u8 (xb1.toNat : Int), .int .u8 (xc1.toNat : Int), .int .u8 (xd1.toNat : Int)] 48 (0, 0) j
        have lB : w.heap.size < (w.alloc (.cells #[.int .i64 i1, .int .u8 (xa1.toNat : Int), .int .u8 (xb1.toNat : Int), .int .u8 (xc1.toNat : Int), .int .u8 (xd1.toNat : Int)] 48)).heap.size := by show _ < (w.heap.push _).size; rw [Array.size_push]; exact Nat.lt_succ_self _
        obtain ⟨B, hB⟩ : ∃ B, w.heap.size = B := ⟨_, rfl⟩
        obtain ⟨Wb, hWb⟩ : ∃ W, w.alloc (.cells #[.int .i64 i1, .int .u8 (xa1.toNat : Int), .int .u8 (xb1.toNat : Int), .int .u8 (xc1.toNat : Int), .int .u8 (xd1.toNat : Int)] 48) = W := ⟨_, rfl⟩
        have hcv1 := run_bytes_of_string (P := Tryd.prog) Wb 9 49 5 b0 Tryd.underlying9 Tryd.underlying49 Tryd.underlying5
        have y1 := bytes_made Wb.drew b0 (grownCap Wb b0.size 0 5)
        have q1 : Below Wb.heap.size Wb (Wb.drew.alloc (.cells (bytesRow b0 (grownCap Wb b0.size 0 5)) 5 ((bytesRow b0 (grownCap Wb b0.size 0 5)).size, (bytesRow b0 (grownCap Wb b0.size 0 5)).size + 1))) := (Below.refl _ Wb).drew.alloc (Nat.le_refl _) _
        rw [show (w.alloc (.cells #[.int .i64 i1, .int .u8 (xa1.toNat : Int), .int .u8 (xb1.toNat : Int), .int .u8 (xc1.toNat : Int), .int .u8 (xd1.toNat : Int)] 48)) = Wb from hWb, hB] at ec lB
        rw [hB, hWb] at m0
        generalize grownCap Wb b0.size 0 5 = C1 at hcv1 y1 q1
        generalize Wb.drew.alloc (.cells (bytesRow b0 C1) 5 ((bytesRow b0 C1).size, (bytesRow b0 C1).size + 1)) = Wc at hcv1 y1 q1
        have y1 : BytesAt Wc Wb.heap.size b0.data.toList := y1
        have lg1 : B < Wb.heap.size := lB
        generalize Wb.heap.size = g1 at hcv1 y1 q1 lg1
        have hcv2 := run_bytes_of_string (P := Tryd.prog) Wc 9 49 5 b0 Tryd.underlying9 Tryd.underlying49 Tryd.underlying5
        have y2 := bytes_made Wc.drew b0 (grownCap Wc b0.size 0 5)
        have q2 : Below Wc.heap.size Wc (Wc.drew.alloc (.cells (bytesRow b0 (grownCap Wc b0.size 0 5)) 5 ((bytesRow b0 (grownCap Wc b0.size 0 5)).size, (bytesRow b0 (grownCap Wc b0.size 0 5)).size + 1))) := (Below.refl _ Wc).drew.alloc (Nat.le_refl _) _
        generalize grownCap Wc b0.size 0 5 = C2 at hcv2 y2 q2
        generalize Wc.drew.alloc (.cells (bytesRow b0 C2) 5 ((bytesRow b0 C2).size, (bytesRow b0 C2).size + 1)) = Wd at hcv2 y2 q2
        have y2 : BytesAt Wd Wc.heap.size b0.data.toList := y2
        have lg2 : g1 < Wc.heap.size := y1.lt
        have y1 := y1.below q2
        have z0 := fun j v (h : Wb.cell? ⟨B, j, none⟩ = some v) => (q2.cell (Nat.lt_trans lg1 lg2)).trans ((q1.cell lg1).trans h)
        generalize Wc.heap.size = g2 at hcv2 y2 q2 lg2
        have e1 := z0 1 _ (ec 1)
        have e2 := z0 2 _ (ec 2)
        have e3 := z0 3 _ (ec 3)
        have e4 := z0 4 _ (ec 4)
        have mD : Below B w Wd := (m0.trans (q1.mono (Nat.le_of_lt lg1))).trans (q2.mono (Nat.le_of_lt (Nat.lt_trans lg1 lg2)))
        have e0 : Wb.cell? ⟨B, 0, none⟩ = some (.int .i64 i1) := ec 0
        clear ec z0 q1 q2 m0
        obtain ⟨cA, hcA⟩ : ∃ cA, b0.data.toList[a]? = some cA := ⟨_, List.getElem?_eq_getElem (by omega)⟩
        have k1 := y1.at_ a cA hcA
        have f1 := y1.fz a (by omega)
        have x1 := u8_xor_nat cA.toNat xa1.toNat cA.toNat_lt xa1.toNat_lt
        have x1' := Lib.hid (show cA.toNat ^^^ xa1.toNat = (cA ^^^ xa1).toNat from (UInt8.toNat_xor ..).symm)
        have Y1 := Lib.hid y1
        have Y2 := Lib.hid y2
        have HL := Lib.hid hl
        have HcA := Lib.hid hcA
        have MD := Lib.hid mD
        have HB := Lib.hid hB
        clear y1 y2 hl hcA mD h1 h2 h3 w0 wi1
        go_enter Tryd.func10, Tryd.ntmps10
        go_wp2_with fail
        go_region
        rw [x1'.out]
        have b1 : BytesAt (Wd.setCell ⟨g1, a, none⟩ (.int .u8 ((cA ^^^ xa1).toNat : Int))).drew g1 (b0.data.toList.set a (cA ^^^ xa1)) := (Y1.out.set (by rw [HL.out]; exact han) (cA ^^^ xa1)).keep (Nat.le_refl _) rfl
        have b2 : BytesAt (Wd.setCell ⟨g1, a, none⟩ (.int .u8 ((cA ^^^ xa1).toNat : Int))).drew g2 b0.data.toList := (Y2.out.far (p := ⟨g1, a, none⟩) (.int .u8 ((cA ^^^ xa1).toNat : Int)) (Nat.ne_of_lt lg2)).keep (Nat.le_refl _) rfl
        have zc := fun j v (h : Wd.cell? ⟨B, j, none⟩ = some v) => (show (Wd.setCell ⟨g1, a, none⟩ (.int .u8 ((cA ^^^ xa1).toNat : Int))).drew.cell? ⟨B, j, none⟩ = some v from (World.cell?_setCell_far Wd ⟨g1, a, none⟩ ⟨B, j, none⟩ _ (Nat.ne_of_gt lg1)).trans h)
        have e1 := zc 1 _ e1
        have e2 := zc 2 _ e2
        have e3 := zc 3 _ e3
        have e4 := zc 4 _ e4
        have mE : Below B w (Wd.setCell ⟨g1, a, none⟩ (.int .u8 ((cA ^^^ xa1).toNat : Int))).drew := (MD.out.setCell (p := ⟨g1, a, none⟩) (Nat.le_of_lt lg1) _).drew
        generalize (Wd.setCell ⟨g1, a, none⟩ (.int .u8 ((cA ^^^ xa1).toNat : Int))).drew = We at b1 b2 e1 e2 e3 e4 mE ⊢
        rw [← mix_zero b0.data.toList a [xa1, xb1, xc1, xd1]] at b2
        have hst := Lib.hid (show LoopB We B g1 g2 a b0 (cA ^^^ xa1) xa1 xb1 xc1 xd1 w 0 from ⟨b1, b2, e1, e2, e3, e4, mE⟩)
        clear zc k1 f1 x1 x1' e0 e1 e2 e3 e4 mE b1 b2 Y1 Y2 MD hcv1 hcv2
        go_wp2_with fail
        go_loopw [8] (fun i wr => ∃ k : Nat, i = .int .i64 (k : Int) ∧ k ≤ 4 ∧ a + k ≤ b0.size ∧ LoopB wr B g1 g2 a b0 (cA ^^^ xa1) xa1 xb1 xc1 xd1 w k) (fun i _ => 4 - (intOf i).toNat)
        case atStart => exact ⟨0, rfl, Nat.zero_le _, by omega, hst.out⟩
        case round =>
          obtain ⟨k, rfl, hk, hak, hB⟩ := hrel
          have q1 : IntKind.i64.wrap ((a : Int) + (k : Int)) = (a : Int) + (k : Int) := IntWalk.i64_in _ (by omega)
          have q2 : (0 : Int) ≤ (a : Int) + (k : Int) := by omega
          have q3 : ((a : Int) + (k : Int)).toNat = a + k := by omega
          by_cases h4 : k < 4
          · have h4' : (k : Int) < 4 := by omega
            by_cases hlt : a + k < b0.size
            · have hlt' : (a : Int) + (k : Int) < (b0.size : Int) := by omega
              have hkl : a + k < b0.data.toList.length := by rw [HL.out]; exact hlt
              obtain ⟨cB, hcB⟩ : ∃ c, b0.data.toList[a + k] = c := ⟨_, rfl⟩
              have hcB' : (mix b0.data.toList a [xa1, xb1, xc1, xd1] k)[a + k]? = some cB := by rw [mix_at hkl (by show k ≤ 4; omega), List.getElem?_eq_getElem hkl, hcB]
              obtain ⟨xk, hxk⟩ : ∃ c, ([xa1, xb1, xc1, xd1] : List UInt8)[k]'(by show k < 4; omega) = c := ⟨_, rfl⟩
              have k1 := hB.b2.at_ (a + k) cB hcB'
              have f1 := hB.b2.fz (a + k) (by rw [mix_len (by omega) (by show k ≤ 4; omega)]; exact hkl)
              have k2 := hB.bits k h4 xk hxk
              have x1 := u8_xor_nat cB.toNat xk.toNat cB.toNat_lt xk.toNat_lt
              have x1' := Lib.hid (show cB.toNat ^^^ xk.toNat = (cB ^^^ xk).toNat from (UInt8.toNat_xor ..).symm)
              have hnx := Lib.hid (hB.next hkl h4 hcB hxk lg1 lg2)
              clear hcB hcB' hxk hB hkl
              go_wp2_with fail
              go_region
              rw [x1'.out]
              go_wp2_with fail
              exact ⟨⟨k + 1, rfl, by omega, by omega, hnx.out⟩, by simp [intOf]; omega⟩
            · have hlt' : ¬ (a : Int) + (k : Int) < (b0.size : Int) := by omega
              obtain ⟨b1, b2, -, -, -, -, hBe⟩ := hB
              have SO := Lib.hid (one_same (l := b0.data.toList) (a := a) (by rw [HL.out]; exact han) (cA ^^^ xa1))
              have SF := Lib.hid (four_same (l := b0.data.toList) (X := [xa1, xb1, xc1, xd1]) (a := a) (k := k) (by rw [HL.out]; exact hak) hk hk)
              have lO : (b0.data.toList.set a (cA ^^^ xa1)).length = b0.size := by rw [List.length_set]; exact HL.out
              have lF : (mix b0.data.toList a [xa1, xb1, xc1, xd1] k).length = b0.size := by rw [mix_len (by rw [HL.out]; exact hak) hk]; exact HL.out
              generalize b0.data.toList.set a (cA ^^^ xa1) = O at SO lO b1
              generalize mix b0.data.toList a [xa1, xb1, xc1, xd1] k = F at SF lF b2
              have KS := Lib.hid (fun W (h : Below wr.heap.size wr W) => (⟨h, (b1.below h).conv b0.size C1 lO, (b2.below h).conv b0.size C2 lF⟩ :
                Below wr.heap.size wr W ∧ (convert 49 9 (.slice (some ⟨g1, 0, none⟩) b0.size C1)).run Tryd.prog W = .ok (.string (toS O)) W ∧ (convert 49 9 (.slice (some ⟨g2, 0, none⟩) b0.size C2)).run Tryd.prog W = .ok (.string (toS F)) W))
              have d1 := Lib.hid (fun W => qHash_any (toS O) W (by rw [toS_size]; omega))
              have d2 := Lib.hid (fun W => qHash_any b0 W (by omega))
              have hBw : Below w.heap.size w wr := by rw [HB.out]; exact hBe
              have AWr := Lib.hid (fun W (hB : Below wr.heap.size wr W) => AWK.out W (hBw.trans (hB.mono hBw.size)))
              have d3 := Lib.hid (fun W (hB : Below wr.heap.size wr W) => qCrc_any (toS F) W (HT.out.below (hBw.trans (hB.mono hBw.size))) (by rw [toS_size]; omega))
              have d4 := Lib.hid (fun W (hB : Below wr.heap.size wr W) => qCrc_any b0 W (HT.out.below (hBw.trans (hB.mono hBw.size))) (by omega))
              clear hBw
              rw [data_toS] at d1 d3
              have hb : ∀ (L : List UInt8) (x y : Nat), (x = y ↔ L = b0.data.toList) → ((toS L).toList == b0.toList) = decide (x = y) := fun L x y h => by
                rw [Lib.toList_data, Lib.toList_data, data_toS]
                by_cases e : x = y
                · rw [decide_eq_true e]; exact beq_iff_eq.2 (h.1 e)
                · rw [decide_eq_false e]; exact beq_false_of_ne (fun e2 => e (h.2 e2))
              have hd : ∀ x y : Nat, ((x : Int) == (y : Int)) = decide (x = y) := fun x y => by
                by_cases e : x = y
                · rw [decide_eq_true e]; exact beq_iff_eq.2 (by omega)
                · rw [decide_eq_false e]; exact beq_false_of_ne (by omega)
              have hO2 := hb O _ _ SO.out
              have hF2 := hb F _ _ SF.out
              have hO1 := hd (fnvN O) (fnvN b0.data.toList)
              have hF1 := hd (crcN F) (crcN b0.data.toList)
              generalize decide (fnvN O = fnvN b0.data.toList) = bO at hO1 hO2
              generalize decide (crcN F = crcN b0.data.toList) = bF at hF1 hF2
              generalize fnvN O = h1 at d1 hO1
              generalize fnvN b0.data.toList = h2 at d2 hO1
              generalize crcN F = h3 at d3 hF1
              generalize crcN b0.data.toList = h4 at d4 hF1
              generalize toS O = sO at KS d1 hO2
              generalize toS F = sF at KS d3 hF2
              have hbO : (bO == bO) = true := beq_self_eq_true _
              have hbF : (bF == bF) = true := beq_self_eq_true _
              have B0 := (Below.refl wr.heap.size wr).drew
              clear SO SF lO lF b1 b2 hb hd
              go_wp2_with fail
              go_region_held3 (fun W => Below wr.heap.size wr W ∧ (convert 49 9 (.slice (some ⟨g1, 0, none⟩) b0.size C1)).run Tryd.prog W = .ok (.string sO) W ∧ (convert 49 9 (.slice (some ⟨g2, 0, none⟩) b0.size C2)).run Tryd.prog W = .ok (.string sF) W)
                (first | exact KS.out _ B5 | exact KS.out _ B4 | exact KS.out _ B3 | exact KS.out _ B2 | exact KS.out _ B1 | exact KS.out _ B0)
                (first | (go_at_call 13; refine (AWr.out _ B4).mono ?_; rintro e w5 ⟨rfl, k5⟩; have B5 := stepB B4 k5) | (go_at_call 11; have B3' := B3; refine (d4.out _ B3').mono ?_; rintro e w4 ⟨rfl, k4⟩; have B4 := stepB B3' k4) | (go_at_call 11; have B2' := B2; refine (d3.out _ B2').mono ?_; rintro e w3 ⟨rfl, k3⟩; have B3 := stepB B2' k3) | (go_at_call 14; have B1' := B1; refine (d2.out _).mono ?_; rintro e w2 ⟨rfl, k2⟩; have B2 := stepB B1' k2) | (go_at_call 14; refine (d1.out _).mono ?_; rintro e w1 ⟨rfl, k1⟩; have B1 := stepB B0 k1))
              all_goals (
                go_wp2_with fail
                go_ret
                exact ⟨rfl, by rw [← HB.out] at hBe; exact hBe.trans (B5.mono hBe.size)⟩)
          · have h4' : ¬ (k : Int) < 4 := by omega
            obtain ⟨b1, b2, -, -, -, -, hBe⟩ := hB
            have SO := Lib.hid (one_same (l := b0.data.toList) (a := a) (by rw [HL.out]; exact han) (cA ^^^ xa1))
            have SF := Lib.hid (four_same (l := b0.data.toList) (X := [xa1, xb1, xc1, xd1]) (a := a) (k := k) (by rw [HL.out]; exact hak) hk hk)
            have lO : (b0.data.toList.set a (cA ^^^ xa1)).length = b0.size := by rw [List.length_set]; exact HL.out
            have lF : (mix b0.data.toList a [xa1, xb1, xc1, xd1] k).length = b0.size := by rw [mix_len (by rw [HL.out]; exact hak) hk]; exact HL.out
            generalize b0.data.toList.set a (cA ^^^ xa1) = O at SO lO b1
            generalize mix b0.data.toList a [xa1, xb1, xc1, xd1] k = F at SF lF b2
            have KS := Lib.hid (fun W (h : Below wr.heap.size wr W) => (⟨h, (b1.below h).conv b0.size C1 lO, (b2.below h).conv b0.size C2 lF⟩ :
              Below wr.heap.size wr W ∧ (convert 49 9 (.slice (some ⟨g1, 0, none⟩) b0.size C1)).run Tryd.prog W = .ok (.string (toS O)) W ∧ (convert 49 9 (.slice (some ⟨g2, 0, none⟩) b0.size C2)).run Tryd.prog W = .ok (.string (toS F)) W))
            have d1 := Lib.hid (fun W => qHash_any (toS O) W (by rw [toS_size]; omega))
            have d2 := Lib.hid (fun W => qHash_any b0 W (by omega))
            have hBw : Below w.heap.size w wr := by rw [HB.out]; exact hBe
            have AWr := Lib.hid (fun W (hB : Below wr.heap.size wr W) => AWK.out W (hBw.trans (hB.mono hBw.size)))
            have d3 := Lib.hid (fun W (hB : Below wr.heap.size wr W) => qCrc_any (toS F) W (HT.out.below (hBw.trans (hB.mono hBw.size))) (by rw [toS_size]; omega))
            have d4 := Lib.hid (fun W (hB : Below wr.heap.size wr W) => qCrc_any b0 W (HT.out.below (hBw.trans (hB.mono hBw.size))) (by omega))
            clear hBw
            rw [data_toS] at d1 d3
            have hb : ∀ (L : List UInt8) (x y : Nat), (x = y ↔ L = b0.data.toList) → ((toS L).toList == b0.toList) = decide (x = y) := fun L x y h => by
              rw [Lib.toList_data, Lib.toList_data, data_toS]
              by_cases e : x = y
              · rw [decide_eq_true e]; exact beq_iff_eq.2 (h.1 e)
              · rw [decide_eq_false e]; exact beq_false_of_ne (fun e2 => e (h.2 e2))
            have hd : ∀ x y : Nat, ((x : Int) == (y : Int)) = decide (x = y) := fun x y => by
              by_cases e : x = y
              · rw [decide_eq_true e]; exact beq_iff_eq.2 (by omega)
              · rw [decide_eq_false e]; exact beq_false_of_ne (by omega)
            have hO2 := hb O _ _ SO.out
            have hF2 := hb F _ _ SF.out
            have hO1 := hd (fnvN O) (fnvN b0.data.toList)
            have hF1 := hd (crcN F) (crcN b0.data.toList)
            generalize decide (fnvN O = fnvN b0.data.toList) = bO at hO1 hO2
            generalize decide (crcN F = crcN b0.data.toList) = bF at hF1 hF2
            generalize fnvN O = h1 at d1 hO1
            generalize fnvN b0.data.toList = h2 at d2 hO1
            generalize crcN F = h3 at d3 hF1
            generalize crcN b0.data.toList = h4 at d4 hF1
            generalize toS O = sO at KS d1 hO2
            generalize toS F = sF at KS d3 hF2
            have hbO : (bO == bO) = true := beq_self_eq_true _
            have hbF : (bF == bF) = true := beq_self_eq_true _
            have B0 := (Below.refl wr.heap.size wr).drew
            clear SO SF lO lF b1 b2 hb hd
            go_wp2_with fail
            go_region_held3 (fun W => Below wr.heap.size wr W ∧ (convert 49 9 (.slice (some ⟨g1, 0, none⟩) b0.size C1)).run Tryd.prog W = .ok (.string sO) W ∧ (convert 49 9 (.slice (some ⟨g2, 0, none⟩) b0.size C2)).run Tryd.prog W = .ok (.string sF) W)
              (first | exact KS.out _ B5 | exact KS.out _ B4 | exact KS.out _ B3 | exact KS.out _ B2 | exact KS.out _ B1 | exact KS.out _ B0)
              (first | (go_at_call 13; refine (AWr.out _ B4).mono ?_; rintro e w5 ⟨rfl, k5⟩; have B5 := stepB B4 k5) | (go_at_call 11; have B3' := B3; refine (d4.out _ B3').mono ?_; rintro e w4 ⟨rfl, k4⟩; have B4 := stepB B3' k4) | (go_at_call 11; have B2' := B2; refine (d3.out _ B2').mono ?_; rintro e w3 ⟨rfl, k3⟩; have B3 := stepB B2' k3) | (go_at_call 14; have B1' := B1; refine (d2.out _).mono ?_; rintro e w2 ⟨rfl, k2⟩; have B2 := stepB B1' k2) | (go_at_call 14; refine (d1.out _).mono ?_; rintro e w1 ⟨rfl, k1⟩; have B1 := stepB B0 k1))
            all_goals (
              go_wp2_with fail
              go_ret
              exact ⟨rfl, by rw [← HB.out] at hBe; exact hBe.trans (B5.mono hBe.size)⟩)

/-! ### The row's step -/
set_option maxRecDepth 100000 in
theorem lifted (os : Os) (started : os.Started) (H : Type) (enc : TypeId × Value → H) :
    ReturnsInHanded {} Tryd.checked os 10 .any (fun w args => (Rows.digestBurstsSpec.pre enc Tryd.prog Tryd.f10 [] false w args ∧ laidMetH Tryd.prog Dg.laidL w) ∧ sizedMet enc Tryd.prog Tryd.f10 (OpenSpec.ofChange Rows.digestBurstsSpec) false w args)
      (Rows.digestBurstsSpec.post enc Tryd.prog Tryd.f10 false true false false) := by
  refine returnsInHanded_of_change_and (C := Tryd.checked) (X := fun w _ => laidMetH Tryd.prog Dg.laidL w) (fun _ _ _ hh h => h.of_heap hh) own started (by kernel_rfl) Tryd.func10
    (ChangeSpec.witness_shaped (enc := enc) (C := Tryd.checked) (os := os) (X := fun w _ => laidMetH Tryd.prog Dg.laidL w) false (World.doorLaid Tryd.prog 400 os) #[.string ByteArray.empty, .agg #[.int .i64 0, .int .u8 0, .int .u8 0, .int .u8 0, .int .u8 0]] 8 rfl (World.shaped_of_RefB (by kernel_rfl) (by kernel_rfl)) (by kernel_rfl) (by kernel_rfl) (by kernel_rfl) (Dg.door_met os _)) ?_
  intro W base args ds gs before hval0 hW hcnd hsz0 hL _
  have hT := Dg.halves_of_laid hL
  clear hL
  have hval : ∀ (j : Nat) t v, Tryd.f10.params[j]? = some t → args[j]? = some v → Value.okWide Tryd.prog W .any base t v := hval0
  have hW' := hW
  obtain ⟨p, q, hA0, hV, rfl, hfz, hnd⟩ := hW
  have hA : DataW.TrodAll enc Tryd.prog W 0 (fun _ => true) true Tryd.f10.params.toList args.toList ds p := hA0
  rw [Tryd.params10] at hA hval
  obtain ⟨v0, vs0, d0, ds0, p0, q0, hargs, rfl, rfl, h0, r0⟩ := trodAll_cons hA
  obtain ⟨v1, vs1, d1, ds1, p1, q1, rfl, rfl, rfl, h1, r1⟩ := trodAll_cons r0
  obtain ⟨rfl, rfl, rfl⟩ := trodAll_nil r1
  obtain rfl : args = #[v0, v1] := by cases args; simp_all
  obtain ⟨rfl, rfl⟩ := trodVars_none hV
  obtain ⟨b0, rfl, rfl, rfl, w0⟩ := open_string Tryd.underlying9 (hval 0 9 v0 rfl rfl) h0
  have k1 := h1
  have lt1 : ∀ x ∈ p1, x.block < W.heap.size := by obtain ⟨m, hm⟩ := k1; exact DataW.trod_lt m _ _ _ hm
  obtain ⟨i1, xa1, xb1, xc1, xd1, rfl, wi1⟩ := change_arg (hval 1 48 v1 rfl rfl) h1
  clear hA0 hval0
  simp only [List.append_nil] at hW'
  refine (walk b0 w0 i1 xa1 xb1 xc1 xd1 wi1 W hT).mono fun e W' ⟨he, hg⟩ => ?_
  subst he
  exact ⟨_, rfl, _, _, _, [], _, [], hW', trodAll_mk1 (shut_bool Tryd.underlying4 _), (trodAll_cons_mk (shut_string Tryd.underlying9 w0) (trodAll_cons_mk (Below.trod laidOut (by kernel_rfl) (of_decide_eq_true (by kernel_rfl)) k1 hg lt1) trodAll_mk0)), rfl, hg.frame _, fun h => by cases h⟩

theorem over : Rows.digestBurstsRow.holds Tryd.pinned (OpenSpec.ofChange Rows.digestBurstsSpec) :=
  OpenClaim.holds_of_wide 10 Tryd.f10 rfl rfl rfl rfl rfl rfl rfl ⟨rfl, rfl, rfl, rfl, rfl⟩ rfl rfl rfl rfl rfl (by kernel_rfl) Tryd.func10 (by kernel_rfl)
    (of_decide_eq_true (by kernel_rfl)) (by unfold Func.isWrapper; first | (rw [if_pos (by decide +kernel)]; kernel_rfl) | (rw [if_neg (by decide +kernel)]; exact ⟨rfl, rfl⟩))
    (fun os started H enc _ => lifted os started H enc)

/-- The statement: the card: the row, and what it lists tied to the program's text. -/
theorem proved : Rows.DigestBurstsCardSaid :=
  Claim7.holds_tied_plain_at .later [] [.data] true _ _
    over (fun _ h => by cases h) (by kernel_rfl) (fun _ h => by cases h) digestBursts_row_tie rfl ⟨rfl, rfl⟩ (by kernel_rfl) rfl
    (fun f fn hf hfn => by
      obtain rfl : f = 10 := Option.some.inj ((show Tryd.prog.funcNamed "shipyard/shipyardlaw06.DigestBursts" = some 10 by kernel_rfl).symm.trans hf) |>.symm
      obtain rfl : fn = Tryd.f10 := (Option.some.inj (Tryd.func10.symm.trans hfn)).symm
      exact ⟨by kernel_rfl, fun j t ht => by
        rw [Tryd.params10] at ht
        have hm : t ∈ ([9, 48] : List Nat) := by simpa using Array.mem_of_getElem? ht
        have hall : (([9, 48] : List Nat).all fun u => !Tryd.prog.wantsStandIn u) = true := by kernel_rfl
        exact (show Tryd.prog.wantsStandIn t = false by simpa using List.all_eq_true.1 hall t hm)⟩)
    (by kernel_rfl)
#print axioms proved
end Go.Proofs.YtandcacobahmbaaDoor.digestBursts
