/-
  The program's Parse.
-/
import Derived.Test.YtnpgikjahfhaoaaWVal
namespace Go.Proofs.Ytnpgikjahfhaoaa
open Go.RowKit Go.Proofs.WM Go.Proofs.WD

def ParV (l : List UInt8) : Value := .tuple #[.agg (widL (ParW l).1 (ParW l).2.1), .int .i64 (ParW l).2.2]
theorem parV_of (l : List UInt8) (s : Bool) (n : Nat) (c : Int) (h : ParW l = (s, n, c)) : .tuple #[.agg (widL s n), .int .i64 c] = ParV l := by unfold ParV; rw [h]
theorem minB_of (s : ByteArray) (h : s.data.toList.head? = some 45) : minB s.data.toList = true := by unfold minB; rw [h]; rfl
theorem minB_not (s : ByteArray) (h : ¬ s.data.toList.head? = some 45) : minB s.data.toList = false := by unfold minB; simpa using h

set_option maxHeartbeats 1000000 in
theorem pparse_any (s : ByteArray) (w : World) (hs : s.size ≤ 9223372036854775806) :
    Calls Try.prog 34 #[.string s] w (Gives (ParV s.data.toList) w) := by
  by_cases h0 : s.size = 0
  · have hn := nil_of_zero s h0
    have F := Lib.hid (parV_of s.data.toList false 0 3 (by rw [← Lib.toList_data, hn]; rfl))
    clear h0
    go_enter Try.func34, Try.ntmps34
    have kR : Hid (Blk (w.alloc (.cells wid0 25)) w.heap.size 25 wid0) := Blk.new _ _ _
    have kW := below1 w (.cells wid0 25)
    go_wp2_with (refine wpList_store_row rfl 25 (.tmp 2) (.tmp 10) rfl w.heap.size wid0 rfl rfl 25 _ kR.out info_wide rfl (widF_ones false (fun _ => 0)) ?_)
    exact gives_row_tmp rfl w.heap.size 25 (widL false 0) _ (.int .i64 3) rfl rfl ((kR.out.row _).of_eq widL0) under_wide rfl info_wide rfl ⟨ret_of F.out, below_row kW (Nat.le_refl _) _⟩
  have h0 : 0 < s.size := by omega
  have hn := ne_nil_of s h0
  have hne : s.toList.isEmpty = false := by simpa using hn
  have hl : ¬ s.data.toList = [] := by rw [← Lib.toList_data]; exact hn
  have HL := Lib.hid hl
  clear hl
  by_cases hz : s[0].toNat = 45
  · have hu : True := trivial
    have HB := Lib.hid (body_minus s h0 hz)
    have HMN := Lib.hid (minB_of s HB.out.2)
    have hz' : ((s[0].toNat : Int) == 45) = true := by simp; omega
    have hx : (s.extract 1 s.size).size ≤ 9223372036854775806 := by rw [ByteArray.size_extract]; omega
    have HX := Lib.hid hx
    have HG := Lib.hid (decB_good s.data.toList HL.out)
    rw [← HB.out.1] at HG
    clear hz hx
    cases hD : decB (s.extract 1 s.size).data.toList
    · have F := Lib.hid (parV_of s.data.toList false 0 5 (parW_syn _ HL.out (by
        cases hg : goodB s.data.toList
        · rfl
        · have := (HG.out.2 hg).1
          rw [hD] at this
          exact absurd this (by decide))))
      go_enter Try.func34, Try.ntmps34
      have kR : Hid (Blk (w.alloc (.cells wid0 25)) w.heap.size 25 wid0) := Blk.new _ _ _
      have kW := below1 w (.cells wid0 25)
      go_wp2_with fail
      refine (decimal_any (s.extract 1 s.size) _ HX.out).mono ?_
      rintro e w2 ⟨rfl, rfl⟩
      rw [hD]
      go_wp2_with (refine wpList_store_row rfl 25 (.tmp 2) (.tmp 25) rfl w.heap.size wid0 rfl rfl 25 _ kR.out info_wide rfl (widF_ones false (fun _ => 0)) ?_)
      exact gives_row_tmp rfl w.heap.size 25 (widL false 0) _ (.int .i64 5) rfl rfl ((kR.out.row _).of_eq widL0) under_wide rfl info_wide rfl ⟨ret_of F.out, below_row kW (Nat.le_refl _) _⟩
    · by_cases h48 : s.toList = [45, 48]
      · have F := Lib.hid (parV_of s.data.toList false 0 5 (by rw [← Lib.toList_data, h48]; decide))
        have h48' : (s.toList == [45, 48]) = true := by simpa using h48
        have H48 := Lib.hid h48
        clear h48
        go_enter Try.func34, Try.ntmps34
        have kR : Hid (Blk (w.alloc (.cells wid0 25)) w.heap.size 25 wid0) := Blk.new _ _ _
        have kW := below1 w (.cells wid0 25)
        go_wp2_with fail
        refine (decimal_any (s.extract 1 s.size) _ HX.out).mono ?_
        rintro e w2 ⟨rfl, rfl⟩
        rw [hD]
        go_wp2_with (refine wpList_store_row rfl 25 (.tmp 2) (.tmp 25) rfl w.heap.size wid0 rfl rfl 25 _ kR.out info_wide rfl (widF_ones false (fun _ => 0)) ?_)
        exact gives_row_tmp rfl w.heap.size 25 (widL false 0) _ (.int .i64 5) rfl rfl ((kR.out.row _).of_eq widL0) under_wide rfl info_wide rfl ⟨ret_of F.out, below_row kW (Nat.le_refl _) _⟩
      · have h48' : (s.toList == [45, 48]) = false := by simpa using h48
        have HGD := Lib.hid (HG.out.1 ⟨hD, by rw [← Lib.toList_data]; exact h48⟩)
        clear h48
        have HDG := Lib.hid (decB_dig _ hD)
        have HDD := Lib.hid hD
        obtain ⟨v, hv⟩ : ∃ v, v = valL (s.extract 1 s.size).data.toList := ⟨_, rfl⟩
        have HVV : Hid (valL (body s.data.toList) = v) := by show _ = _; rw [← HB.out.1, ← hv]
        by_cases hlt : v < M256
        · have HLT := Lib.hid hlt
          have F := Lib.hid (parV_of s.data.toList (sg true v) v 0 (by rw [parW_ok _ HL.out HGD.out (by rw [HVV.out]; exact hlt), HVV.out, HMN.out]))
          have HV : Hid (ValV (valL (s.extract 1 s.size).data.toList) = .tuple #[.agg (magL v), .bool false]) := by show _ = _; rw [← hv]; exact valV_ok hlt
          clear hlt hv
          go_enter Try.func34, Try.ntmps34
          have kR : Hid (Blk (w.alloc (.cells wid0 25)) w.heap.size 25 wid0) := Blk.new _ _ _
          have kW := below1 w (.cells wid0 25)
          go_wp2_with fail
          refine (decimal_any (s.extract 1 s.size) _ HX.out).mono ?_
          rintro e w2 ⟨rfl, rfl⟩
          rw [hD]
          go_wp2_with fail
          refine (value_any (s.extract 1 s.size) _ HX.out HDG.out).mono ?_
          rintro e w3 ⟨rfl, hb⟩
          rw [HV.out]
          have kR := Lib.hid (kR.out.below hb)
          have kW := kW.trans (hb.mono kW.size)
          have lR := kR.out.lt
          clear hb
          have kM : Hid (Blk ((w3.alloc (.cells mag0 45)).setRow w3.heap.size (magL v)) w3.heap.size 45 (magL v)) := (Blk.new _ _ _ : Blk (w3.alloc (.cells mag0 45)) w3.heap.size 45 mag0).row _
          have kR := Lib.hid ((kR.out.old (.cells mag0 45)).rowOther (k := w3.heap.size) (by omega) (magL v))
          have kW := below_row (kW.alloc kW.size (.cells mag0 45)) (g := w3.heap.size) kW.size (magL v)
          go_wp2_with (first | (refine wpList_store_row rfl 45 (.tmp 6) (.tmp 29) rfl w3.heap.size (magL v) rfl rfl 45 _ (Blk.new _ _ _) info_mag rfl (rowF_ones 4 (wd v)) ?_) | (refine wpList_load_row rfl 45 (.tmp 6) rfl w3.heap.size rfl 45 _ (0, 0) _ kM.out under_mag rfl info_mag ?_))
          generalize World.setRow _ _ _ = w4 at kM kR kW ⊢
          refine (checked_ok true v _ HLT.out).mono ?_
          rintro e w5 ⟨rfl, hb⟩
          have kR := Lib.hid (kR.out.below hb)
          have kW := kW.trans (hb.mono kW.size)
          clear hb
          go_wp2_with (refine wpList_store_row rfl 25 (.tmp 2) (.tmp 35) rfl w.heap.size (widL (sg true v) v) rfl rfl 25 _ kR.out info_wide rfl (widF_ones _ (wd v)) ?_)
          exact gives_row_tmp rfl w.heap.size 25 (widL (sg true v) v) _ (.int .i64 0) rfl rfl (kR.out.row _) under_wide rfl info_wide rfl ⟨ret_of F.out, below_row kW (Nat.le_refl _) _⟩
        · have F := Lib.hid (parV_of s.data.toList false 0 21 (parW_over _ HL.out HGD.out (by rw [HVV.out]; omega)))
          have HV : Hid (ValV (valL (s.extract 1 s.size).data.toList) = .tuple #[.agg (magL 0), .bool true]) := by show _ = _; rw [← hv]; exact valV_over (by omega)
          clear hlt hv
          go_enter Try.func34, Try.ntmps34
          have kR : Hid (Blk (w.alloc (.cells wid0 25)) w.heap.size 25 wid0) := Blk.new _ _ _
          have kW := below1 w (.cells wid0 25)
          go_wp2_with fail
          refine (decimal_any (s.extract 1 s.size) _ HX.out).mono ?_
          rintro e w2 ⟨rfl, rfl⟩
          rw [hD]
          go_wp2_with fail
          refine (value_any (s.extract 1 s.size) _ HX.out HDG.out).mono ?_
          rintro e w3 ⟨rfl, hb⟩
          rw [HV.out]
          have kR := Lib.hid (kR.out.below hb)
          have kW := kW.trans (hb.mono kW.size)
          have lR := kR.out.lt
          clear hb
          have kM : Hid (Blk ((w3.alloc (.cells mag0 45)).setRow w3.heap.size (magL 0)) w3.heap.size 45 (magL 0)) := (Blk.new _ _ _ : Blk (w3.alloc (.cells mag0 45)) w3.heap.size 45 mag0).row _
          have kR := Lib.hid ((kR.out.old (.cells mag0 45)).rowOther (k := w3.heap.size) (by omega) (magL 0))
          have kW := below_row (kW.alloc kW.size (.cells mag0 45)) (g := w3.heap.size) kW.size (magL 0)
          go_wp2_with (first | (refine wpList_store_row rfl 45 (.tmp 6) (.tmp 29) rfl w3.heap.size (magL 0) rfl rfl 45 _ (Blk.new _ _ _) info_mag rfl (rowF_ones 4 (wd 0)) ?_) | (refine wpList_load_row rfl 45 (.tmp 6) rfl w3.heap.size rfl 45 _ (0, 0) _ kM.out under_mag rfl info_mag ?_))
          generalize World.setRow _ _ _ = w4 at kM kR kW ⊢
          refine (checked_over true 0 _).mono ?_
          rintro e w5 ⟨rfl, hb⟩
          have kR := Lib.hid (kR.out.below hb)
          have kW := kW.trans (hb.mono kW.size)
          clear hb
          go_wp2_with (refine wpList_store_row rfl 25 (.tmp 2) (.tmp 35) rfl w.heap.size (widL false 0) rfl rfl 25 _ kR.out info_wide rfl (widF_ones _ (wd 0)) ?_)
          exact gives_row_tmp rfl w.heap.size 25 (widL false 0) _ (.int .i64 21) rfl rfl (kR.out.row _) under_wide rfl info_wide rfl ⟨ret_of F.out, below_row kW (Nat.le_refl _) _⟩
  · have hu : True := trivial
    have HB := Lib.hid (body_plain s h0 hz)
    have HMN := Lib.hid (minB_not s HB.out.2)
    have hz' : ((s[0].toNat : Int) == 45) = false := by simp; omega
    have hx : s.size ≤ 9223372036854775806 := by exact hs
    have HX := Lib.hid hx
    have HG := Lib.hid (decB_good s.data.toList HL.out)
    rw [← HB.out.1] at HG
    clear hz hx
    cases hD : decB s.data.toList
    · have F := Lib.hid (parV_of s.data.toList false 0 5 (parW_syn _ HL.out (by
        cases hg : goodB s.data.toList
        · rfl
        · have := (HG.out.2 hg).1
          rw [hD] at this
          exact absurd this (by decide))))
      go_enter Try.func34, Try.ntmps34
      have kR : Hid (Blk (w.alloc (.cells wid0 25)) w.heap.size 25 wid0) := Blk.new _ _ _
      have kW := below1 w (.cells wid0 25)
      go_wp2_with fail
      refine (decimal_any s _ HX.out).mono ?_
      rintro e w2 ⟨rfl, rfl⟩
      rw [hD]
      go_wp2_with (refine wpList_store_row rfl 25 (.tmp 2) (.tmp 25) rfl w.heap.size wid0 rfl rfl 25 _ kR.out info_wide rfl (widF_ones false (fun _ => 0)) ?_)
      exact gives_row_tmp rfl w.heap.size 25 (widL false 0) _ (.int .i64 5) rfl rfl ((kR.out.row _).of_eq widL0) under_wide rfl info_wide rfl ⟨ret_of F.out, below_row kW (Nat.le_refl _) _⟩
    · have h48 : ¬ s.toList = [45, 48] := by
        intro e
        rw [← Lib.toList_data, e] at HB
        exact HB.out.2 rfl
      have h48' : (s.toList == [45, 48]) = false := by simpa using h48
      have HGD := Lib.hid (HG.out.1 ⟨hD, by rw [← Lib.toList_data]; exact h48⟩)
      clear h48
      have HDG := Lib.hid (decB_dig _ hD)
      have HDD := Lib.hid hD
      obtain ⟨v, hv⟩ : ∃ v, v = valL s.data.toList := ⟨_, rfl⟩
      have HVV : Hid (valL (body s.data.toList) = v) := by show _ = _; rw [← HB.out.1, ← hv]
      by_cases hlt : v < M256
      · have HLT := Lib.hid hlt
        have F := Lib.hid (parV_of s.data.toList (sg false v) v 0 (by rw [parW_ok _ HL.out HGD.out (by rw [HVV.out]; exact hlt), HVV.out, HMN.out]))
        have HV : Hid (ValV (valL s.data.toList) = .tuple #[.agg (magL v), .bool false]) := by show _ = _; rw [← hv]; exact valV_ok hlt
        clear hlt hv
        go_enter Try.func34, Try.ntmps34
        have kR : Hid (Blk (w.alloc (.cells wid0 25)) w.heap.size 25 wid0) := Blk.new _ _ _
        have kW := below1 w (.cells wid0 25)
        go_wp2_with fail
        refine (decimal_any s _ HX.out).mono ?_
        rintro e w2 ⟨rfl, rfl⟩
        rw [hD]
        go_wp2_with fail
        refine (value_any s _ HX.out HDG.out).mono ?_
        rintro e w3 ⟨rfl, hb⟩
        rw [HV.out]
        have kR := Lib.hid (kR.out.below hb)
        have kW := kW.trans (hb.mono kW.size)
        have lR := kR.out.lt
        clear hb
        have kM : Hid (Blk ((w3.alloc (.cells mag0 45)).setRow w3.heap.size (magL v)) w3.heap.size 45 (magL v)) := (Blk.new _ _ _ : Blk (w3.alloc (.cells mag0 45)) w3.heap.size 45 mag0).row _
        have kR := Lib.hid ((kR.out.old (.cells mag0 45)).rowOther (k := w3.heap.size) (by omega) (magL v))
        have kW := below_row (kW.alloc kW.size (.cells mag0 45)) (g := w3.heap.size) kW.size (magL v)
        go_wp2_with (first | (refine wpList_store_row rfl 45 (.tmp 6) (.tmp 29) rfl w3.heap.size (magL v) rfl rfl 45 _ (Blk.new _ _ _) info_mag rfl (rowF_ones 4 (wd v)) ?_) | (refine wpList_load_row rfl 45 (.tmp 6) rfl w3.heap.size rfl 45 _ (0, 0) _ kM.out under_mag rfl info_mag ?_))
        generalize World.setRow _ _ _ = w4 at kM kR kW ⊢
        refine (checked_ok false v _ HLT.out).mono ?_
        rintro e w5 ⟨rfl, hb⟩
        have kR := Lib.hid (kR.out.below hb)
        have kW := kW.trans (hb.mono kW.size)
        clear hb
        go_wp2_with (refine wpList_store_row rfl 25 (.tmp 2) (.tmp 35) rfl w.heap.size (widL (sg false v) v) rfl rfl 25 _ kR.out info_wide rfl (widF_ones _ (wd v)) ?_)
        exact gives_row_tmp rfl w.heap.size 25 (widL (sg false v) v) _ (.int .i64 0) rfl rfl (kR.out.row _) under_wide rfl info_wide rfl ⟨ret_of F.out, below_row kW (Nat.le_refl _) _⟩
      · have F := Lib.hid (parV_of s.data.toList false 0 21 (parW_over _ HL.out HGD.out (by rw [HVV.out]; omega)))
        have HV : Hid (ValV (valL s.data.toList) = .tuple #[.agg (magL 0), .bool true]) := by show _ = _; rw [← hv]; exact valV_over (by omega)
        clear hlt hv
        go_enter Try.func34, Try.ntmps34
        have kR : Hid (Blk (w.alloc (.cells wid0 25)) w.heap.size 25 wid0) := Blk.new _ _ _
        have kW := below1 w (.cells wid0 25)
        go_wp2_with fail
        refine (decimal_any s _ HX.out).mono ?_
        rintro e w2 ⟨rfl, rfl⟩
        rw [hD]
        go_wp2_with fail
        refine (value_any s _ HX.out HDG.out).mono ?_
        rintro e w3 ⟨rfl, hb⟩
        rw [HV.out]
        have kR := Lib.hid (kR.out.below hb)
        have kW := kW.trans (hb.mono kW.size)
        have lR := kR.out.lt
        clear hb
        have kM : Hid (Blk ((w3.alloc (.cells mag0 45)).setRow w3.heap.size (magL 0)) w3.heap.size 45 (magL 0)) := (Blk.new _ _ _ : Blk (w3.alloc (.cells mag0 45)) w3.heap.size 45 mag0).row _
        have kR := Lib.hid ((kR.out.old (.cells mag0 45)).rowOther (k := w3.heap.size) (by omega) (magL 0))
        have kW := below_row (kW.alloc kW.size (.cells mag0 45)) (g := w3.heap.size) kW.size (magL 0)
        go_wp2_with (first | (refine wpList_store_row rfl 45 (.tmp 6) (.tmp 29) rfl w3.heap.size (magL 0) rfl rfl 45 _ (Blk.new _ _ _) info_mag rfl (rowF_ones 4 (wd 0)) ?_) | (refine wpList_load_row rfl 45 (.tmp 6) rfl w3.heap.size rfl 45 _ (0, 0) _ kM.out under_mag rfl info_mag ?_))
        generalize World.setRow _ _ _ = w4 at kM kR kW ⊢
        refine (checked_over false 0 _).mono ?_
        rintro e w5 ⟨rfl, hb⟩
        have kR := Lib.hid (kR.out.below hb)
        have kW := kW.trans (hb.mono kW.size)
        clear hb
        go_wp2_with (refine wpList_store_row rfl 25 (.tmp 2) (.tmp 35) rfl w.heap.size (widL false 0) rfl rfl 25 _ kR.out info_wide rfl (widF_ones _ (wd 0)) ?_)
        exact gives_row_tmp rfl w.heap.size 25 (widL false 0) _ (.int .i64 21) rfl rfl (kR.out.row _) under_wide rfl info_wide rfl ⟨ret_of F.out, below_row kW (Nat.le_refl _) _⟩
end Go.Proofs.Ytnpgikjahfhaoaa
