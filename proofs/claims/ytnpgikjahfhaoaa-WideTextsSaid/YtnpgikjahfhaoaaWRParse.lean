/-
  The reference's Parse.
-/
import Derived.Test.YtnpgikjahfhaoaaWParse
import Derived.Test.YtnpgikjahfhaoaaWRef1
import Derived.Test.YtnpgikjahfhaoaaWTimes
import Derived.Test.YtnpgikjahfhaoaaWAdd
import Derived.Test.YtnpgikjahfhaoaaKit
import Derived.Deep.LoopGhost
import Derived.Deep.CutRange
import Derived.Deep.DeepCutAuto
namespace Go.Proofs.Ytnpgikjahfhaoaa
open Go.RowKit Go.Proofs.WM Go.Proofs.WD Go.Proofs.Reg

theorem hw_small0 (x : Nat) (hx : x < 4294967296) : hw x 0 = x := by
  show x / 4294967296 ^ 0 % 4294967296 = x
  rw [Nat.pow_zero, Nat.div_one, Nat.mod_eq_of_lt hx]
theorem hw_small1 (x i : Nat) (hx : x < 4294967296) (hi : 1 ≤ i) : hw x i = 0 := dg_of_lt' (k := 1) (by decide) (by rw [Nat.pow_one]; exact hx) hi
theorem halD (d : Nat) (hd : d < 4294967296) : (#[.int .u64 (d : Int), .int .u64 0, .int .u64 0, .int .u64 0, .int .u64 0, .int .u64 0, .int .u64 0, .int .u64 0] : Array Value) = halL d := by
  unfold halL
  rw [hw_small0 d hd, hw_small1 d 1 hd (by decide), hw_small1 d 2 hd (by decide), hw_small1 d 3 hd (by decide), hw_small1 d 4 hd (by decide), hw_small1 d 5 hd (by decide), hw_small1 d 6 hd (by decide), hw_small1 d 7 hd (by decide)]
  rfl
theorem hal10 : (#[.int .u64 10, .int .u64 0, .int .u64 0, .int .u64 0, .int .u64 0, .int .u64 0, .int .u64 0, .int .u64 0] : Array Value) = halL 10 := halD 10 (by decide)
theorem good_nat (l : List UInt8) (h : goodB l = false) : natB (body l) = false ∧ ¬ l = [48] := by
  unfold goodB at h
  rw [Bool.or_eq_false_iff] at h
  exact ⟨h.2, by simpa using h.1⟩
theorem bad_of (l : List UInt8) (h1 : natB (body l) = false) (h2 : ¬ l = [48]) : goodB l = false := by
  unfold goodB
  rw [h1, show (l == [48]) = false by simpa using h2]
  rfl
theorem good_of (l : List UInt8) (h1 : ¬ body l = []) (h2 : l = [48] ∨ ¬ (body l).head? = some 48) (h3 : allDig (body l) = true) : goodB l = true := by
  unfold goodB
  rcases h2 with h2 | h2
  · rw [h2]; decide
  · rw [natB_of _ h1 h2 h3]; simp

set_option maxRecDepth 4000 in
set_option maxHeartbeats 2000000 in
theorem rparse_any (s : ByteArray) (w : World) (hs : s.size ≤ 9223372036854775806) :
    Calls Try.prog 35 #[.string s] w (Gives (ParV s.data.toList) w) := by
  have kR : Hid (Blk (w.alloc (.cells wid0 25)) w.heap.size 25 wid0) := Blk.new _ _ _
  have kW := below1 w (.cells wid0 25)
  by_cases h0 : s.size = 0
  · have hn := nil_of_zero s h0
    have F := Lib.hid (parV_of s.data.toList false 0 3 (by rw [← Lib.toList_data, hn]; rfl))
    clear h0
    go_enter Try.func35, Try.ntmps35
    go_wp2_with (refine wpList_store_row rfl 25 (.tmp 2) (.tmp 15) rfl w.heap.size wid0 rfl rfl 25 _ kR.out info_wide rfl (widF_ones false (fun _ => 0)) ?_)
    exact gives_row_tmp rfl w.heap.size 25 (widL false 0) _ (.int .i64 3) rfl rfl ((kR.out.row _).of_eq widL0) under_wide rfl info_wide rfl ⟨ret_of F.out, below_row kW (Nat.le_refl _) _⟩
  have h0 : 0 < s.size := by omega
  have hn := ne_nil_of s h0
  have hne : s.toList.isEmpty = false := by simpa using hn
  have hl : ¬ s.data.toList = [] := by rw [← Lib.toList_data]; exact hn
  have HL := Lib.hid hl
  clear hl
  have HX := Lib.hid (show (s.extract 1 s.size).size ≤ 9223372036854775806 by rw [ByteArray.size_extract]; omega)
  obtain ⟨neg, hz, HM, HT1, HT2⟩ : ∃ neg : Bool, ((s[0].toNat : Int) == 45) = neg ∧ Hid (minB s.data.toList = neg) ∧ Hid (neg = true → (s.extract 1 s.size).data.toList = body s.data.toList) ∧ Hid (neg = false → s.data.toList = body s.data.toList) := by
    by_cases hz : s[0].toNat = 45
    · exact ⟨true, by simp; omega, minB_of s (body_minus s h0 hz).2, fun _ => (body_minus s h0 hz).1, fun h => absurd h (by decide)⟩
    · exact ⟨false, by simp; omega, minB_not s (body_plain s h0 hz).2, fun h => absurd h (by decide), fun _ => (body_plain s h0 hz).1⟩
  go_enter Try.func35, Try.ntmps35
  go_upto_if 20 with fail
  go_cut [5] (fun s5 wr => ∃ t : ByteArray, s5 = .string t ∧ Hid (t.data.toList = body s.data.toList) ∧ t.size ≤ 9223372036854775806 ∧ Hid (Blk wr w.heap.size 25 wid0) ∧ Below w.heap.size w wr)
  case first =>
    cases neg
    · go_wp2_with fail
      go_meet
      exact ⟨_, rfl, HT2.out (by simp), hs, kR.out, kW⟩
    · go_wp2_with fail
      go_meet
      exact ⟨_, rfl, HT1.out (by simp), HX.out, kR.out, kW⟩
  case rest =>
    clear kR kW
    obtain ⟨t, rfl, hb, ht, kR, kW⟩ := hcut
    have hnb := Lib.hid (show natB t.data.toList = false → ¬ s.data.toList = [48] → .tuple #[.agg (widL false 0), .int .i64 5] = ParV s.data.toList from fun h h' => parV_of _ false 0 5 (parW_syn _ HL.out (bad_of _ (by rw [← hb.out]; exact h) h')))
    clear HT1 HT2
    by_cases ht0 : t.size = 0
    · have htn := nil_of_zero t ht0
      have F := Lib.hid (hnb.out (natB_zero t ht0) (fun e => by
        have := hb.out
        rw [e, body_48, ← Lib.toList_data, htn] at this
        exact absurd this (by decide)))
      clear ht0
      go_wp2_with (refine wpList_store_row rfl 25 (.tmp 2) (.tmp 34) rfl w.heap.size wid0 rfl rfl 25 _ kR.out info_wide rfl (widF_ones false (fun _ => 0)) ?_)
      exact gives_row_tmp rfl w.heap.size 25 (widL false 0) _ (.int .i64 5) rfl rfl ((kR.out.row _).of_eq widL0) under_wide rfl info_wide rfl ⟨ret_of F.out, below_row kW (Nat.le_refl _) _⟩
    have ht0 : 0 < t.size := by omega
    have htn := ne_nil_of t ht0
    have htne : t.toList.isEmpty = false := by simpa using htn
    by_cases hbad : t[0].toNat = 48 ∧ ¬ s.toList = [48]
    · have F := Lib.hid (hnb.out (natB_head t ht0 hbad.1) (by rw [← Lib.toList_data]; exact hbad.2))
      have x1 : ((t[0].toNat : Int) == 48) = true := by simp; omega
      have x2 : (s.toList == [48]) = false := by simpa using hbad.2
      clear hbad
      go_wp2_with (refine wpList_store_row rfl 25 (.tmp 2) (.tmp 34) rfl w.heap.size wid0 rfl rfl 25 _ kR.out info_wide rfl (widF_ones false (fun _ => 0)) ?_)
      exact gives_row_tmp rfl w.heap.size 25 (widL false 0) _ (.int .i64 5) rfl rfl ((kR.out.row _).of_eq widL0) under_wide rfl info_wide rfl ⟨ret_of F.out, below_row kW (Nat.le_refl _) _⟩
    have ok : s.data.toList = [48] ∨ ¬ (body s.data.toList).head? = some 48 := by
      by_cases h : s.toList = [48]
      · left; rw [← Lib.toList_data]; exact h
      · right
        rw [← hb.out, head_of t ht0]
        intro e
        injection e with e
        exact hbad ⟨by rw [e]; rfl, h⟩
    have x : ((t[0].toNat : Int) == 48) = false ∨ (((t[0].toNat : Int) == 48) = true ∧ (s.toList == [48]) = true) := by
      by_cases h : t[0].toNat = 48
      · right
        refine ⟨by simp; omega, ?_⟩
        by_cases h' : s.toList = [48]
        · simpa using h'
        · exact absurd ⟨h, h'⟩ hbad
      · left; simp; omega
    have OK := Lib.hid ok
    have XX := Lib.hid x
    clear ok hbad x
    go_upto_region 7 with fail
    go_cut [33] (fun s33 wr => s33 = .bool false ∧ Hid (Blk wr w.heap.size 25 wid0) ∧ Below w.heap.size w wr)
    case first =>
      rcases XX.out with x | ⟨x, x'⟩
      · go_wp2_with fail
        go_meet
        exact ⟨rfl, kR.out, kW⟩
      · go_wp2_with fail
        go_meet
        exact ⟨rfl, kR.out, kW⟩
    case rest =>
      clear kR kW XX
      obtain ⟨rfl, kR, kW⟩ := hcut
      go_wp2_with fail
      go_loop [6] (fun i => ∃ k : Nat, k ≤ t.size ∧ i = .int .i64 k ∧ Hid (allDig (t.data.toList.take k) = true)) (fun i => t.size - (intOf i).toNat)
      case atStart => exact ⟨0, by omega, rfl, by show _ = _; simp [allDig]⟩
      case round =>
        obtain ⟨k, hk, rfl, ha⟩ := hrel
        by_cases hlt : k < t.size
        · have HT := Lib.hid (take_snoc t k hlt)
          have HN := Lib.hid (show t[k].toNat < 48 ∨ 57 < t[k].toNat → .tuple #[.agg (widL false 0), .int .i64 5] = ParV s.data.toList from fun h => by
            have hd := allDig_no t k hlt h
            refine hnb.out ?_ ?_
            · cases hq : natB t.data.toList
              · rfl
              · rw [natB_dig _ hq] at hd; exact absurd hd (by decide)
            · intro e
              rw [hb.out, e, body_48] at hd
              exact absurd hd (by decide))
          go_wp2_with (refine wpList_store_row rfl 25 (.tmp 2) (.tmp 51) rfl w.heap.size wid0 rfl rfl 25 _ kR.out info_wide rfl (widF_ones false (fun _ => 0)) ?_)
          · rename_i hq _
            have F := Lib.hid (HN.out (by omega))
            exact gives_row_tmp rfl w.heap.size 25 (widL false 0) _ (.int .i64 5) rfl rfl ((kR.out.row _).of_eq widL0) under_wide rfl info_wide rfl ⟨ret_of F.out, below_row kW (Nat.le_refl _) _⟩
          · rename_i hq
            refine ⟨⟨k + 1, by omega, by go_num, ?_⟩, by simp [intOf]; omega⟩
            show _ = _
            rw [HT.out, allDig_snoc, ha.out]
            unfold dig
            simp; omega
          · rename_i hq
            have F := Lib.hid (HN.out (by omega))
            exact gives_row_tmp rfl w.heap.size 25 (widL false 0) _ (.int .i64 5) rfl rfl ((kR.out.row _).of_eq widL0) under_wide rfl info_wide rfl ⟨ret_of F.out, below_row kW (Nat.le_refl _) _⟩
        · obtain rfl : k = t.size := by omega
          have HAD := Lib.hid (show allDig t.data.toList = true by rw [List.take_of_length_le (by rw [← Lib.size_eq]; omega)] at ha; exact ha.out)
          have HGD := Lib.hid (good_of s.data.toList (by rw [← hb.out, ← Lib.toList_data]; exact htn) OK.out (by rw [← hb.out]; exact HAD.out))
          clear ha hlt hnb
          have lR := kR.out.lt
          have kD : Hid (Blk (wc.alloc (.cells hal0 48)) wc.heap.size 48 (halL 0)) := (Blk.new _ _ _).of_eq halL0
          have kR := Lib.hid (kR.out.old (.cells hal0 48))
          have kW := kW.alloc kW.size (.cells hal0 48)
          go_wp2_with fail
          obtain ⟨gd, hgd⟩ : ∃ gd, gd = wc.heap.size := ⟨_, rfl⟩
          rw [← hgd] at kD lR ⊢
          clear hgd
          have nR : w.heap.size ≠ gd := by omega
          have gw : w.heap.size ≤ gd := by omega
          clear lR
          generalize World.alloc _ _ = wq at kR kD kW ⊢
          go_loopw [8] (fun i wr => ∃ k : Nat, k ≤ t.size ∧ i = .int .i64 k ∧ Hid (valL (t.data.toList.take k) < M256) ∧ Hid (Blk wr gd 48 (halL (valL (t.data.toList.take k)))) ∧ Hid (Blk wr w.heap.size 25 wid0) ∧ Below w.heap.size w wr) (fun i _ => t.size - (intOf i).toNat)
          case atStart => exact ⟨0, by omega, rfl, m_pos, kD.out, kR.out, kW⟩
          case round =>
            clear kD kR kW
            obtain ⟨k, hk, rfl, hx, kD, kR, kW⟩ := hrel
            generalize hX : valL (t.data.toList.take k) = X at *
            have HXX := Lib.hid hX
            clear hX
            by_cases hlt : k < t.size
            · have hbd := dig_at t k hlt HAD.out
              have b1 : 48 ≤ t[k].toNat := hbd.1
              have b2 : t[k].toNat ≤ 57 := hbd.2
              have hst := Lib.hid (show valL (t.data.toList.take (k + 1)) = 10 * X + (t[k].toNat - 48) by rw [valL_step t k hlt, HXX.out])
              have hle := Lib.hid (valL_take t.data.toList (k + 1))
              obtain ⟨d, hd⟩ : ∃ d, d = t[k].toNat - 48 := ⟨_, rfl⟩
              have hd10 : d < 10 := by omega
              have hdd : (t[k].toNat : Int) - 48 = (d : Int) := by omega
              rw [← hd] at hst
              clear hd hbd
              go_wp2_with (refine wpList_load_row rfl 48 (.tmp 7) rfl gd rfl 48 _ (0, 0) _ kD.out under_arr8 rfl info_arr8 ?_)
              rw [hal10]
              refine (rtimes_any X 10 _ hx.out (by decide)).mono ?_
              rintro e w2 ⟨rfl, hb2⟩
              have kD := Lib.hid (kD.out.below hb2)
              have kR := Lib.hid (kR.out.below hb2)
              have kW := kW.trans (hb2.mono kW.size)
              clear hb2
              have lD := kD.out.lt
              have lR := kR.out.lt
              have hpl := Lib.hid (mulN_lt X 10)
              have hpe := Lib.hid (show mulB X 10 = false → mulN X 10 = X * 10 from fun h => by unfold mulB at h; unfold mulN; exact Nat.mod_eq_of_lt (by simpa using h))
              have hmb := Lib.hid (show mulB X 10 = decide (M256 ≤ X * 10) from rfl)
              generalize mulN X 10 = p at *
              generalize mulB X 10 = o at *
              have kP : Hid (Blk ((w2.alloc (.cells hal0 48)).setRow w2.heap.size (halL p)) w2.heap.size 48 (halL p)) := (Blk.new _ _ _ : Blk (w2.alloc (.cells hal0 48)) w2.heap.size 48 hal0).row _
              have kD := Lib.hid ((kD.out.old (.cells hal0 48)).rowOther (k := w2.heap.size) (by omega) (halL p))
              have kR := Lib.hid ((kR.out.old (.cells hal0 48)).rowOther (k := w2.heap.size) (by omega) (halL p))
              have kW := below_row (kW.alloc kW.size (.cells hal0 48)) (g := w2.heap.size) kW.size (halL p)
              go_wp2_with (refine wpList_store_row rfl 48 (.tmp 9) (.tmp 62) rfl w2.heap.size (halL p) rfl rfl 48 _ (Blk.new _ _ _) info_arr8 rfl (rowF_ones 8 (hw p)) ?_)
              obtain ⟨gp, hgp⟩ : ∃ gp, gp = w2.heap.size := ⟨_, rfl⟩
              rw [← hgp] at kD kR kW kP lD lR ⊢
              clear hgp
              generalize World.setRow _ _ _ = w3 at kD kR kW kP ⊢
              have wr8 : IntKind.u8.wrap (d : Int) = (d : Int) := by rw [IntKind.wrap_u8]; omega
              have wr64 : IntKind.u64.wrap (d : Int) = (d : Int) := wrap_in _ (by omega) (by omega)
              have HDL := Lib.hid (halD d (by omega))
              have hdM := Lib.hid (show d < M256 from Nat.lt_of_lt_of_le hd10 (by decide))
              obtain ⟨q, hq⟩ : ∃ q, q = addM p d := ⟨_, rfl⟩
              obtain ⟨m2, hm2⟩ : ∃ m2, m2 = overB p d := ⟨_, rfl⟩
              have HQ := Lib.hid hq
              have HM2 := Lib.hid hm2
              clear hq hm2
              have hcon : ∀ wx, Calls Try.prog 48 #[.agg (halL p), .agg #[.int .u64 (d : Int), .int .u64 0, .int .u64 0, .int .u64 0, .int .u64 0, .int .u64 0, .int .u64 0, .int .u64 0]] wx (Gives (.tuple #[.agg (halL q), .bool m2]) wx) := fun wx => by rw [HDL.out, HQ.out, HM2.out]; exact rplus_any p d wx hpl.out hdM.out
              have hG : Keep [(gd, 48, (halL X)), (gp, 48, (halL p))] (w.heap.size) 25 wid0 wid0 w w3.drew := by
                refine ⟨?_, .inl kR.out.drew, kW.drew⟩
                intro k hk
                simp only [List.mem_cons, List.mem_nil_iff, or_false] at hk
                rcases hk with rfl | rfl
                · exact kD.out.drew
                · exact kP.out.drew
              clear kD kR kW kP
              refine region_kit (ds := [some 65, some 66, some 67, some 68, some 69, some 70, some 71, some 72, some 64, some 73, some 74, some 11, none]) [((· == w.heap.size), 25, wid0), ((fun k => decide (gp + 1 ≤ k)), 48, (halL q))] [[], [], [], [1, 2], [3], [4], [5], [0, 6], [7], [8], [8], [], [9, 11]] (fun i => false) [.is _ 0 (.agg (halL p)), .is _ 1 (.string t), .is _ 2 (.int .i64 (k : Int)), .is _ 3 (.int .u8 (t[k].toNat : Int)), .is _ 4 (.int .u8 (d : Int)), .is _ 5 (.int .u64 (d : Int)), .is _ 6 (.agg #[.int .u64 (d : Int), .int .u64 0, .int .u64 0, .int .u64 0, .int .u64 0, .int .u64 0, .int .u64 0, .int .u64 0]), .is _ 7 (.tuple #[.agg (halL q), .bool m2]), .is _ 8 (.tuple #[.agg (halL q), .bool m2]), .is _ 9 (.agg (halL q)), .is _ 10 (.bool m2), .ptr2 _ 11 (gp + 1) 48 hal0 (halL q) (by intro r hr k hk hx; simp only [List.mem_cons, List.mem_nil_iff, or_false] at hr; rcases hr with rfl | rfl <;> simp at hx ⊢ <;> omega), .own _ 11 (gp + 1) 48 (halL q) (by intro r hr k hk hx; simp only [List.mem_cons, List.mem_nil_iff, or_false] at hr; rcases hr with rfl | rfl <;> simp at hx ⊢ <;> omega)] (Keep [(gd, 48, (halL X)), (gp, 48, (halL p))] (w.heap.size) 25 wid0 wid0 w) follows_mixed (by kernel_rfl) (by kernel_rfl) (by kernel_rfl) (fun _ _ h he => h.ext he (by intro r hr k hk; simp only [List.mem_cons, List.mem_nil_iff, or_false] at hr hk; rcases hr with rfl | rfl <;> rcases hk with rfl | rfl <;> simp <;> omega) (by intro r hr hx; simp only [List.mem_cons, List.mem_nil_iff, or_false] at hr; rcases hr with rfl | rfl <;> simp at hx ⊢ <;> omega) (by intro r hr k hk; simp only [List.mem_cons, List.mem_nil_iff, or_false] at hr; rcases hr with rfl | rfl <;> simp <;> omega)) hG ?_ ?_
              · refine steps_cons ?_ (steps_cons ?_ (steps_cons ?_ (steps_cons ?_ (steps_cons ?_ (steps_cons ?_ (steps_cons ?_ (steps_cons ?_ (steps_cons ?_ (steps_cons ?_ (steps_cons ?_ (steps_cons ?_ (steps_cons ?_ (steps_nil)))))))))))))
                · exact fun xs wx hG _ => step_row 48 (.tmp 9) rfl (gp) (eval_old (by decide)) 48 (halL p) _ (hG.rows _ (List.mem_cons_of_mem _ (List.mem_cons_self ..))) under_arr8 rfl info_arr8 rfl
                · exact fun xs wx hG _ => step_value (.string t) (w' := wx) (by simp only [fillIn, Act.put, List.setIfInBounds_toArray, List.set_cons_zero, List.set_cons_succ]; go_simp) rfl (Below.refl _ _)
                · exact fun xs wx hG _ => step_value (.int .i64 (k : Int)) (w' := wx) (by simp only [fillIn, Act.put, List.setIfInBounds_toArray, List.set_cons_zero, List.set_cons_succ]; go_simp) rfl (Below.refl _ _)
                · intro xs wx hG hF
                  have f1 : xs 1 = (.string t) := hF.1
                  have f2 : xs 2 = (.int .i64 (k : Int)) := hF.2.1
                  exact step_value (.int .u8 (t[k].toNat : Int)) (w' := wx) (by simp only [fillIn, Act.put, List.setIfInBounds_toArray, List.set_cons_zero, List.set_cons_succ, f1, f2]; go_simp) rfl (Below.refl _ _)
                · intro xs wx hG hF
                  have f3 : xs 3 = (.int .u8 (t[k].toNat : Int)) := hF.1
                  exact step_value (.int .u8 (d : Int)) (w' := wx) (by simp only [fillIn, Act.put, List.setIfInBounds_toArray, List.set_cons_zero, List.set_cons_succ, f3]; go_simp) rfl (Below.refl _ _)
                · intro xs wx hG hF
                  have f4 : xs 4 = (.int .u8 (d : Int)) := hF.1
                  exact step_value (.int .u64 (d : Int)) (w' := wx) (by simp only [fillIn, Act.put, List.setIfInBounds_toArray, List.set_cons_zero, List.set_cons_succ, f4]; go_simp) rfl (Below.refl _ _)
                · intro xs wx hG hF
                  have f5 : xs 5 = (.int .u64 (d : Int)) := hF.1
                  exact step_value (.agg #[.int .u64 (d : Int), .int .u64 0, .int .u64 0, .int .u64 0, .int .u64 0, .int .u64 0, .int .u64 0, .int .u64 0]) (w' := wx) (by simp only [fillIn, Act.put, List.setIfInBounds_toArray, List.set_cons_zero, List.set_cons_succ, f5]; go_simp) rfl (Below.refl _ _)
                · exact fun xs wx hG hF => step_call2 48 (.tmp 65) (.tmp 71) #[48, 48] (.agg (halL p)) (.agg #[.int .u64 (d : Int), .int .u64 0, .int .u64 0, .int .u64 0, .int .u64 0, .int .u64 0, .int .u64 0, .int .u64 0]) rfl ((eval_new (i := 0) (by decide) rfl (by simp)).trans hF.1) ((eval_new (i := 6) (by decide) rfl (by simp)).trans hF.2.1) (by kernel_rfl) (hcon wx) (fun e w' h => ⟨_, h.1, rfl, h.2⟩)
                · intro xs wx hG hF
                  have f7 : xs 7 = (.tuple #[.agg (halL q), .bool m2]) := hF.1
                  exact step_value (.tuple #[.agg (halL q), .bool m2]) (w' := wx) (by simp only [fillIn, Act.put, List.setIfInBounds_toArray, List.set_cons_zero, List.set_cons_succ, f7]; go_simp) rfl (Below.refl _ _)
                · intro xs wx hG hF
                  have f8 : xs 8 = (.tuple #[.agg (halL q), .bool m2]) := hF.1
                  exact step_value (.agg (halL q)) (w' := wx) (by simp only [fillIn, Act.put, List.setIfInBounds_toArray, List.set_cons_zero, List.set_cons_succ, f8]; go_simp) rfl (Below.refl _ _)
                · intro xs wx hG hF
                  have f8 : xs 8 = (.tuple #[.agg (halL q), .bool m2]) := hF.1
                  exact step_value (.bool m2) (w' := wx) (by simp only [fillIn, Act.put, List.setIfInBounds_toArray, List.set_cons_zero, List.set_cons_succ, f8]; go_simp) rfl (Below.refl _ _)
                · exact fun xs wx hG _ => step_alloc (.cells hal0 48) (by go_simp) ⟨_, (by have := Blk.lt (hG.rows _ (List.mem_cons_of_mem _ (List.mem_cons_self ..))); omega), rfl, .inl (Blk.new _ _ _)⟩
                · intro xs wx hG hF
                  obtain ⟨g, hg, hx, hr | hr⟩ := hF.2.1
                  · exact step_store 48 (.tmp 11) (.tmp 73) rfl g (halL q) ((eval_new (i := 11) (by decide) rfl (by simp)).trans hx) ((eval_new (i := 9) (by decide) rfl (by simp)).trans hF.1) _ _ hr info_arr8 rfl (rowF_ones 8 (hw q)) ⟨_, (List.mem_cons_of_mem _ (List.mem_cons_self ..)), by simp <;> omega, rfl, rfl⟩ ⟨g, hg, hx, Blk.row hr _⟩
                  · exact step_store 48 (.tmp 11) (.tmp 73) rfl g (halL q) ((eval_new (i := 11) (by decide) rfl (by simp)).trans hx) ((eval_new (i := 9) (by decide) rfl (by simp)).trans hF.1) _ _ hr info_arr8 rfl (rowF_ones 8 (hw q)) ⟨_, (List.mem_cons_of_mem _ (List.mem_cons_self ..)), by simp <;> omega, rfl, rfl⟩ ⟨g, hg, hx, Blk.row hr _⟩
              intro xs wx hG hA hF
              obtain ⟨f0, f1, f2, f3, f4, f5, f6, f7, f8, f9, f10, f11, f12, _⟩ := hF
              have f0 : xs 0 = (.agg (halL p)) := f0
              have f1 : xs 1 = (.string t) := f1
              have f2 : xs 2 = (.int .i64 (k : Int)) := f2
              have f3 : xs 3 = (.int .u8 (t[k].toNat : Int)) := f3
              have f4 : xs 4 = (.int .u8 (d : Int)) := f4
              have f5 : xs 5 = (.int .u64 (d : Int)) := f5
              have f6 : xs 6 = (.agg #[.int .u64 (d : Int), .int .u64 0, .int .u64 0, .int .u64 0, .int .u64 0, .int .u64 0, .int .u64 0, .int .u64 0]) := f6
              have f7 : xs 7 = (.tuple #[.agg (halL q), .bool m2]) := f7
              have f8 : xs 8 = (.tuple #[.agg (halL q), .bool m2]) := f8
              have f9 : xs 9 = (.agg (halL q)) := f9
              have f10 : xs 10 = (.bool m2) := f10
              obtain ⟨g11, l11, x11, r11⟩ := f11
              obtain ⟨g12, l12, x12, r12⟩ := f12
              simp only [fillIn, Act.put, List.setIfInBounds_toArray, List.set_cons_zero, List.set_cons_succ, f0, f1, f2, f3, f4, f5, f6, f7, f8, f9, f10, x11, List.drop_succ_cons, List.drop_zero, List.length_cons, List.length_nil]
              obtain ⟨kk, kres, kW⟩ := hG
              have kD : Hid (Blk wx gd 48 (halL X)) := kk _ (List.mem_cons_self ..)
              have kR : Hid (Blk wx w.heap.size 25 wid0) := kres.elim id id
              have e1 : g11 = g12 := by
                have := x11.symm.trans x12
                simp at this
                exact this
              subst e1
              have kQ : Hid (Blk wx g11 48 (halL q)) := r12
              have lQ : gd ≠ g11 := by omega
              have lR2 : w.heap.size ≠ g11 := by omega
              clear kk kres x11 x12 r11 r12 f0 f1 f2 f3 f4 f5 f6 f7 f8 f9 f10
              by_cases hA : 10 * X + d < M256
              · obtain rfl : o = false := hmb.out.trans (decide_eq_false (by omega))
                have hp := hpe.out rfl
                obtain rfl : m2 = false := by rw [HM2.out, hp]; exact decide_eq_false (by omega)
                have hq : q = 10 * X + d := by rw [HQ.out, hp]; unfold addM; rw [Nat.mod_eq_of_lt (by omega)]; omega
                have HQQ := Lib.hid hq
                have HA := Lib.hid hA
                clear hq hp hA
                go_wp2_with (first | (refine wpList_load_row rfl 48 (.tmp 11) rfl g11 rfl 48 _ (0, 0) _ kQ.out under_arr8 rfl info_arr8 ?_) | (refine wpList_store_row rfl 48 (.tmp 7) (.tmp 80) rfl gd (halL q) rfl rfl 48 _ kD.out info_arr8 rfl (rowF_ones 8 (hw q)) ?_))
                refine ⟨⟨k + 1, by omega, by go_num, ?_, ?_, kR.out.rowOther nR _, below_row kW gw _⟩, by simp [intOf]; omega⟩
                · rw [hst.out]; exact HA.out
                · rw [hst.out, ← HQQ.out]; exact kD.out.row _
              · have hov : o = true ∨ (o = false ∧ m2 = true) := by
                  cases ho : o
                  · right
                    refine ⟨rfl, ?_⟩
                    have hp := hpe.out ho
                    rw [HM2.out, hp]
                    exact decide_eq_true (by omega)
                  · left; rfl
                have F := Lib.hid (parV_of s.data.toList false 0 21 (parW_over _ HL.out HGD.out (by
                  have h1 := hst.out
                  have h2 := hle.out
                  rw [← hb.out]
                  omega)))
                clear hA
                rcases hov with rfl | ⟨rfl, rfl⟩
                · go_wp2_with (refine wpList_store_row rfl 25 (.tmp 2) (.tmp 79) rfl w.heap.size wid0 rfl rfl 25 _ kR.out info_wide rfl (widF_ones false (fun _ => 0)) ?_)
                  exact gives_row_tmp rfl w.heap.size 25 (widL false 0) _ (.int .i64 21) rfl rfl ((kR.out.row _).of_eq widL0) under_wide rfl info_wide rfl ⟨ret_of F.out, below_row kW (Nat.le_refl _) _⟩
                · go_wp2_with (refine wpList_store_row rfl 25 (.tmp 2) (.tmp 79) rfl w.heap.size wid0 rfl rfl 25 _ kR.out info_wide rfl (widF_ones false (fun _ => 0)) ?_)
                  exact gives_row_tmp rfl w.heap.size 25 (widL false 0) _ (.int .i64 21) rfl rfl ((kR.out.row _).of_eq widL0) under_wide rfl info_wide rfl ⟨ret_of F.out, below_row kW (Nat.le_refl _) _⟩
            · obtain rfl : k = t.size := by omega
              rw [valL_all, hb.out] at HXX
              have F := Lib.hid (parV_of s.data.toList (sg neg X) X 0 (by rw [parW_ok _ HL.out HGD.out (by rw [HXX.out]; exact hx.out), HXX.out, HM.out]))
              clear hlt
              go_wp2_with (refine wpList_load_row rfl 48 (.tmp 7) rfl gd rfl 48 _ (0, 0) _ kD.out under_arr8 rfl info_arr8 ?_)
              refine (rjoin_any neg X _ hx.out).mono ?_
              rintro e w5 ⟨rfl, hb2⟩
              have kR := Lib.hid (kR.out.below hb2)
              have kW := kW.trans (hb2.mono kW.size)
              clear hb2
              go_wp2_with (refine wpList_store_row rfl 25 (.tmp 2) (.tmp 83) rfl w.heap.size (widL (sg neg X) X) rfl rfl 25 _ kR.out info_wide rfl (widF_ones _ (wd X)) ?_)
              exact gives_row_tmp rfl w.heap.size 25 (widL (sg neg X) X) _ (.int .i64 0) rfl rfl (kR.out.row _) under_wide rfl info_wide rfl ⟨ret_of F.out, below_row kW (by omega) _⟩
end Go.Proofs.Ytnpgikjahfhaoaa
