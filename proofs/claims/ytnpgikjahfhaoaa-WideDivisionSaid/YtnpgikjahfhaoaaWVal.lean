/-
  The program's decimal and value.
-/
import Derived.Test.YtnpgikjahfhaoaaWJoin
import Derived.Test.YtnpgikjahfhaoaaWJoin2
import Derived.Test.YtnpgikjahfhaoaaWOps1
import Derived.Test.YtnpgikjahfhaoaaWValM
namespace Go.Proofs.Ytnpgikjahfhaoaa
open Go.RowKit Go.Proofs.WM Go.Proofs.WD

theorem decB_no (l : List UInt8) (h : allDig l = false) : decB l = false := by unfold decB; rw [h]; rfl
theorem decB_yes (l : List UInt8) (h : allDig l = true) : decB l = (l == [48] || (!l.isEmpty && l.head? != some 48)) := by unfold decB; rw [h]; rfl

set_option maxHeartbeats 1000000 in
theorem decimal_any (s : ByteArray) (w : World) (hs : s.size ≤ 9223372036854775806) :
    Calls Try.prog 56 #[.string s] w fun e w' => e = .returned (.bool (decB s.data.toList)) ∧ w = w' := by
  by_cases h0 : s.size = 0
  · have hn := nil_of_zero s h0
    have E := Lib.hid (show allDig s.data.toList = true → decB s.data.toList = false from fun h => by rw [decB_yes _ h, ← Lib.toList_data, hn]; rfl)
    have H0 := Lib.hid h0
    go_enter Try.func56, Try.ntmps56
    go_wp2_with fail
    go_loop [6] (fun i => ∃ k : Nat, k ≤ s.size ∧ i = .int .i64 k ∧ Hid (allDig (s.data.toList.take k) = true)) (fun i => s.size - (intOf i).toNat)
    case atStart => exact ⟨0, by omega, rfl, by show _ = _; simp [allDig]⟩
    case round =>
      obtain ⟨k, hk, rfl, ha⟩ := hrel
      by_cases hlt : k < s.size
      · exact absurd hlt (by omega)
      · obtain rfl : k = s.size := by omega
        have E2 := Lib.hid (E.out (by rw [List.take_of_length_le (by rw [← Lib.size_eq]; omega)] at ha; exact ha.out))
        clear ha
        go_wp2_with fail
        go_ret
        exact ⟨ret_bool E2.out.symm, rfl⟩
  · have h0 : 0 < s.size := by omega
    have hn := ne_nil_of s h0
    have hne : s.toList.isEmpty = false := by simpa using hn
    by_cases h48 : s.toList = [48]
    · have E := Lib.hid (show allDig s.data.toList = true → decB s.data.toList = true from fun h => by rw [decB_yes _ h, ← Lib.toList_data, h48]; rfl)
      have h48' : (s.toList == [48]) = true := by simpa using h48
      clear h48
      go_enter Try.func56, Try.ntmps56
      go_wp2_with fail
      go_loop [6] (fun i => ∃ k : Nat, k ≤ s.size ∧ i = .int .i64 k ∧ Hid (allDig (s.data.toList.take k) = true)) (fun i => s.size - (intOf i).toNat)
      case atStart => exact ⟨0, by omega, rfl, by show _ = _; simp [allDig]⟩
      case round =>
        obtain ⟨k, hk, rfl, ha⟩ := hrel
        by_cases hlt : k < s.size
        · have HT := Lib.hid (take_snoc s k hlt)
          have HNO := Lib.hid (fun h => decB_no s.data.toList (allDig_no s k hlt h))
          go_wp2_with fail
          · rename_i ht _
            go_ret
            exact ⟨ret_bool (HNO.out (by omega)).symm, rfl⟩
          · rename_i ht
            refine ⟨⟨k + 1, by omega, by go_num, ?_⟩, by simp [intOf]; omega⟩
            show _ = _
            rw [HT.out, allDig_snoc, ha.out]
            unfold dig
            simp; omega
          · rename_i ht
            go_ret
            exact ⟨ret_bool (HNO.out (by omega)).symm, rfl⟩
        · obtain rfl : k = s.size := by omega
          have E2 := Lib.hid (E.out (by rw [List.take_of_length_le (by rw [← Lib.size_eq]; omega)] at ha; exact ha.out))
          clear ha
          go_wp2_with fail
          go_ret
          exact ⟨ret_bool E2.out.symm, rfl⟩
    · have h48' : (s.toList == [48]) = false := by simpa using h48
      by_cases hz : s[0].toNat = 48
      · have E := Lib.hid (show allDig s.data.toList = true → decB s.data.toList = false from fun h => by
          rw [decB_yes _ h, head_of s h0, ← Lib.toList_data, h48', UInt8.toNat_inj.1 (show s[0].toNat = (48 : UInt8).toNat from hz)]; simp)
        have hz' : ((s[0].toNat : Int) == 48) = true := by simp; omega
        have hz'' : ((s[0].toNat : Int) != 48) = false := by rw [bne, hz']; rfl
        have HZ := Lib.hid hz
        clear hz h48
        go_enter Try.func56, Try.ntmps56
        go_wp2_with fail
        go_loop [6] (fun i => ∃ k : Nat, k ≤ s.size ∧ i = .int .i64 k ∧ Hid (allDig (s.data.toList.take k) = true)) (fun i => s.size - (intOf i).toNat)
        case atStart => exact ⟨0, by omega, rfl, by show _ = _; simp [allDig]⟩
        case round =>
          obtain ⟨k, hk, rfl, ha⟩ := hrel
          by_cases hlt : k < s.size
          · have HT := Lib.hid (take_snoc s k hlt)
            have HNO := Lib.hid (fun h => decB_no s.data.toList (allDig_no s k hlt h))
            go_wp2_with fail
            · rename_i ht _
              go_ret
              exact ⟨ret_bool (HNO.out (by omega)).symm, rfl⟩
            · rename_i ht
              refine ⟨⟨k + 1, by omega, by go_num, ?_⟩, by simp [intOf]; omega⟩
              show _ = _
              rw [HT.out, allDig_snoc, ha.out]
              unfold dig
              simp; omega
            · rename_i ht
              go_ret
              exact ⟨ret_bool (HNO.out (by omega)).symm, rfl⟩
          · obtain rfl : k = s.size := by omega
            have E2 := Lib.hid (E.out (by rw [List.take_of_length_le (by rw [← Lib.size_eq]; omega)] at ha; exact ha.out))
            clear ha
            go_wp2_with fail
            go_ret
            exact ⟨ret_bool E2.out.symm, rfl⟩
      · have E := Lib.hid (show allDig s.data.toList = true → decB s.data.toList = true from fun h => by
          rw [decB_yes _ h, head_of s h0, ← Lib.toList_data, hne]
          have : ¬ s[0] = 48 := fun e => hz (by rw [e]; rfl)
          simp [this])
        have hz' : ((s[0].toNat : Int) == 48) = false := by simp; omega
        have hz'' : ((s[0].toNat : Int) != 48) = true := by rw [bne, hz']; rfl
        have HZ := Lib.hid hz
        clear hz h48
        go_enter Try.func56, Try.ntmps56
        go_wp2_with fail
        go_loop [6] (fun i => ∃ k : Nat, k ≤ s.size ∧ i = .int .i64 k ∧ Hid (allDig (s.data.toList.take k) = true)) (fun i => s.size - (intOf i).toNat)
        case atStart => exact ⟨0, by omega, rfl, by show _ = _; simp [allDig]⟩
        case round =>
          obtain ⟨k, hk, rfl, ha⟩ := hrel
          by_cases hlt : k < s.size
          · have HT := Lib.hid (take_snoc s k hlt)
            have HNO := Lib.hid (fun h => decB_no s.data.toList (allDig_no s k hlt h))
            go_wp2_with fail
            · rename_i ht _
              go_ret
              exact ⟨ret_bool (HNO.out (by omega)).symm, rfl⟩
            · rename_i ht
              refine ⟨⟨k + 1, by omega, by go_num, ?_⟩, by simp [intOf]; omega⟩
              show _ = _
              rw [HT.out, allDig_snoc, ha.out]
              unfold dig
              simp; omega
            · rename_i ht
              go_ret
              exact ⟨ret_bool (HNO.out (by omega)).symm, rfl⟩
          · obtain rfl : k = s.size := by omega
            have E2 := Lib.hid (E.out (by rw [List.take_of_length_le (by rw [← Lib.size_eq]; omega)] at ha; exact ha.out))
            clear ha
            go_wp2_with fail
            go_ret
            exact ⟨ret_bool E2.out.symm, rfl⟩

def ValV (v : Nat) : Value := if v < M256 then .tuple #[.agg (magL v), .bool false] else .tuple #[.agg (magL 0), .bool true]
theorem valV_ok {v : Nat} (h : v < M256) : ValV v = .tuple #[.agg (magL v), .bool false] := if_pos h
theorem valV_over {v : Nat} (h : M256 ≤ v) : ValV v = .tuple #[.agg (magL 0), .bool true] := if_neg (by omega)

set_option maxHeartbeats 1000000 in
theorem value_any (s : ByteArray) (w : World) (hs : s.size ≤ 9223372036854775806) (hd : allDig s.data.toList = true) :
    Calls Try.prog 57 #[.string s] w (Gives (ValV (valL s.data.toList)) w) := by
  have HD := Lib.hid hd
  clear hd
  go_enter Try.func57, Try.ntmps57
  go_wp2_with fail
  go_loopw [11] (fun i wr => ∃ k : Nat, k ≤ s.size ∧ i = .int .i64 k ∧ Hid (valL (s.data.toList.take k) < M256) ∧ Hid (Blk wr w.heap.size 45 mag0) ∧ Hid (Blk wr (w.heap.size + 1) 69 (halL (valL (s.data.toList.take k)))) ∧ Below w.heap.size w wr) (fun i _ => s.size - (intOf i).toNat)
  case atStart => exact ⟨0, by omega, rfl, m_pos, (Blk.new _ _ _).old _, (Blk.newAt (by simp) _ _).of_eq halL0, below2 _ _ _⟩
  case round =>
    obtain ⟨k, hk, rfl, hx, kR, kH, kW⟩ := hrel
    generalize hX : valL (s.data.toList.take k) = X at *
    have HX := Lib.hid hX
    clear hX
    by_cases hlt : k < s.size
    · have hb := dig_at s k hlt HD.out
      have b1 : 48 ≤ s[k].toNat := hb.1
      have b2 : s[k].toNat ≤ 57 := hb.2
      have hst := Lib.hid (show valL (s.data.toList.take (k + 1)) = 10 * X + (s[k].toNat - 48) by rw [valL_step s k hlt, HX.out])
      have hle := Lib.hid (valL_take s.data.toList (k + 1))
      obtain ⟨d, hd⟩ : ∃ d, d = s[k].toNat - 48 := ⟨_, rfl⟩
      have hd10 : d < 10 := by omega
      have hdd : (s[k].toNat : Int) - 48 = (d : Int) := by omega
      rw [← hd] at hst
      clear hd hb
      go_wp2_with fail
      go_loopw [6, 19] (fun c i wr => ∃ j : Nat, j ≤ 8 ∧ i = .int .i64 j ∧ c = .int .u64 ((kc X d j : Nat) : Int) ∧ Hid (Blk wr w.heap.size 45 mag0) ∧ Hid (Blk wr (w.heap.size + 1) 69 (rowF 8 (mix j (hw (10 * X + d)) (hw X)))) ∧ Below w.heap.size w wr) (fun _ i _ => 8 - (intOf i).toNat)
      case atStart => exact ⟨0, by omega, rfl, by rw [kc_zero], kR.out, by rw [mix_zero]; exact kH.out, kW⟩
      case round =>
        clear kR kH kW
        obtain ⟨j, hj, rfl, rfl, kR, kH, kW⟩ := hrel
        by_cases hj8 : j < 8
        · have a0 : wr.cell? ⟨w.heap.size + 1, j, none⟩ = some (.int .u64 ((hw X j : Nat) : Int)) := by rw [kH.out.at_ hj8, mix_at]
          have f0 := kH.out.frozen j
          have hxl := hw_lt X j
          have hcl := kc_lt X d j hd10
          have q1 := hw_ten X d j
          have q2 := kc_succ X d j
          have HM := Lib.hid (mix_put j (hw (10 * X + d)) (hw X))
          generalize hw X j = x at *
          generalize kc X d j = c at *
          obtain ⟨P, hP⟩ : ∃ P, P = 10 * x + c := ⟨_, rfl⟩
          rw [← hP] at q1 q2
          have Q1 := Lib.hid q1
          have Q2 := Lib.hid q2
          have o1 : IntKind.u64.wrap (10 * (x : Int)) = 10 * (x : Int) := wrap_in _ (by omega) (by omega)
          have o2 : IntKind.u64.wrap (10 * (x : Int) + (c : Int)) = (P : Int) := by rw [wrap_in _ (by omega) (by omega)]; omega
          have o3 : bits .and .u64 (P : Int) 4294967295 = ((P % 4294967296 : Nat) : Int) := by rw [and_low32 _ (by omega) (by omega)]; omega
          clear hP q1 q2
          go_wp2_with fail
          refine ⟨⟨j + 1, by omega, by go_num, val_u64 (by rw [Q2.out]; omega), kR.out.other (by simp) _, (kH.out.set_ _ _).of_eq ?_, kW.setCell (by simp) _⟩, by simp [intOf]; omega⟩
          have e : Value.int .u64 ((P : Int) % 4294967296) = .int .u64 ((hw (10 * X + d) j : Nat) : Int) := by rw [Q1.out]; exact val_u64 (by omega)
          rw [e, rowF_set, HM.out]
        · obtain rfl : j = 8 := by omega
          have hct := kc_top X d hx.out
          generalize kc X d 8 = c at *
          rw [rowF_full] at kH
          by_cases ht : 10 * X + d < M256
          · obtain rfl : c = 0 := hct.2 ht
            have HT := Lib.hid ht
            clear hct ht hj8
            go_wp2_with fail
            refine ⟨⟨k + 1, by omega, by go_num, ?_, kR.out, ?_, kW⟩, by simp [intOf]; omega⟩
            · rw [hst.out]; exact HT.out
            · rw [hst.out]; exact kH.out
          · have hc0 : ¬ c = 0 := fun h => ht (hct.1 h)
            have hc1 : ((c : Int) == 0) = false := by simp; omega
            have hc2 : ((c : Int) != 0) = true := by rw [bne, hc1]; rfl
            have HVV := Lib.hid (show .tuple #[.agg (magL 0), .bool true] = ValV (valL s.data.toList) from (valV_over (by
              have h1 := hst.out
              have h2 := hle.out
              omega)).symm)
            clear hct ht hj8
            go_wp2_with (refine wpList_store_row rfl 45 (.tmp 2) (.tmp 37) rfl w.heap.size mag0 rfl rfl 45 _ kR.out info_mag rfl (rowF_ones 4 (fun _ => 0)) ?_)
            exact gives_row_tmp rfl w.heap.size 45 (magL 0) _ (.bool true) rfl rfl ((kR.out.row _).of_eq magL0) under_mag rfl info_mag rfl ⟨ret_of HVV.out, below_row kW (Nat.le_refl _) _⟩
    · obtain rfl : k = s.size := by omega
      rw [valL_all] at HX
      have HVV := Lib.hid (show .tuple #[.agg (magL X), .bool false] = ValV (valL s.data.toList) by rw [← valV_ok hx.out, HX.out])
      clear hlt
      go_wp2_with (refine wpList_load_row rfl 69 (.tmp 4) rfl (w.heap.size + 1) rfl 69 _ (0, 0) _ kH.out under_hal rfl info_hal ?_)
      refine (pjoin_any X _).mono ?_
      rintro e w2 ⟨rfl, hb⟩
      have kR := Lib.hid (kR.out.below hb)
      have kW := kW.trans (hb.mono kW.size)
      clear hb
      go_wp2_with (refine wpList_store_row rfl 45 (.tmp 2) (.tmp 40) rfl w.heap.size (magL X) rfl rfl 45 _ kR.out info_mag rfl (rowF_ones 4 (wd X)) ?_)
      exact gives_row_tmp rfl w.heap.size 45 (magL X) _ (.bool false) rfl rfl (kR.out.row _) under_mag rfl info_mag rfl ⟨ret_of HVV.out, below_row kW (Nat.le_refl _) _⟩
end Go.Proofs.Ytnpgikjahfhaoaa
