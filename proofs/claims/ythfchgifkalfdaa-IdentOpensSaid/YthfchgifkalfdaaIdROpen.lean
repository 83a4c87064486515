/-
  Contract of the reference's Open.
-/
import Derived.Test.YthfchgifkalfdaaIdOpen
import Derived.Lib.QuietBelow
namespace Go.Proofs.Ythfchgifkalfdaa.Id
open Go.RowKit

theorem two_data {s : ByteArray} {m : Nat} (hm : s.size = m + 3) (h1 : m + 1 < s.size) (h2 : m + 2 < s.size) : (opDg s).data.toList = [s[m + 1], s[m + 2]] := by
  unfold opDg
  rw [show s.size - 2 = m + 1 by omega, data_drop, drop_cons s (m + 1) h1, drop_cons s (m + 2) h2, List.drop_eq_nil_of_le (by rw [len_data]; omega)]
theorem two_dig {s : ByteArray} {m : Nat} (hm : s.size = m + 3) (h1 : m + 1 < s.size) (h2 : m + 2 < s.size) : allDig (opDg s) = (digU s[m + 1] && digU s[m + 2]) := by
  unfold allDig
  rw [two_data hm h1 h2]
  simp

set_option maxHeartbeats 1000000 in
set_option maxRecDepth 100000 in
theorem ropen_any (s : ByteArray) (w : World) (hs : s.size ≤ 1000) : Calls Try.prog 26 #[.string s] w (OpenEnd s w) := by
  by_cases h4 : s.size < 4
  · have E := Lib.hid (openE_short h4)
    have h4' : (s.size : Int) < 4 := by omega
    clear h4
    go_enter Try.func26, Try.ntmps26
    go_wp2_with fail
    go_ret2
    exact open_end E.out rfl (Below.refl _ _)
  · obtain ⟨m, hm⟩ : ∃ m, s.size = m + 3 := ⟨s.size - 3, by omega⟩
    have hml : m < s.size := by omega
    have hml1 : m + 1 < s.size := by omega
    have hml2 : m + 2 < s.size := by omega
    have hb := opBar_at hm hml
    have ht := two_dig hm hml1 hml2
    have i1 : opId s = s.extract 0 m := by unfold opId; rw [show s.size - 3 = m by omega]
    have i2 : opDg s = s.extract (m + 1) s.size := by unfold opDg; rw [show s.size - 2 = m + 1 by omega]
    have E5 := Lib.hid (fun h => openE_syn h4 h)
    have E16 := Lib.hid (fun h h' => openE_sum h4 h h')
    have E0 := Lib.hid (fun h h' => openE_ok h4 h h')
    have I1 := Lib.hid i1
    obtain ⟨dg, hdg⟩ : ∃ d, s.extract (m + 1) s.size = d := ⟨_, rfl⟩
    obtain ⟨id, hid⟩ : ∃ d, s.extract 0 m = d := ⟨_, rfl⟩
    rw [hb, ht] at E5 E16 E0
    rw [i2, hdg] at E16 E0
    rw [i1, hid] at E5 E16 E0
    rw [hid] at I1
    have h4' : ¬ (s.size : Int) < 4 := by omega
    have hsub : (s.size : Int) - 3 = (m : Int) := by omega
    have hsub2 : (s.size : Int) - 2 = (m : Int) + 1 := by omega
    have hsub1 : (s.size : Int) - 1 = (m : Int) + 2 := by omega
    have hm1 : (m : Int) ≤ (s.size : Int) := by omega
    have hmb : (m : Int) ≤ 1000 := by omega
    have hm2 : (m : Int) < (s.size : Int) := by omega
    have hm3 : (m : Int) + 1 ≤ (s.size : Int) := by omega
    have hm4 : (m : Int) + 1 < (s.size : Int) := by omega
    have hm5 : (m : Int) + 2 < (s.size : Int) := by omega
    have hw1 : IntKind.i64.wrap ((m : Int) + 1) = (m : Int) + 1 := IntWalk.i64_in _ (by omega)
    have hz : (0 : Int) ≤ (m : Int) + 1 := by omega
    have hw0 : IntKind.i64.wrap (m : Int) = (m : Int) := IntWalk.i64_in _ (by omega)
    obtain ⟨c, hc⟩ : ∃ c, s[m].toNat = c := ⟨_, rfl⟩
    obtain ⟨c1, hc1⟩ : ∃ c, s[m + 1].toNat = c := ⟨_, rfl⟩
    obtain ⟨c2, hc2⟩ : ∃ c, s[m + 2].toNat = c := ⟨_, rfl⟩
    unfold digU at E5 E16 E0
    rw [hc, hc1, hc2] at E5 E16 E0
    obtain ⟨B1, hB1⟩ : ∃ B, idOk id = B := ⟨_, rfl⟩
    obtain ⟨B2, hB2⟩ : ∃ B, digZ (c1 : Int) = B := ⟨_, rfl⟩
    obtain ⟨B3, hB3⟩ : ∃ B, digZ (c2 : Int) = B := ⟨_, rfl⟩
    have his : id.size ≤ 1000 := by
      rw [← hid, Lib.size_eq, Lib.extract_data, List.length_take]; omega
    have cI : Hid (∀ W, Calls Try.prog 15 #[.string id] W fun e w' => e = .returned (.bool B1) ∧ Below W.heap.size W w') := fun W => by rw [← hB1]; exact risId_any _ W his
    have cD : Hid (∀ W, Calls Try.prog 30 #[.int .u8 (c1 : Int)] W fun e w' => e = .returned (.bool B2) ∧ W = w') := fun W => by rw [← hB2]; exact rdigit_any _ W
    have cD2 : Hid (∀ W, Calls Try.prog 30 #[.int .u8 (c2 : Int)] W fun e w' => e = .returned (.bool B3) ∧ W = w') := fun W => by rw [← hB3]; exact rdigit_any _ W
    have cC := Lib.hid (fun w => rdigits_any id w (by omega))
    rw [hB1, hB2, hB3] at E5 E16 E0
    clear i1 i2 hb ht hB1 hB2 hB3 hm his
    go_enter Try.func26, Try.ntmps26
    by_cases h47 : c = 47
    · subst h47
      go_wp2_with fail
      refine (cD.out _).mono ?_; rintro e w2 ⟨rfl, rfl⟩
      cases B2
      · have E := Lib.hid (E5.out (by simp))
        clear E5 E16 E0
        go_wp2_with fail
        go_ret2
        exact open_end E.out rfl (Below.refl _ _)
      · go_wp2_with fail
        refine (cD2.out _).mono ?_; rintro e w2 ⟨rfl, rfl⟩
        cases B3
        · have E := Lib.hid (E5.out (by simp))
          clear E5 E16 E0
          go_wp2_with fail
          go_ret2
          exact open_end E.out rfl (Below.refl _ _)
        · go_wp2_with fail
          refine (cI.out _).mono ?_; rintro e w1 ⟨rfl, hb1⟩
          cases B1
          · have E := Lib.hid (E5.out (by simp))
            clear E5 E16 E0
            go_wp2_with fail
            go_ret2
            exact open_end E.out rfl hb1
          · by_cases hk : dg = ckS id
            · have E := Lib.hid (E0.out (by simp) hk)
              have hq : (dg.toList == (ckS id).toList) = true := by rw [toList_eq, decide_eq_true hk]
              clear E5 E16 E0 hk
              go_wp2_with fail
              refine wp_region_quiet_below (by kernel_rfl) (by kernel_rfl) ?_
              repeat (quiet_step (first | (go_at_call 39; exact Calls.regrown_of (cC.out _))))
              refine wpQuiet_nil ?_
              intro w3 hw3
              obtain ⟨⟨dq, osq⟩, hw3⟩ := hw3
              have hb3 : Below w.heap.size w w3 := by rw [hw3]; exact hb1.trans ((below_regrown w1 dq osq).mono hb1.size)
              clear hw3
              go_wp2_with fail
              go_ret2
              exact open_end E.out I1.out.symm hb3
            · have E := Lib.hid (E16.out (by simp) hk)
              have hq : (dg.toList == (ckS id).toList) = false := by rw [toList_eq, decide_eq_false hk]
              clear E5 E16 E0 hk
              go_wp2_with fail
              refine wp_region_quiet_below (by kernel_rfl) (by kernel_rfl) ?_
              repeat (quiet_step (first | (go_at_call 39; exact Calls.regrown_of (cC.out _))))
              refine wpQuiet_nil ?_
              intro w3 hw3
              obtain ⟨⟨dq, osq⟩, hw3⟩ := hw3
              have hb3 : Below w.heap.size w w3 := by rw [hw3]; exact hb1.trans ((below_regrown w1 dq osq).mono hb1.size)
              clear hw3
              go_wp2_with fail
              go_ret2
              exact open_end E.out rfl hb3
    · have h47' : ((c : Int) == 47) = false := beq_false_of_ne (by omega)
      have E := Lib.hid (E5.out (by rw [h47']; simp))
      have hne : ((c : Int) != 47) = true := bne_iff_ne.2 (by omega)
      clear E5 E16 E0 h47
      go_wp2_with fail
      go_ret2
      exact open_end E.out rfl (Below.refl _ _)
end Go.Proofs.Ythfchgifkalfdaa.Id
