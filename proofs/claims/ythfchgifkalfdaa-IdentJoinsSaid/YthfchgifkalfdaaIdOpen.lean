/-
  Contract of Open of the program.
-/
import Derived.Test.YthfchgifkalfdaaIdSeal
namespace Go.Proofs.Ythfchgifkalfdaa.Id
open Go.RowKit

def opId (s : ByteArray) : ByteArray := s.extract 0 (s.size - 3)
def opDg (s : ByteArray) : ByteArray := s.extract (s.size - 2) s.size
def opBar (s : ByteArray) : Bool := s.data.toList.getD (s.size - 3) 0 == 47
def openE (s : ByteArray) : Int := if s.size < 4 then 3 else if (idOk (opId s) && opBar s && allDig (opDg s)) = true then (if opDg s = ckS (opId s) then 0 else 16) else 5
def openS (s : ByteArray) : ByteArray := if openE s = 0 then opId s else ⟨#[]⟩
def OpenEnd (s : ByteArray) (w : World) (e : Ending) (w' : World) : Prop := e = .returned (.tuple #[.string (openS s), .int .i64 (openE s)]) ∧ Below w.heap.size w w'
theorem open_end {s : ByteArray} {w w' : World} {x : ByteArray} {n : Int} (h : openE s = n) (hx : x = if n = 0 then opId s else ⟨#[]⟩) (hb : Below w.heap.size w w') : OpenEnd s w (.returned (.tuple #[.string x, .int .i64 n])) w' := by
  unfold OpenEnd openS
  rw [h, hx]; exact ⟨rfl, hb⟩
theorem openE_short {s : ByteArray} (h : s.size < 4) : openE s = 3 := by unfold openE; rw [if_pos h]
theorem openE_syn {s : ByteArray} (h : ¬ s.size < 4) (h1 : (idOk (opId s) && opBar s && allDig (opDg s)) = false) : openE s = 5 := by
  unfold openE; rw [if_neg h, if_neg (by rw [h1]; simp)]
theorem openE_sum {s : ByteArray} (h : ¬ s.size < 4) (h1 : (idOk (opId s) && opBar s && allDig (opDg s)) = true) (h2 : ¬ opDg s = ckS (opId s)) : openE s = 16 := by
  unfold openE; rw [if_neg h, if_pos h1, if_neg h2]
theorem openE_ok {s : ByteArray} (h : ¬ s.size < 4) (h1 : (idOk (opId s) && opBar s && allDig (opDg s)) = true) (h2 : opDg s = ckS (opId s)) : openE s = 0 := by
  unfold openE; rw [if_neg h, if_pos h1, if_pos h2]
theorem opBar_at {s : ByteArray} {m : Nat} (hm : s.size = m + 3) (h : m < s.size) : opBar s = ((s[m].toNat : Int) == 47) := by
  unfold opBar
  rw [show s.size - 3 = m by omega, List.getD_eq_getElem?_getD, get_data s m h, Option.getD_some, Bool.eq_iff_iff, beq_iff_eq, beq_iff_eq]
  constructor
  · intro e; rw [e]; rfl
  · intro e; exact UInt8.toNat_inj.1 (Int.ofNat.inj e)
theorem toList_eq {a b : ByteArray} : (a.toList == b.toList) = decide (a = b) := by
  by_cases h : a = b
  · subst h; simp
  · rw [decide_eq_false h]
    exact beq_false_of_ne (fun e => h (by rw [← toB_data a, ← toB_data b, ← Lib.toList_data, ← Lib.toList_data, e]))

set_option maxHeartbeats 1000000 in
set_option maxRecDepth 100000 in
theorem open_any (s : ByteArray) (w : World) (hs : s.size ≤ 1000) : Calls Try.prog 25 #[.string s] w (OpenEnd s w) := by
  by_cases h4 : s.size < 4
  · have E := Lib.hid (openE_short h4)
    have h4' : (s.size : Int) < 4 := by omega
    clear h4
    go_enter Try.func25, Try.ntmps25
    go_wp2_with fail
    go_ret2
    exact open_end E.out rfl (Below.refl _ _)
  · obtain ⟨m, hm⟩ : ∃ m, s.size = m + 3 := ⟨s.size - 3, by omega⟩
    have hml : m < s.size := by omega
    have hb := opBar_at hm hml
    have i1 : opId s = s.extract 0 m := by unfold opId; rw [show s.size - 3 = m by omega]
    have i2 : opDg s = s.extract (m + 1) s.size := by unfold opDg; rw [show s.size - 2 = m + 1 by omega]
    have E5 := Lib.hid (fun h => openE_syn h4 h)
    have E16 := Lib.hid (fun h h' => openE_sum h4 h h')
    have E0 := Lib.hid (fun h h' => openE_ok h4 h h')
    have I1 := Lib.hid i1
    obtain ⟨dg, hdg⟩ : ∃ d, s.extract (m + 1) s.size = d := ⟨_, rfl⟩
    obtain ⟨id, hid⟩ : ∃ d, s.extract 0 m = d := ⟨_, rfl⟩
    rw [hb] at E5 E16 E0
    rw [i2, hdg] at E5 E16 E0
    rw [i1, hid] at E5 E16 E0
    rw [hid] at I1
    have h4' : ¬ (s.size : Int) < 4 := by omega
    have hsub : (s.size : Int) - 3 = (m : Int) := by omega
    have hm1 : (m : Int) ≤ (s.size : Int) := by omega
    have hmb : (m : Int) ≤ 1000 := by omega
    have hm2 : (m : Int) < (s.size : Int) := by omega
    have hm3 : (m : Int) + 1 ≤ (s.size : Int) := by omega
    obtain ⟨c, hc⟩ : ∃ c, s[m].toNat = c := ⟨_, rfl⟩
    rw [hc] at E5 E16 E0
    obtain ⟨B1, hB1⟩ : ∃ B, idOk id = B := ⟨_, rfl⟩
    obtain ⟨B2, hB2⟩ : ∃ B, allDig dg = B := ⟨_, rfl⟩
    have cI : Hid (∀ W, Calls Try.prog 14 #[.string id] W fun e w' => e = .returned (.bool B1) ∧ Below W.heap.size W w') := fun W => by rw [← hB1]; exact isId_any _ W
    have cD : Hid (∀ W, Calls Try.prog 40 #[.string dg] W fun e w' => e = .returned (.bool B2) ∧ Below W.heap.size W w') := fun W => by rw [← hB2]; exact areDigits_any _ W
    have cC := Lib.hid (fun h w => check_any id w (id_ascii h))
    rw [hB1, hB2] at E5 E16 E0
    rw [hB1] at cC
    clear i1 i2 hb hB1 hB2 hm
    go_enter Try.func25, Try.ntmps25
    go_wp2_with fail
    go_quiet (fail)
    go_wp2_with fail
    refine (cI.out _).mono ?_; rintro e w1 ⟨rfl, b1⟩
    have hb1 : Below w.heap.size w w1 := (below_drewN w nq).trans b1
    clear b1
    cases B1
    · have E := Lib.hid (E5.out (by simp))
      clear E5 E16 E0
      go_wp2_with fail
      go_ret2
      exact open_end E.out rfl hb1
    · by_cases h47 : c = 47
      · subst h47
        go_wp2_with fail
        refine (cD.out _).mono ?_; rintro e w2 ⟨rfl, b2⟩
        have hb2 : Below w.heap.size w w2 := hb1.trans (b2.mono hb1.size)
        clear b2 hb1
        cases B2
        · have E := Lib.hid (E5.out (by simp))
          clear E5 E16 E0
          go_wp2_with fail
          go_ret2
          exact open_end E.out rfl hb2
        · go_wp2_with fail
          refine (cC.out (by trivial) _).mono ?_; rintro e w3 ⟨rfl, b3⟩
          have hb3 : Below w.heap.size w w3 := hb2.trans (b3.mono hb2.size)
          clear b3 hb2
          by_cases hk : dg = ckS id
          · have E := Lib.hid (E0.out (by simp) hk)
            have hq : (dg.toList == (ckS id).toList) = true := by rw [toList_eq, decide_eq_true hk]
            clear E5 E16 E0 hk
            go_wp2_with fail
            go_ret2
            exact open_end E.out I1.out.symm hb3
          · have E := Lib.hid (E16.out (by simp) hk)
            have hq : (dg.toList == (ckS id).toList) = false := by rw [toList_eq, decide_eq_false hk]
            clear E5 E16 E0 hk
            go_wp2_with fail
            go_ret2
            exact open_end E.out rfl hb3
      · have h47' : ((c : Int) == 47) = false := beq_false_of_ne (by omega)
        have E := Lib.hid (E5.out (by rw [h47']; simp))
        have hne : ((c : Int) != 47) = true := bne_iff_ne.2 (by omega)
        clear E5 E16 E0 h47
        go_wp2_with fail
        go_ret2
        exact open_end E.out rfl hb1
end Go.Proofs.Ythfchgifkalfdaa.Id
