/-
  Contract of the reference's Parse.
-/
import Derived.Test.YthipgmdjjmgppaaParse
import Derived.Deep.CutRange
import Derived.Deep.DeepCutAuto
namespace Go.Proofs.Ythipgmdjjmgppaa
open Go.RowKit

theorem body_48 : body [48] = [48] := by decide
theorem natB_of (l : List UInt8) (h1 : ¬ l = []) (h2 : ¬ l.head? = some 48) (h3 : allDig l = true) : natB l = true := by
  unfold natB
  rw [h3]
  have : l.isEmpty = false := by simpa using h1
  rw [this]
  have : (l.head? != some 48) = true := by simpa using h2
  rw [this]; rfl

/-- How the reference ends behind its loop. -/
theorem ref_end (l : List UInt8) (h1 : ¬ l = []) (hb : ¬ body l = []) (hz : l = [48] ∨ ¬ (body l).head? = some 48) (hd : allDig (body l) = true) :
    (1099511627776 < valL (body l) → 0 = parQ l ∧ 9 = parE l) ∧
    (valL (body l) ≤ 1099511627776 → l.head? = some 45 → -(valL (body l) : Int) = parQ l ∧ 0 = parE l) ∧
    (valL (body l) ≤ 1099511627776 → ¬ l.head? = some 45 → (valL (body l) : Int) = parQ l ∧ 0 = parE l) := by
  by_cases h48 : l = [48]
  · subst h48
    rw [body_48]
    exact ⟨fun h => absurd h (by decide), fun _ h => absurd h (by decide), fun _ _ => by decide⟩
  · have hn := natB_of (body l) hb (by rcases hz with h | h; exact absurd h h48; exact h) hd
    have p := par_else l h1 h48
    refine ⟨fun h => ?_, fun h hm => ?_, fun h hm => ?_⟩
    · by_cases hm : l.head? = some 45
      · have q := p.2.1 hn hm
        rw [← q.1, ← q.2]; unfold valQ valE
        rw [if_neg (by omega), if_neg (by omega)]; exact ⟨rfl, rfl⟩
      · have q := p.2.2 hn hm
        rw [← q.1, ← q.2]; unfold valQ valE
        rw [if_neg (by omega), if_neg (by omega)]; exact ⟨rfl, rfl⟩
    · have q := p.2.1 hn hm
      rw [← q.1, ← q.2]; unfold valQ valE
      rw [if_pos h, if_pos h]; exact ⟨rfl, rfl⟩
    · have q := p.2.2 hn hm
      rw [← q.1, ← q.2]; unfold valQ valE
      rw [if_pos h, if_pos h]; exact ⟨rfl, rfl⟩
/-- What is no text of a number is refused. -/
theorem ref_bad (l : List UInt8) (h1 : ¬ l = []) (hb : natB (body l) = false) (h48 : ¬ l = [48]) : 0 = parQ l ∧ 5 = parE l := (par_else l h1 h48).1 hb

def RPInv (t : ByteArray) (n i : Value) : Prop := ∃ k : Nat, k ≤ t.size ∧ i = .int .i64 k ∧ n = .int .i64 ((min (valL (t.data.toList.take k)) 1125899906842624 : Nat) : Int) ∧ Hid (allDig (t.data.toList.take k) = true)

set_option maxHeartbeats 1600000 in
theorem refParse_any (s : ByteArray) (w : World) (hs : s.size ≤ 9223372036854775806) :
    Calls Try.prog 29 #[.string s] w (ParEnd s w) := by
  by_cases h0 : s.size = 0
  · have hn := nil_of_zero s h0
    have E := Lib.hid (show 0 = parQ s.data.toList ∧ 3 = parE s.data.toList by rw [← Lib.toList_data, hn]; exact ⟨rfl, rfl⟩)
    clear h0
    go_enter Try.func29, Try.ntmps29
    go_wp2_with fail
    go_ret2
    exact ⟨ret2 E.out.1 E.out.2, rfl⟩
  · have h0 : 0 < s.size := by omega
    have hn := ne_nil_of s h0
    have hne : s.toList.isEmpty = false := by simpa using hn
    have hl : ¬ s.data.toList = [] := by rw [← Lib.toList_data]; exact hn
    have HL := Lib.hid hl
    have B1 := Lib.hid (body_minus s h0)
    have B2 := Lib.hid (body_plain s h0)
    have hx : (s.extract 1 s.size).size ≤ 9223372036854775806 := by rw [ByteArray.size_extract]; omega
    clear hl
    by_cases hz : s[0].toNat = 45
    · have hm := Lib.hid (body_minus s h0 hz).2
      have hz' : ((s[0].toNat : Int) == 45) = true := by simp; omega
      have HZ := Lib.hid hz
      clear hz
      go_enter Try.func29, Try.ntmps29
      go_upto_if 12 with fail
      go_cut [4] (fun s4 wx => ∃ t : ByteArray, s4 = .string t ∧ Hid (t.data.toList = body s.data.toList) ∧ t.size ≤ 9223372036854775806 ∧ wx = w)
      case first =>
        go_wp2_with fail
        go_meet
        exact ⟨_, rfl, (B1.out HZ.out).1, hx, rfl⟩
      case rest =>
        obtain ⟨t, rfl, hb, ht, rfl⟩ := hcut
        have hnb := Lib.hid (show natB t.data.toList = false → ¬ s.data.toList = [48] → 0 = parQ s.data.toList ∧ 5 = parE s.data.toList from fun h h' => ref_bad _ HL.out (by rw [← hb.out]; exact h) h')
        by_cases ht0 : t.size = 0
        · have htn := nil_of_zero t ht0
          have E := Lib.hid (hnb.out (natB_zero t ht0) (fun e => by
            have := hb.out
            rw [e, body_48, ← Lib.toList_data, htn] at this
            exact absurd this (by decide)))
          clear ht0
          go_wp2_with fail
          go_ret2
          exact ⟨ret2 E.out.1 E.out.2, rfl⟩
        · have ht0 : 0 < t.size := by omega
          have htn := ne_nil_of t ht0
          have htne : t.toList.isEmpty = false := by simpa using htn
          by_cases hbad : t[0].toNat = 48 ∧ ¬ s.toList = [48]
          · have E := Lib.hid (hnb.out (natB_head t ht0 hbad.1) (by rw [← Lib.toList_data]; exact hbad.2))
            have x1 : ((t[0].toNat : Int) == 48) = true := by simp; omega
            have x2 : (s.toList == [48]) = false := by simpa using hbad.2
            clear hbad
            go_wp2_with fail
            go_ret2
            exact ⟨ret2 E.out.1 E.out.2, rfl⟩
          · have ok : s.data.toList = [48] ∨ ¬ (body s.data.toList).head? = some 48 := by
              by_cases h : s.toList = [48]
              · left; rw [← Lib.toList_data]; exact h
              · right
                rw [← hb.out, head_of t ht0]
                intro e
                injection e with e
                exact hbad ⟨by rw [e]; rfl, h⟩
            have x : ((t[0].toNat : Int) == 48) = false ∨ (((t[0].toNat : Int) == 48) = true ∧ (s.toList == [48]) = true) := by
              by_cases h : t[0].toNat = 48
              · right
                refine ⟨by simp; omega, ?_⟩
                by_cases h' : s.toList = [48]
                · simpa using h'
                · exact absurd ⟨h, h'⟩ hbad
              · left; simp; omega
            have OK := Lib.hid ok
            clear ok hbad
            rcases x with x | ⟨x, x'⟩
            all_goals
              go_wp2_with fail
              go_loop [5, 6] (fun n i => RPInv t n i) (fun _ i => t.size - (intOf i).toNat)
              case atStart => exact ⟨0, by omega, rfl, by simp [valL], by show _ = _; simp [allDig]⟩
              case round =>
                obtain ⟨k, hk, rfl, rfl, ha⟩ := hrel
                by_cases hlt : k < t.size
                · have HT := Lib.hid (take_snoc t k hlt)
                  have HN := Lib.hid (show t[k].toNat < 48 ∨ 57 < t[k].toNat → 0 = parQ s.data.toList ∧ 5 = parE s.data.toList from fun h => by
                    have hd := allDig_no t k hlt h
                    refine hnb.out ?_ ?_
                    · cases hq : natB t.data.toList
                      · rfl
                      · rw [natB_dig _ hq] at hd; exact absurd hd (by decide)
                    · intro e
                      rw [hb.out, e, body_48] at hd
                      exact absurd hd (by decide))
                  generalize hv : min (valL (t.data.toList.take k)) 1125899906842624 = v
                  have hv1 : v ≤ 1125899906842624 := by omega
                  have hsn := Lib.hid (show 48 ≤ t[k].toNat → min (valL (t.data.toList.take (k + 1))) 1125899906842624 = min (10 * v + (t[k].toNat - 48)) 1125899906842624 by
                    intro _
                    rw [take_snoc t k hlt, valL_snoc]; omega)
                  clear hv
                  go_wp2_with fail
                  · rename_i hq _
                    go_ret2
                    exact ⟨ret2 (HN.out (by omega)).1 (HN.out (by omega)).2, rfl⟩
                  · rename_i hq
                    refine ⟨⟨k + 1, by omega, by go_num, val_int ?_, ?_⟩, by simp [intOf]; omega⟩
                    · rw [hsn.out (by omega)]
                      split <;> omega
                    · show _ = _
                      rw [HT.out, allDig_snoc, ha.out]
                      unfold dig
                      simp; omega
                  · rename_i hq
                    go_ret2
                    exact ⟨ret2 (HN.out (by omega)).1 (HN.out (by omega)).2, rfl⟩
                · obtain rfl : k = t.size := by omega
                  have hT := Lib.hid (show t.data.toList.take t.size = body s.data.toList by rw [List.take_of_length_le (by rw [← Lib.size_eq]; omega)]; exact hb.out)
                  have E := Lib.hid (ref_end s.data.toList HL.out (by rw [← hb.out, ← Lib.toList_data]; exact htn) OK.out (by rw [← hT.out]; exact ha.out))
                  rw [hT.out]
                  by_cases hle : valL (body s.data.toList) ≤ 1099511627776
                  · have F := Lib.hid (E.out.2.1 hle hm.out)
                    have hmin := Lib.hid (show min (valL (body s.data.toList)) 1125899906842624 = valL (body s.data.toList) by omega)
                    rw [hmin.out]
                    go_wp2_with fail
                    go_ret2
                    exact ⟨ret2 F.out.1 F.out.2, rfl⟩
                  · have F := Lib.hid (E.out.1 (by omega))
                    have hg : 1099511627776 < min (valL (body s.data.toList)) 1125899906842624 := by omega
                    clear hle
                    generalize min (valL (body s.data.toList)) 1125899906842624 = v at hg ⊢
                    go_wp2_with fail
                    go_ret2
                    exact ⟨ret2 F.out.1 F.out.2, rfl⟩
    · have hm := Lib.hid (body_plain s h0 hz).2
      have hz' : ((s[0].toNat : Int) == 45) = false := by simp; omega
      have HZ := Lib.hid hz
      clear hz
      go_enter Try.func29, Try.ntmps29
      go_upto_if 12 with fail
      go_cut [4] (fun s4 wx => ∃ t : ByteArray, s4 = .string t ∧ Hid (t.data.toList = body s.data.toList) ∧ t.size ≤ 9223372036854775806 ∧ wx = w)
      case first =>
        go_wp2_with fail
        go_meet
        exact ⟨_, rfl, (B2.out HZ.out).1, hs, rfl⟩
      case rest =>
        obtain ⟨t, rfl, hb, ht, rfl⟩ := hcut
        have hnb := Lib.hid (show natB t.data.toList = false → ¬ s.data.toList = [48] → 0 = parQ s.data.toList ∧ 5 = parE s.data.toList from fun h h' => ref_bad _ HL.out (by rw [← hb.out]; exact h) h')
        by_cases ht0 : t.size = 0
        · have htn := nil_of_zero t ht0
          have E := Lib.hid (hnb.out (natB_zero t ht0) (fun e => by
            have := hb.out
            rw [e, body_48, ← Lib.toList_data, htn] at this
            exact absurd this (by decide)))
          clear ht0
          go_wp2_with fail
          go_ret2
          exact ⟨ret2 E.out.1 E.out.2, rfl⟩
        · have ht0 : 0 < t.size := by omega
          have htn := ne_nil_of t ht0
          have htne : t.toList.isEmpty = false := by simpa using htn
          by_cases hbad : t[0].toNat = 48 ∧ ¬ s.toList = [48]
          · have E := Lib.hid (hnb.out (natB_head t ht0 hbad.1) (by rw [← Lib.toList_data]; exact hbad.2))
            have x1 : ((t[0].toNat : Int) == 48) = true := by simp; omega
            have x2 : (s.toList == [48]) = false := by simpa using hbad.2
            clear hbad
            go_wp2_with fail
            go_ret2
            exact ⟨ret2 E.out.1 E.out.2, rfl⟩
          · have ok : s.data.toList = [48] ∨ ¬ (body s.data.toList).head? = some 48 := by
              by_cases h : s.toList = [48]
              · left; rw [← Lib.toList_data]; exact h
              · right
                rw [← hb.out, head_of t ht0]
                intro e
                injection e with e
                exact hbad ⟨by rw [e]; rfl, h⟩
            have x : ((t[0].toNat : Int) == 48) = false ∨ (((t[0].toNat : Int) == 48) = true ∧ (s.toList == [48]) = true) := by
              by_cases h : t[0].toNat = 48
              · right
                refine ⟨by simp; omega, ?_⟩
                by_cases h' : s.toList = [48]
                · simpa using h'
                · exact absurd ⟨h, h'⟩ hbad
              · left; simp; omega
            have OK := Lib.hid ok
            clear ok hbad
            rcases x with x | ⟨x, x'⟩
            all_goals
              go_wp2_with fail
              go_loop [5, 6] (fun n i => RPInv t n i) (fun _ i => t.size - (intOf i).toNat)
              case atStart => exact ⟨0, by omega, rfl, by simp [valL], by show _ = _; simp [allDig]⟩
              case round =>
                obtain ⟨k, hk, rfl, rfl, ha⟩ := hrel
                by_cases hlt : k < t.size
                · have HT := Lib.hid (take_snoc t k hlt)
                  have HN := Lib.hid (show t[k].toNat < 48 ∨ 57 < t[k].toNat → 0 = parQ s.data.toList ∧ 5 = parE s.data.toList from fun h => by
                    have hd := allDig_no t k hlt h
                    refine hnb.out ?_ ?_
                    · cases hq : natB t.data.toList
                      · rfl
                      · rw [natB_dig _ hq] at hd; exact absurd hd (by decide)
                    · intro e
                      rw [hb.out, e, body_48] at hd
                      exact absurd hd (by decide))
                  generalize hv : min (valL (t.data.toList.take k)) 1125899906842624 = v
                  have hv1 : v ≤ 1125899906842624 := by omega
                  have hsn := Lib.hid (show 48 ≤ t[k].toNat → min (valL (t.data.toList.take (k + 1))) 1125899906842624 = min (10 * v + (t[k].toNat - 48)) 1125899906842624 by
                    intro _
                    rw [take_snoc t k hlt, valL_snoc]; omega)
                  clear hv
                  go_wp2_with fail
                  · rename_i hq _
                    go_ret2
                    exact ⟨ret2 (HN.out (by omega)).1 (HN.out (by omega)).2, rfl⟩
                  · rename_i hq
                    refine ⟨⟨k + 1, by omega, by go_num, val_int ?_, ?_⟩, by simp [intOf]; omega⟩
                    · rw [hsn.out (by omega)]
                      split <;> omega
                    · show _ = _
                      rw [HT.out, allDig_snoc, ha.out]
                      unfold dig
                      simp; omega
                  · rename_i hq
                    go_ret2
                    exact ⟨ret2 (HN.out (by omega)).1 (HN.out (by omega)).2, rfl⟩
                · obtain rfl : k = t.size := by omega
                  have hT := Lib.hid (show t.data.toList.take t.size = body s.data.toList by rw [List.take_of_length_le (by rw [← Lib.size_eq]; omega)]; exact hb.out)
                  have E := Lib.hid (ref_end s.data.toList HL.out (by rw [← hb.out, ← Lib.toList_data]; exact htn) OK.out (by rw [← hT.out]; exact ha.out))
                  rw [hT.out]
                  by_cases hle : valL (body s.data.toList) ≤ 1099511627776
                  · have F := Lib.hid (E.out.2.2 hle hm.out)
                    have hmin := Lib.hid (show min (valL (body s.data.toList)) 1125899906842624 = valL (body s.data.toList) by omega)
                    rw [hmin.out]
                    go_wp2_with fail
                    go_ret2
                    exact ⟨ret2 F.out.1 F.out.2, rfl⟩
                  · have F := Lib.hid (E.out.1 (by omega))
                    have hg : 1099511627776 < min (valL (body s.data.toList)) 1125899906842624 := by omega
                    clear hle
                    generalize min (valL (body s.data.toList)) 1125899906842624 = v at hg ⊢
                    go_wp2_with fail
                    go_ret2
                    exact ⟨ret2 F.out.1 F.out.2, rfl⟩
end Go.Proofs.Ythipgmdjjmgppaa
