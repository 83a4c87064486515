/-
  Contracts of IsId of the program, and of the reference's parts, IsId, Split.
-/
import Derived.Test.YthfchgifkalfdaaIdSplit
namespace Go.Proofs.Ythfchgifkalfdaa.Id
open Go.RowKit

/-- A slice of strings in memory. -/
def Strs (w : World) (v : Value) (L : List ByteArray) : Prop :=
  ∃ p c, v = .slice p L.length c ∧ (0 < L.length → ∃ b off, p = some ⟨b, off, none⟩ ∧ b < w.heap.size ∧ ∀ j, j < L.length → w.cell? ⟨b, off + j, none⟩ = some (.string (L.getD j ⟨#[]⟩)))
theorem Strs.below {w w' : World} {v : Value} {L : List ByteArray} (h : Strs w v L) (hb : Below w.heap.size w w') : Strs w' v L := by
  obtain ⟨p, c, hv, hc⟩ := h
  refine ⟨p, c, hv, fun h0 => ?_⟩
  obtain ⟨b, off, hp, hl, hc⟩ := hc h0
  exact ⟨b, off, hp, Nat.lt_of_lt_of_le hl hb.size, fun j hj => (hb.cell hl).trans (hc j hj)⟩
theorem own_strs {w : World} {B : Nat} {v : Value} {L : List ByteArray} (h : w.ownsRow B 9 1 v L.length (L.map Value.string)) : Strs w v L := by
  have h' := h
  rcases h.2 with ⟨rfl, h0⟩ | ⟨g, cap, cur, rfl, hb, hg, hrest⟩
  · exact ⟨none, 0, by rw [h0], fun h1 => by omega⟩
  · refine ⟨_, _, rfl, fun h1 => ⟨g, 0, rfl, (Array.getElem?_eq_some_iff.1 hg).1, fun j hj => ?_⟩⟩
    rw [Nat.zero_add, h'.cellAt j (by omega), List.getElem?_map, List.getElem?_eq_getElem hj]
    simp [List.getD, hj]

set_option maxHeartbeats 1000000 in
set_option maxRecDepth 100000 in
theorem isId_any (s : ByteArray) (w : World) : Calls Try.prog 14 #[.string s] w fun e w' => e = .returned (.bool (idOk s)) ∧ Below w.heap.size w w' := by
  obtain ⟨B, hB⟩ : ∃ B, idOk s = B := ⟨_, rfl⟩
  have hE : splE s = if B = true then 0 else 6 := by unfold splE; rw [hB]
  rw [hB]
  have c := split_any s
  go_enter Try.func14, Try.ntmps14
  cases B
  · rw [hE] at c
    go_wp2_with fail
    refine (c _).mono ?_; rintro e w1 ⟨v, rfl, -, b1⟩
    go_wp2_with fail
    go_ret
    exact ⟨rfl, b1⟩
  · rw [hE] at c
    go_wp2_with fail
    refine (c _).mono ?_; rintro e w1 ⟨v, rfl, -, b1⟩
    go_wp2_with fail
    go_ret
    exact ⟨rfl, b1⟩

/-- What the loop of parts keeps. -/
def PartInv (s : ByteArray) (w : World) (l bg i : Value) (wr : World) : Prop :=
  ∃ (pos b : Nat) (done : List ByteArray), bg = .int .i64 b ∧ i = .int .i64 pos ∧ wr.ownsRow w.heap.size 9 1 l done.length (done.map Value.string) ∧ Below w.heap.size w wr ∧ done.length ≤ pos ∧ Hid (CutInv s done b pos)
theorem part_next {s : ByteArray} {w W1 w1 : World} {o : Obj} {v v' : Value} {pos b : Nat} {done : List ByteArray}
    (HS : Hid (CutInv s (done ++ [s.extract b pos]) (pos + 1) (pos + 1) ∧ ∃ rest, cuts s = done ++ s.extract b pos :: rest)) (h8 : done.length ≤ pos)
    (hown : W1.ownsRow w.heap.size 9 1 v done.length (done.map Value.string)) (hbw : Below w.heap.size w W1)
    (hown' : w1.ownsRow w.heap.size 9 1 v' (done.length + 1) (done.map Value.string ++ [.string (s.extract b pos)])) (hgrow : (W1.alloc o).grownBy w1 v.ownBlock) :
    PartInv s w v' (.int .i64 ((pos : Int) + 1)) (.int .i64 ((pos : Int) + 1)) w1 ∧ s.size + 1 - (intOf (.int .i64 ((pos : Int) + 1))).toNat < s.size + 1 - (intOf (.int .i64 pos)).toNat := by
  refine ⟨⟨pos + 1, pos + 1, done ++ [s.extract b pos], rfl, rfl, ?_, ?_, by simpa using h8, HS.out.1⟩, ?_⟩
  · rw [List.length_append, List.map_append]; exact hown'
  · exact (hbw.alloc hbw.size _).grown hgrow (by have := hbw.size; simp; omega) (fun j hj => (hown.lt j hj).1)
  · have := HS.out.1.2.1
    simp [intOf]; omega

/-- A list of names of the call's own. -/
def OwnEnd (w : World) (L : List ByteArray) (e : Ending) (w' : World) : Prop :=
  ∃ v, e = .returned v ∧ w'.ownsRow w.heap.size 9 1 v L.length (L.map Value.string) ∧ Below w.heap.size w w'

set_option maxHeartbeats 2000000 in
set_option maxRecDepth 100000 in
theorem parts_any (s : ByteArray) (w : World) (hs : s.size ≤ 1000) : Calls Try.prog 31 #[.string s] w (OwnEnd w (cuts s)) := by
  have h1' : (s.size : Int) ≤ 1000 := by omega
  obtain ⟨i0, hi, hz0, hz1, hz2⟩ := info_parts info_str
  go_enter Try.func31, Try.ntmps31
  go_wp2_with fail
  go_loopw [3, 4, 5] (fun l bg i wr => PartInv s w l bg i wr) (fun _ _ i _ => s.size + 1 - (intOf i).toNat)
  case atStart => exact ⟨0, 0, [], rfl, rfl, World.ownsRow_nil _ _ _ _, Below.refl _ _, by simp, CutInv.start s⟩
  case round =>
    obtain ⟨pos, b, done, rfl, rfl, hown, hbw, hdp, hcut⟩ := hrel
    have hbp : b ≤ pos := hcut.out.1
    have hps : pos ≤ s.size + 1 := hcut.out.2.1
    by_cases hlt : pos ≤ s.size
    · by_cases hd : ∀ hj : pos < s.size, s[pos] = 46
      · have HS := Lib.hid (hcut.out.dot (by omega) hd)
        by_cases hend : pos = s.size
        · subst hend
          clear hcut hd
          go_wp2_with (at_builtin; refine wpList_append_own _ rfl _ _ 24 rfl w.heap.size 9 i0 (.string ⟨#[]⟩) 1 16 Try.underlying24 hi hz0 hz1 hz2 rfl (by decide) _ _ _ rfl (hown.alloc _) ⟨wr.heap.size, 0, none⟩ 1 1 [.string (s.extract b s.size)] rfl rfl ?c1 ?c2 ?c3 ?c4 ?c5 ?_)
          case c1 =>
            intro j u hj
            match j, hj with
            | 0, hj => simp at hj; subst hj; simp [Addr.add]
          case c2 => intro u hu; simp at hu; subst hu; rfl
          case c3 => unfold maxLen; omega
          case c4 => omega
          case c5 => have := hbw.size; simp; omega
          intro v' w1 hown' hgrow _
          go_wp2_with fail
          exact part_next HS hdp hown hbw hown' hgrow
        · have hl : pos < s.size := by omega
          have hne : ((pos : Int) == (s.size : Int)) = false := by simp; omega
          have h46 : s[pos] = 46 := hd hl
          have hc46 : (s[pos].toNat : Int) = 46 := by rw [h46]; rfl
          clear hcut hd h46 hend
          go_wp2_with (at_builtin; refine wpList_append_own _ rfl _ _ 24 rfl w.heap.size 9 i0 (.string ⟨#[]⟩) 1 16 Try.underlying24 hi hz0 hz1 hz2 rfl (by decide) _ _ _ rfl (hown.alloc _) ⟨wr.heap.size, 0, none⟩ 1 1 [.string (s.extract b pos)] rfl rfl ?c1 ?c2 ?c3 ?c4 ?c5 ?_)
          case c1 =>
            intro j u hj
            match j, hj with
            | 0, hj => simp at hj; subst hj; simp [Addr.add]
          case c2 => intro u hu; simp at hu; subst hu; rfl
          case c3 => unfold maxLen; omega
          case c4 => omega
          case c5 => have := hbw.size; simp; omega
          intro v' w1 hown' hgrow _
          go_wp2_with fail
          exact part_next HS hdp hown hbw hown' hgrow
      · have hl : pos < s.size := by
          rcases Nat.lt_or_ge pos s.size with h | h
          · exact h
          · exact absurd (fun hj : pos < s.size => absurd hj (Nat.not_lt.2 h)) hd
        have hne : ((pos : Int) == (s.size : Int)) = false := by clear hd; simp; omega
        have hn46 : Hid (s[pos] ≠ 46) := fun e => hd (fun _ => e)
        clear hd
        have hc46 : ((s[pos].toNat : Int) == 46) = false := by
          apply beq_false_of_ne
          intro e
          exact hn46.out (UInt8.toNat_inj.1 (Int.ofNat.inj e))
        have HC := Lib.hid (hcut.out.skip (K := 1) (by omega) (fun j hj a c => by obtain rfl : j = pos := by omega
                                                                                  exact hn46.out))
        clear hcut hn46
        go_wp2_with fail
        exact ⟨⟨pos + 1, b, done, rfl, rfl, hown, hbw, by omega, HC.out⟩, by simp [intOf]; omega⟩
    · have HC := Lib.hid (hcut.out.last (by omega))
      have hgt : ¬ ((pos : Int) ≤ (s.size : Int)) := by omega
      clear hcut
      go_wp2_with fail
      go_ret
      exact ⟨_, rfl, by rw [HC.out]; exact hown, hbw⟩
end Go.Proofs.Ythfchgifkalfdaa.Id
