/-
  Contracts of the reference's IsId and Split.
-/
import Derived.Test.YthfchgifkalfdaaIdRSplit
namespace Go.Proofs.Ythfchgifkalfdaa.Id
open Go.RowKit

theorem own_base {w : World} {B B' e size n : Nat} {v : Value} {xs : List Value} (h : w.ownsRow B e size v n xs) (hB : B' ≤ B) : w.ownsRow B' e size v n xs := by
  refine ⟨h.1, ?_⟩
  rcases h.2 with h0 | ⟨g, cap, cur, hv, hg, rest⟩
  · exact .inl h0
  · exact .inr ⟨g, cap, cur, hv, Nat.le_trans hB hg, rest⟩
theorem all_take {L : List ByteArray} {k : Nat} (hk : k < L.length) : (L.take (k + 1)).all nameS = ((L.take k).all nameS && nameS (L.getD k ⟨#[]⟩)) := by
  rw [List.take_succ_eq_append_getElem hk, List.all_append]
  simp [List.getD, hk]
theorem id_of {s : ByteArray} (h1 : ¬ 64 < s.size) (h2 : ¬ 8 < (cuts s).length) : idOk s = (cuts s).all nameS := by
  unfold idOk
  rw [decide_eq_true (by omega : s.size ≤ 64), decide_eq_true (by omega : (cuts s).length ≤ 8)]; rfl
theorem id_many8 {s : ByteArray} (h2 : 8 < (cuts s).length) : idOk s = false := by
  unfold idOk
  rw [decide_eq_false (by omega : ¬ (cuts s).length ≤ 8), Bool.and_false]; rfl
theorem all_no {L : List ByteArray} {k : Nat} (hk : k < L.length) (h : nameS (L.getD k ⟨#[]⟩) = false) : L.all nameS = false := by
  rw [List.all_eq_false]
  refine ⟨L[k], List.getElem_mem hk, ?_⟩
  have : L.getD k ⟨#[]⟩ = L[k] := by simp [List.getD, hk]
  rw [this] at h
  rw [h]; simp

set_option maxHeartbeats 2000000 in
set_option maxRecDepth 100000 in
theorem risId_any (s : ByteArray) (w : World) (hs : s.size ≤ 1000) : Calls Try.prog 15 #[.string s] w fun e w' => e = .returned (.bool (idOk s)) ∧ Below w.heap.size w w' := by
  have cP := Lib.hid (fun w => parts_any s w hs)
  obtain ⟨L, hL⟩ : ∃ L, cuts s = L := ⟨_, rfl⟩
  by_cases h1 : 64 < s.size
  · have E := Lib.hid (id_long h1)
    have h1' : (64 : Int) < (s.size : Int) := by omega
    go_enter Try.func15, Try.ntmps15
    go_wp2_with fail
    refine (cP.out _).mono ?_; rintro e w1 ⟨v, rfl, hown, b1⟩
    go_wp2_with fail
    go_ret
    exact ⟨ret_bool E.out.symm, b1⟩
  · have h1' : (s.size : Int) ≤ 64 := by omega
    by_cases h2 : 8 < L.length
    · have E := Lib.hid (id_many8 (by rw [hL]; exact h2))
      have h2' : (8 : Int) < (L.length : Int) := by omega
      rw [hL] at cP
      go_enter Try.func15, Try.ntmps15
      go_wp2_with fail
      refine (cP.out _).mono ?_; rintro e w1 ⟨v, rfl, hown, b1⟩
      obtain ⟨p, c, rfl⟩ := own_slice hown
      go_wp2_with fail
      go_ret
      exact ⟨ret_bool E.out.symm, b1⟩
    · have h2' : (L.length : Int) ≤ 8 := by omega
      have E := Lib.hid (id_of h1 (by rw [hL]; exact h2))
      rw [hL] at cP E
      go_enter Try.func15, Try.ntmps15
      go_wp2_with fail
      refine (cP.out _).mono ?_; rintro e w1 ⟨v, rfl, hown, b1⟩
      obtain ⟨p, c, rfl, hcell⟩ := own_strs hown
      clear hown
      have HC := Lib.hid hcell
      clear hcell
      go_wp2_with fail
      go_loopw [4] (fun i wr => ∃ k : Nat, i = .int .i64 k ∧ k ≤ L.length ∧ wr = w1 ∧ Hid ((L.take k).all nameS = true)) (fun i _ => L.length - (intOf i).toNat)
      case atStart => exact ⟨0, rfl, Nat.zero_le _, rfl, rfl⟩
      case round =>
        obtain ⟨k, rfl, hk, rfl, hall⟩ := hrel
        by_cases hlt : k < L.length
        · obtain ⟨b, off, rfl, hb, hcs⟩ := HC.out (by omega)
          have hck := hcs k hlt
          obtain ⟨B, hB⟩ : ∃ B, nameS (L.getD k ⟨#[]⟩) = B := ⟨_, rfl⟩
          obtain ⟨x, hx⟩ : ∃ x, L.getD k ⟨#[]⟩ = x := ⟨_, rfl⟩
          have HA := Lib.hid (all_take hlt)
          have HN := Lib.hid (fun h => all_no hlt h)
          rw [hx] at hck hB HA HN
          rw [hB] at HA HN
          have cN : Hid (∀ W, Calls Try.prog 13 #[.string x] W fun e w' => e = .returned (.bool B) ∧ W = w') := fun W => by rw [← hB]; exact rname_any _ W
          clear hcs hB hx
          cases B
          · go_wp2_with fail
            refine (cN.out _).mono ?_; rintro e W1 ⟨rfl, rfl⟩
            go_wp2_with fail
            go_ret
            exact ⟨ret_bool (by rw [E.out, HN.out (by trivial)]), b1⟩
          · go_wp2_with fail
            refine (cN.out _).mono ?_; rintro e W1 ⟨rfl, rfl⟩
            go_wp2_with fail
            exact ⟨⟨k + 1, rfl, hlt, by trivial, by show _ = _; rw [HA.out, hall.out]; rfl⟩, by simp [intOf]; omega⟩
        · obtain rfl : k = L.length := by omega
          have hA := Lib.hid (show L.all nameS = true by rw [← hall.out, List.take_length])
          clear hall
          go_wp2_with fail
          go_ret
          exact ⟨ret_bool (by rw [E.out, hA.out]), b1⟩

set_option maxHeartbeats 1000000 in
set_option maxRecDepth 100000 in
theorem rsplit_any (s : ByteArray) (w : World) (hs : s.size ≤ 1000) : Calls Try.prog 17 #[.string s] w (SplEnd w (splL s) (splE s)) := by
  have cP := Lib.hid (fun w => parts_any s w hs)
  obtain ⟨B, hB⟩ : ∃ B, idOk s = B := ⟨_, rfl⟩
  have cI : Hid (∀ W, Calls Try.prog 15 #[.string s] W fun e w' => e = .returned (.bool B) ∧ Below W.heap.size W w') := fun W => by rw [← hB]; exact risId_any _ W hs
  cases B
  · have HB := Lib.hid hB
    clear hB
    go_enter Try.func17, Try.ntmps17
    go_wp2_with fail
    refine (cI.out _).mono ?_; rintro e W1 ⟨rfl, b1⟩
    go_wp2_with fail
    go_ret2
    exact spl_end_no HB.out b1
  · have HB := Lib.hid hB
    clear hB
    go_enter Try.func17, Try.ntmps17
    go_wp2_with fail
    refine (cI.out _).mono ?_; rintro e W1 ⟨rfl, b1⟩
    go_wp2_with fail
    refine (cP.out _).mono ?_; rintro e w1 ⟨v, rfl, hown, b2⟩
    go_wp2_with fail
    go_ret2
    exact spl_end_ok HB.out rfl (own_base hown b1.size) (b1.trans (b2.mono b1.size))
end Go.Proofs.Ythfchgifkalfdaa.Id
