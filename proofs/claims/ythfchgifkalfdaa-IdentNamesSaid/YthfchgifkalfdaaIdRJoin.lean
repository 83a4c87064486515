/-
  Contracts of the reference's Join and Same.
-/
import Derived.Test.YthfchgifkalfdaaIdJoin
namespace Go.Proofs.Ythfchgifkalfdaa.Id
open Go.RowKit

set_option maxHeartbeats 2000000 in
set_option maxRecDepth 100000 in
theorem rjoin_any (L : List ByteArray) (v : Value) (w : World) (hv : Strs w v L) : Calls Try.prog 20 #[v] w (JoinEnd L w) := by
  obtain ⟨p, c, rfl, hcell⟩ := hv
  by_cases h0 : L.length = 0
  · have E := Lib.hid (join_none h0)
    have HC := Lib.hid hcell
    rw [h0]
    clear hcell
    go_enter Try.func20, Try.ntmps20
    go_wp2_with fail
    go_ret2
    exact join_end_no E.out (Below.refl _ _)
  · by_cases h8 : 8 < L.length
    · have E := Lib.hid (join_many h8)
      have h8' : (8 : Int) < (L.length : Int) := by omega
      have h0' : ¬ ((L.length : Int) < 1) := by omega
      clear hcell h0
      go_enter Try.func20, Try.ntmps20
      go_wp2_with fail
      go_ret2
      exact join_end_no E.out (Below.refl _ _)
    · have h8' : (L.length : Int) ≤ 8 := by omega
      have h0' : ¬ ((L.length : Int) < 1) := by omega
      have h01 : 0 < L.length := by omega
      obtain ⟨b, off, rfl, hb, hcs⟩ := hcell h01
      have HC := Lib.hid hcs
      have hc0 := hcs 0 h01
      rw [Nat.add_zero] at hc0
      have hj1 : L.getD 0 ⟨#[]⟩ = joinN L 1 := by rw [joinN, if_pos rfl]
      rw [hj1] at hc0
      clear hcs hj1
      go_enter Try.func20, Try.ntmps20
      go_wp2_with fail
      go_loopw [4, 5] (fun s i wr => ∃ k : Nat, i = .int .i64 k ∧ k ≤ L.length ∧ s = .string (joinN L (max k 1)) ∧ wr = w ∧ Hid ((L.take k).all nameS = true)) (fun _ i _ => L.length - (intOf i).toNat)
      case atStart => exact ⟨0, rfl, Nat.zero_le _, rfl, by trivial, rfl⟩
      case round =>
        obtain ⟨k, rfl, hk, rfl, rfl, hall⟩ := hrel
        have hsz := Lib.hid (joinN_size L k hk hall.out)
        by_cases hlt : k < L.length
        · have hck := HC.out k hlt
          obtain ⟨B, hB⟩ : ∃ B, nameS (L.getD k ⟨#[]⟩) = B := ⟨_, rfl⟩
          obtain ⟨x, hx⟩ : ∃ x, L.getD k ⟨#[]⟩ = x := ⟨_, rfl⟩
          have HA := Lib.hid (all_take hlt)
          have HN := Lib.hid (fun h => join_bad hlt h)
          have HX := Lib.hid hx
          rw [hx] at hck hB HA HN
          rw [hB] at HA HN
          have cN : Hid (∀ W, Calls Try.prog 13 #[.string x] W fun e w' => e = .returned (.bool B) ∧ W = w') := fun W => by rw [← hB]; exact rname_any _ W
          have HB := Lib.hid hB
          clear hB hx hc0
          cases B
          · go_wp2_with fail
            refine (cN.out _).mono ?_; rintro e W1 ⟨rfl, rfl⟩
            go_wp2_with fail
            go_ret2
            exact join_end_no (HN.out (by trivial)) (Below.refl _ _)
          · have hx16 : x.size ≤ 16 := nameS_size HB.out
            by_cases hk0 : k = 0
            · subst hk0
              rw [Nat.add_zero] at hck
              go_wp2_with fail
              refine (cN.out _).mono ?_; rintro e W1 ⟨rfl, rfl⟩
              go_wp2_with fail
              exact ⟨⟨1, rfl, hlt, rfl, by trivial, by show _ = _; rw [HA.out, hall.out]; rfl⟩, by simp [intOf]; omega⟩
            · have hk0' : (0 : Int) < (k : Int) := by omega
              have hs8 := hsz.out
              rw [show max k 1 = k by omega]
              obtain ⟨S, hS⟩ : ∃ S, joinN L k ++ ⟨#[46]⟩ = S := ⟨_, rfl⟩
              have hSs : S.size ≤ 137 := by rw [← hS, ByteArray.size_append]; show (joinN L k).size + 1 ≤ 137; omega
              have e1 : ∀ W : World, (Op.stringOp .add (joinN L k) ⟨#[46]⟩).run Try.prog W = .ok (.string S) W := fun W => by
                rw [← hS]; exact run_string_add_sum W _ _ (by show (joinN L k).size + 1 ≤ _; omega)
              have e2 : ∀ W : World, (Op.stringOp .add S x).run Try.prog W = .ok (.string (joinN L (k + 1))) W := fun W => by
                rw [← joinN_next hk0, hS, HX.out]; exact run_string_add_sum W _ _ (by omega)
              clear hs8 hS hSs hk0
              go_wp2_with fail
              refine (cN.out _).mono ?_; rintro e W1 ⟨rfl, rfl⟩
              go_wp2_with fail
              exact ⟨⟨k + 1, rfl, hlt, by rw [show max (k + 1) 1 = k + 1 by omega], by trivial, by show _ = _; rw [HA.out, hall.out]; rfl⟩, by simp [intOf]; omega⟩
        · obtain rfl : k = L.length := by omega
          have hA := Lib.hid (show L.all nameS = true by rw [← hall.out, List.take_length])
          rw [show max L.length 1 = L.length by omega]
          clear hc0
          by_cases h64 : 64 < (joinN L L.length).size
          · have E := Lib.hid (join_long h64)
            have h64' : (64 : Int) < ((joinN L L.length).size : Int) := by omega
            clear hall hsz h64
            go_wp2_with fail
            go_ret2
            exact join_end_no E.out (Below.refl _ _)
          · have E := Lib.hid (join_good h0 h8 hA.out h64)
            have h64' : ((joinN L L.length).size : Int) ≤ 64 := by omega
            clear hall hsz h64
            go_wp2_with fail
            go_ret2
            exact join_end_ok E.out (Below.refl _ _)

theorem below_drewN (w : World) (n : Nat) : Below w.heap.size w (w.drewN n) := ⟨rfl, rfl, rfl, Nat.le_refl _, fun _ _ => rfl⟩
theorem below_drew2 (w : World) (n m : Nat) : Below w.heap.size w ((w.drewN n).drewN m) := ⟨rfl, rfl, rfl, Nat.le_refl _, fun _ _ => rfl⟩
theorem take_eq {L M : List ByteArray} {k : Nat} (h1 : k < L.length) (h2 : k < M.length) (h : L.take k = M.take k) (he : L.getD k ⟨#[]⟩ = M.getD k ⟨#[]⟩) : L.take (k + 1) = M.take (k + 1) := by
  rw [List.take_succ_eq_append_getElem h1, List.take_succ_eq_append_getElem h2, h]
  simp only [List.getD, List.getElem?_eq_getElem h1, List.getElem?_eq_getElem h2, Option.getD_some] at he
  rw [he]
theorem ne_of_getD {L M : List ByteArray} {k : Nat} (he : ¬ L.getD k ⟨#[]⟩ = M.getD k ⟨#[]⟩) : ¬ L = M := fun h => he (by rw [h])

set_option maxHeartbeats 2000000 in
set_option maxRecDepth 100000 in
theorem same_any (L M : List ByteArray) (v u : Value) (w : World) (hv : Strs w v L) (hu : Strs w u M) (hb : L.length ≤ 100000) : Calls Try.prog 18 #[v, u] w fun e w' => e = .returned (.bool (decide (L = M))) ∧ Below w.heap.size w w' := by
  obtain ⟨p, c, rfl, hcell⟩ := hv
  obtain ⟨q, d, rfl, hdell⟩ := hu
  have HC := Lib.hid hcell
  have HD := Lib.hid hdell
  clear hcell hdell
  by_cases hn : L.length = M.length
  · have hn' : ((L.length : Int) != (M.length : Int)) = false := by simp; omega
    go_enter Try.func18, Try.ntmps18
    go_wp2_with fail
    go_loopw [5] (fun i wr => ∃ k n : Nat, i = .int .i64 k ∧ k ≤ L.length ∧ wr = w.drewN n ∧ Hid (L.take k = M.take k)) (fun i _ => L.length - (intOf i).toNat)
    case atStart => exact ⟨0, 0, rfl, Nat.zero_le _, rfl, rfl⟩
    case round =>
      obtain ⟨k, n, rfl, hk, rfl, heq⟩ := hrel
      by_cases hlt : k < L.length
      · obtain ⟨b, off, rfl, hb, hcs⟩ := HC.out (by omega)
        obtain ⟨b', off', rfl, hb', hcs'⟩ := HD.out (by omega)
        have hck : w.cell? ⟨b, off + k, none⟩ = some (.string (L.getD k ⟨#[]⟩)) := hcs k hlt
        have hck' : w.cell? ⟨b', off' + k, none⟩ = some (.string (M.getD k ⟨#[]⟩)) := hcs' k (by omega)
        have hltM : k < M.length := by omega
        have hlt' : (k : Int) < (M.length : Int) := by omega
        have hkb : (k : Int) ≤ 100000 := by omega
        obtain ⟨x, hx⟩ : ∃ x, L.getD k ⟨#[]⟩ = x := ⟨_, rfl⟩
        obtain ⟨y, hy⟩ : ∃ y, M.getD k ⟨#[]⟩ = y := ⟨_, rfl⟩
        have HS := Lib.hid (take_eq hlt hltM heq.out)
        have HN := Lib.hid (fun h => ne_of_getD (L := L) (M := M) (k := k) h)
        rw [hx] at hck HS HN
        rw [hy] at hck' HS HN
        clear hcs hcs' hx hy hb hb' HC HD
        by_cases hxy : x = y
        · have hb1 : (x.toList == y.toList) = true := by rw [hxy]; exact beq_self_eq_true _
          have HT := Lib.hid (HS.out hxy)
          clear HS HN hxy
          go_wp2_with fail
          go_quiet (fail)
          go_wp2_with fail
          exact ⟨⟨k + 1, n + nq, rfl, hlt, rfl, HT.out⟩, by simp [intOf]; omega⟩
        · have hb1 : (x.toList == y.toList) = false := beq_false_of_ne (fun h => hxy (by rw [← toB_data x, ← toB_data y, ← Lib.toList_data, ← Lib.toList_data, h]))
          have HT := Lib.hid (show decide (L = M) = false from decide_eq_false (HN.out hxy))
          clear HS HN hxy
          go_wp2_with fail
          go_quiet (fail)
          go_wp2_with fail
          go_ret
          exact ⟨ret_bool HT.out.symm, below_drew2 w _ _⟩
      · have hk' : ¬ (k : Int) < (M.length : Int) := by omega
        have e : L = M := by
          have h := heq.out
          rw [List.take_of_length_le (by omega), List.take_of_length_le (by omega)] at h
          exact h
        have E := Lib.hid (show decide (L = M) = true from decide_eq_true e)
        clear e heq
        go_wp2_with fail
        go_ret
        exact ⟨ret_bool E.out.symm, below_drewN _ _⟩
  · have hn' : ((L.length : Int) != (M.length : Int)) = true := by simp; omega
    have E := Lib.hid (show decide (L = M) = false from decide_eq_false (fun h => hn (by rw [h])))
    clear hn
    go_enter Try.func18, Try.ntmps18
    go_wp2_with fail
    go_ret
    exact ⟨ret_bool E.out.symm, Below.refl _ _⟩
end Go.Proofs.Ythfchgifkalfdaa.Id
