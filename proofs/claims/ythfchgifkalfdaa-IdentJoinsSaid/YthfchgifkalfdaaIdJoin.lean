/-
  Contract of Join of the program and of the reference.
-/
import Derived.Test.YthfchgifkalfdaaIdRId
namespace Go.Proofs.Ythfchgifkalfdaa.Id
open Go.RowKit

/-! ### Names joined by full stops -/
/-- The first k names, with full stops between them. -/
def joinN (L : List ByteArray) : Nat → ByteArray
  | 0 => ⟨#[]⟩
  | k + 1 => if k = 0 then L.getD 0 ⟨#[]⟩ else (joinN L k ++ ⟨#[46]⟩) ++ L.getD k ⟨#[]⟩
def joinOk (L : List ByteArray) : Bool := decide (1 ≤ L.length) && decide (L.length ≤ 8) && L.all nameS && decide ((joinN L L.length).size ≤ 64)
def joinS (L : List ByteArray) : ByteArray := if joinOk L = true then joinN L L.length else ⟨#[]⟩
def joinE (L : List ByteArray) : Int := if joinOk L = true then 0 else 6
theorem nameS_size {s : ByteArray} (h : nameS s = true) : s.size ≤ 16 := by
  rcases Nat.lt_or_ge 16 s.size with h1 | h1
  · rw [name_long h1] at h; cases h
  · exact h1
theorem empty_app (x : ByteArray) : (⟨#[]⟩ : ByteArray) ++ x = x := by
  apply ByteArray.ext
  rw [ByteArray.data_append]
  simp
theorem joinN_size (L : List ByteArray) : ∀ k, k ≤ L.length → (L.take k).all nameS = true → (joinN L k).size ≤ 17 * k := by
  intro k
  induction k with
  | zero => intro _ _; exact Nat.zero_le _
  | succ k ih =>
    intro hk ha
    rw [all_take (by omega), Bool.and_eq_true] at ha
    have h1 := nameS_size ha.2
    have h2 := ih (by omega) ha.1
    rw [joinN]
    split
    · rename_i h0; subst h0; omega
    · rw [ByteArray.size_append, ByteArray.size_append]
      have : (⟨#[46]⟩ : ByteArray).size = 1 := rfl
      omega
def JoinEnd (L : List ByteArray) (w : World) (e : Ending) (w' : World) : Prop := e = .returned (.tuple #[.string (joinS L), .int .i64 (joinE L)]) ∧ Below w.heap.size w w'
theorem join_end_no {L : List ByteArray} {w w' : World} (h : joinOk L = false) (hb : Below w.heap.size w w') : JoinEnd L w (.returned (.tuple #[.string ⟨#[]⟩, .int .i64 6])) w' := by
  unfold JoinEnd joinS joinE
  rw [h]
  exact ⟨rfl, hb⟩
theorem join_end_ok {L : List ByteArray} {w w' : World} (h : joinOk L = true) (hb : Below w.heap.size w w') : JoinEnd L w (.returned (.tuple #[.string (joinN L L.length), .int .i64 0])) w' := by
  unfold JoinEnd joinS joinE
  rw [h]
  exact ⟨rfl, hb⟩
theorem join_none {L : List ByteArray} (h : L.length = 0) : joinOk L = false := by
  unfold joinOk; rw [h]; rfl
theorem join_many {L : List ByteArray} (h : 8 < L.length) : joinOk L = false := by
  unfold joinOk; rw [decide_eq_false (by omega : ¬ L.length ≤ 8), Bool.and_false]; rfl
theorem join_bad {L : List ByteArray} {k : Nat} (hk : k < L.length) (h : nameS (L.getD k ⟨#[]⟩) = false) : joinOk L = false := by
  unfold joinOk; rw [all_no hk h, Bool.and_false]; rfl
theorem join_long {L : List ByteArray} (h : 64 < (joinN L L.length).size) : joinOk L = false := by
  unfold joinOk; rw [decide_eq_false (by omega : ¬ (joinN L L.length).size ≤ 64), Bool.and_false]
theorem join_good {L : List ByteArray} (h1 : ¬ L.length = 0) (h2 : ¬ 8 < L.length) (h3 : L.all nameS = true) (h4 : ¬ 64 < (joinN L L.length).size) : joinOk L = true := by
  unfold joinOk; rw [h3, decide_eq_true (by omega : 1 ≤ L.length), decide_eq_true (by omega : L.length ≤ 8), decide_eq_true (by omega : (joinN L L.length).size ≤ 64)]; rfl
theorem joinN_next {L : List ByteArray} {k : Nat} (h : ¬ k = 0) : (joinN L k ++ ⟨#[46]⟩) ++ L.getD k ⟨#[]⟩ = joinN L (k + 1) := by
  rw [joinN, if_neg h]
theorem joinN_one (L : List ByteArray) : (⟨#[]⟩ : ByteArray) ++ L.getD 0 ⟨#[]⟩ = joinN L 1 := by
  rw [empty_app, joinN, if_pos rfl]

set_option maxHeartbeats 2000000 in
set_option maxRecDepth 100000 in
theorem join_any (L : List ByteArray) (v : Value) (w : World) (hv : Strs w v L) : Calls Try.prog 19 #[v] w (JoinEnd L w) := by
  obtain ⟨p, c, rfl, hcell⟩ := hv
  by_cases h0 : L.length = 0
  · have E := Lib.hid (join_none h0)
    have HC := Lib.hid hcell
    rw [h0]
    clear hcell
    go_enter Try.func19, Try.ntmps19
    go_wp2_with fail
    go_ret2
    exact join_end_no E.out (Below.refl _ _)
  · by_cases h8 : 8 < L.length
    · have E := Lib.hid (join_many h8)
      have h8' : (8 : Int) < (L.length : Int) := by omega
      have h0' : ((L.length : Int) == 0) = false := beq_false_of_ne (by omega)
      clear hcell h0
      go_enter Try.func19, Try.ntmps19
      go_wp2_with fail
      go_ret2
      exact join_end_no E.out (Below.refl _ _)
    · have h8' : (L.length : Int) ≤ 8 := by omega
      have h0' : ((L.length : Int) == 0) = false := beq_false_of_ne (by omega)
      obtain ⟨b, off, rfl, hb, hcs⟩ := hcell (by omega)
      have HC := Lib.hid hcs
      clear hcs
      go_enter Try.func19, Try.ntmps19
      go_wp2_with fail
      go_loopw [2, 16] (fun s i wr => ∃ k : Nat, i = .int .i64 k ∧ k ≤ L.length ∧ s = .string (joinN L k) ∧ Below w.heap.size w wr ∧ Hid ((L.take k).all nameS = true)) (fun _ i _ => L.length - (intOf i).toNat)
      case atStart => exact ⟨0, rfl, Nat.zero_le _, rfl, Below.refl _ _, rfl⟩
      case round =>
        obtain ⟨k, rfl, hk, rfl, hbw, hall⟩ := hrel
        have hsz := Lib.hid (joinN_size L k hk hall.out)
        by_cases hlt : k < L.length
        · have hck := (hbw.cell hb).trans (HC.out k hlt)
          obtain ⟨B, hB⟩ : ∃ B, nameS (L.getD k ⟨#[]⟩) = B := ⟨_, rfl⟩
          obtain ⟨x, hx⟩ : ∃ x, L.getD k ⟨#[]⟩ = x := ⟨_, rfl⟩
          have HA := Lib.hid (all_take hlt)
          have HN := Lib.hid (fun h => join_bad hlt h)
          have HX := Lib.hid hx
          rw [hx] at hck hB HA HN
          rw [hB] at HA HN
          have cN : Hid (∀ W, Calls Try.prog 12 #[.string x] W fun e w' => e = .returned (.bool B) ∧ Below W.heap.size W w') := fun W => by rw [← hB]; exact isName_any _ W
          have HB := Lib.hid hB
          clear hB hx
          cases B
          · go_wp2_with fail
            refine (cN.out _).mono ?_; rintro e W1 ⟨rfl, b1⟩
            go_wp2_with fail
            go_ret2
            exact join_end_no (HN.out (by trivial)) (hbw.trans (b1.mono hbw.size))
          · have hx16 : x.size ≤ 16 := nameS_size HB.out
            by_cases hk0 : k = 0
            · subst hk0
              rw [Nat.add_zero] at hck
              have e1 : ∀ W : World, (Op.stringOp .add (joinN L 0) x).run Try.prog W = .ok (.string (joinN L 1)) W := fun W => by
                rw [← joinN_one, HX.out]; exact run_string_add_sum W _ _ (by show 0 + x.size ≤ _; omega)
              go_wp2_with fail
              refine (cN.out _).mono ?_; rintro e W1 ⟨rfl, b1⟩
              go_wp2_with fail
              exact ⟨⟨1, rfl, hlt, rfl, hbw.trans (b1.mono hbw.size), by show _ = _; rw [HA.out, hall.out]; rfl⟩, by simp [intOf]; omega⟩
            · have hk0' : (0 : Int) < (k : Int) := by omega
              have hs8 := hsz.out
              obtain ⟨S, hS⟩ : ∃ S, joinN L k ++ ⟨#[46]⟩ = S := ⟨_, rfl⟩
              have hSs : S.size ≤ 137 := by rw [← hS, ByteArray.size_append]; show (joinN L k).size + 1 ≤ 137; omega
              have e1 : ∀ W : World, (Op.stringOp .add (joinN L k) ⟨#[46]⟩).run Try.prog W = .ok (.string S) W := fun W => by
                rw [← hS]; exact run_string_add_sum W _ _ (by show (joinN L k).size + 1 ≤ _; omega)
              have e2 : ∀ W : World, (Op.stringOp .add S x).run Try.prog W = .ok (.string (joinN L (k + 1))) W := fun W => by
                rw [← joinN_next hk0, hS, HX.out]; exact run_string_add_sum W _ _ (by omega)
              clear hs8 hS hSs hk0
              go_wp2_with fail
              refine (cN.out _).mono ?_; rintro e W1 ⟨rfl, b1⟩
              go_wp2_with fail
              exact ⟨⟨k + 1, rfl, hlt, rfl, hbw.trans (b1.mono hbw.size), by show _ = _; rw [HA.out, hall.out]; rfl⟩, by simp [intOf]; omega⟩
        · obtain rfl : k = L.length := by omega
          have hA := Lib.hid (show L.all nameS = true by rw [← hall.out, List.take_length])
          by_cases h64 : 64 < (joinN L L.length).size
          · have E := Lib.hid (join_long h64)
            have h64' : (64 : Int) < ((joinN L L.length).size : Int) := by omega
            clear hall hsz h64
            go_wp2_with fail
            go_ret2
            exact join_end_no E.out hbw
          · have E := Lib.hid (join_good h0 h8 hA.out h64)
            have h64' : ((joinN L L.length).size : Int) ≤ 64 := by omega
            clear hall hsz h64
            go_wp2_with fail
            go_ret2
            exact join_end_ok E.out hbw
end Go.Proofs.Ythfchgifkalfdaa.Id
