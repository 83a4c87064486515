/-
  Contracts of natural, value, Parse, and of the reference's Parse.
-/
import Derived.Test.YthipgmdjjmgppaaMulr
import Derived.Lib.Strings
import Derived.Lib.IndexBytes
namespace Go.Proofs.Ythipgmdjjmgppaa
open Go.RowKit

/-! ### Digits and their value: plain lists of bytes -/
def dig (c : UInt8) : Bool := decide (48 ≤ c.toNat) && decide (c.toNat ≤ 57)
def allDig (l : List UInt8) : Bool := l.all dig
def natB (l : List UInt8) : Bool := !l.isEmpty && l.head? != some 48 && allDig l
def valL (l : List UInt8) : Nat := l.foldl (fun n c => 10 * n + (c.toNat - 48)) 0
theorem valL_snoc (l : List UInt8) (c : UInt8) : valL (l ++ [c]) = 10 * valL l + (c.toNat - 48) := by unfold valL; rw [List.foldl_append]; rfl
theorem allDig_snoc (l : List UInt8) (c : UInt8) : allDig (l ++ [c]) = (allDig l && dig c) := by unfold allDig; rw [List.all_append]; simp
theorem take_snoc (s : ByteArray) (k : Nat) (h : k < s.size) : s.data.toList.take (k + 1) = s.data.toList.take k ++ [s[k]] := by
  rw [List.take_succ_eq_append_getElem (by simpa using h)]; rfl
theorem foldl_ge (l : List UInt8) (n : Nat) : n ≤ l.foldl (fun n c => 10 * n + (c.toNat - 48)) n := by
  induction l generalizing n with
  | nil => exact Nat.le_refl _
  | cons c l ih => exact Nat.le_trans (by omega) (ih (10 * n + (c.toNat - 48)))
theorem valL_take (l : List UInt8) (k : Nat) : valL (l.take k) ≤ valL l := by
  have : valL l = (l.drop k).foldl (fun n c => 10 * n + (c.toNat - 48)) (valL (l.take k)) := by
    unfold valL
    rw [← List.foldl_append, List.take_append_drop]
  rw [this]; exact foldl_ge _ _
theorem allDig_take (l : List UInt8) (k : Nat) (h : allDig l = true) : allDig (l.take k) = true := by
  unfold allDig at *
  rw [List.all_eq_true] at *
  exact fun x hx => h x (List.mem_of_mem_take hx)
theorem dig_at (s : ByteArray) (k : Nat) (h : k < s.size) (ha : allDig s.data.toList = true) : 48 ≤ s[k].toNat ∧ s[k].toNat ≤ 57 := by
  unfold allDig at ha
  rw [List.all_eq_true] at ha
  have hm : s[k] ∈ s.data.toList := by
    show s.data[k] ∈ s.data.toList
    simp
  have := ha _ hm
  unfold dig at this
  simpa using this

theorem ret_bool {a b : Bool} (h : a = b) : Ending.returned (.bool a) = .returned (.bool b) := by rw [h]

def natS (s : ByteArray) : Bool := natB s.data.toList
def valS (s : ByteArray) : Nat := valL s.data.toList
def NatInv (s : ByteArray) (i : Value) : Prop := ∃ k : Nat, k ≤ s.size ∧ i = .int .i64 k ∧ Hid (allDig (s.data.toList.take k) = true)

theorem nil_of_zero (s : ByteArray) (h : s.size = 0) : s.toList = [] := by
  rw [Lib.toList_data]; exact List.eq_nil_of_length_eq_zero (by rw [← Lib.size_eq]; exact h)
theorem ne_nil_of (s : ByteArray) (h : 0 < s.size) : ¬ s.toList = [] := by
  rw [Lib.toList_data]; intro e
  have := Lib.size_eq s
  rw [e, List.length_nil] at this
  omega
theorem head_of (s : ByteArray) (h : 0 < s.size) : s.data.toList.head? = some s[0] := by
  rw [← Lib.data_getElem? s 0 h, List.head?_eq_getElem?]
theorem natB_zero (s : ByteArray) (h : s.size = 0) : natB s.data.toList = false := by
  have := nil_of_zero s h
  rw [Lib.toList_data] at this
  rw [this]; rfl
theorem natB_head (s : ByteArray) (h : 0 < s.size) (h0 : s[0].toNat = 48) : natB s.data.toList = false := by
  unfold natB
  rw [head_of s h]
  have : s[0] = 48 := UInt8.toNat_inj.1 h0
  rw [this]; simp
theorem natB_else (s : ByteArray) (h : 0 < s.size) (h0 : ¬ s[0].toNat = 48) : natB s.data.toList = allDig s.data.toList := by
  unfold natB
  rw [head_of s h]
  have h1 : ¬ s[0] = 48 := fun e => h0 (by rw [e]; rfl)
  have h2 : s.data.toList.isEmpty = false := by
    have := ne_nil_of s h
    rw [Lib.toList_data] at this
    simpa using this
  rw [h2]
  have : (some s[0] != some (48 : UInt8)) = true := by simpa using h1
  rw [this]; rfl
theorem allDig_no (s : ByteArray) (k : Nat) (h : k < s.size) (hd : s[k].toNat < 48 ∨ 57 < s[k].toNat) : allDig s.data.toList = false := by
  cases ha : allDig s.data.toList
  · rfl
  · have := dig_at s k h ha; omega

set_option maxHeartbeats 400000 in
theorem natural_any (s : ByteArray) (w : World) (hs : s.size ≤ 9223372036854775806) :
    Calls Try.prog 39 #[.string s] w fun e w' => e = .returned (.bool (natS s)) ∧ w = w' := by
  by_cases h0 : s.size = 0
  · have E := Lib.hid (natB_zero s h0)
    have hn := nil_of_zero s h0
    clear h0
    go_enter Try.func39, Try.ntmps39
    go_wp2
    go_ret
    exact ⟨ret_bool E.out.symm, rfl⟩
  · have h0 : 0 < s.size := by omega
    have hn := ne_nil_of s h0
    have hne : s.toList.isEmpty = false := by simpa using hn
    by_cases hz : s[0].toNat = 48
    · have E := Lib.hid (natB_head s h0 hz)
      have hz' : ((s[0].toNat : Int) == 48) = true := by simp; omega
      clear hz
      go_enter Try.func39, Try.ntmps39
      go_wp2
      go_ret
      exact ⟨ret_bool E.out.symm, rfl⟩
    · have E := Lib.hid (natB_else s h0 hz)
      have hz' : ((s[0].toNat : Int) == 48) = false := by simp; omega
      clear hz
      go_enter Try.func39, Try.ntmps39
      go_wp2
      go_loop [13] (fun i => NatInv s i) (fun i => s.size - (intOf i).toNat)
      case atStart => exact ⟨0, by omega, rfl, by show _ = _; simp [allDig]⟩
      case round =>
        obtain ⟨k, hk, rfl, ha⟩ := hrel
        by_cases hlt : k < s.size
        · have HT := Lib.hid (take_snoc s k hlt)
          have HN := Lib.hid (fun h => E.out.trans (allDig_no s k hlt h))
          go_wp2
          · rename_i ht _
            go_ret
            exact ⟨ret_bool (HN.out (by omega)).symm, rfl⟩
          · rename_i ht
            refine ⟨⟨k + 1, by omega, by go_num, ?_⟩, by simp [intOf]; omega⟩
            show _ = _
            rw [HT.out, allDig_snoc, ha.out]
            unfold dig
            simp; omega
          · rename_i ht
            go_ret
            exact ⟨ret_bool (HN.out (by omega)).symm, rfl⟩
        · obtain rfl : k = s.size := by omega
          have E2 := Lib.hid (show true = natB s.data.toList by rw [E.out, ← ha.out, List.take_of_length_le (by rw [← Lib.size_eq]; omega)])
          clear ha
          go_wp2
          go_ret
          exact ⟨ret_bool E2.out, rfl⟩

def valQ (v : Nat) : Int := if v ≤ 1099511627776 then v else 0
def valE (v : Nat) : Int := if v ≤ 1099511627776 then 0 else 9
def ValInv (s : ByteArray) (n i : Value) : Prop := ∃ k m : Nat, k ≤ s.size ∧ i = .int .i64 k ∧ n = .int .i64 (m : Int) ∧ m ≤ 1099511627776 ∧ Hid (m = valL (s.data.toList.take k))

set_option maxHeartbeats 400000 in
theorem value_any (s : ByteArray) (w : World) (hs : s.size ≤ 9223372036854775806) (hd : allDig s.data.toList = true) :
    Calls Try.prog 40 #[.string s] w fun e w' => e = .returned (.tuple #[.int .i64 (valQ (valS s)), .int .i64 (valE (valS s))]) ∧ w = w' := by
  have HD := Lib.hid hd
  clear hd
  go_enter Try.func40, Try.ntmps40
  go_wp2
  go_loop [2, 7] (fun n i => ValInv s n i) (fun _ i => s.size - (intOf i).toNat)
  case atStart => exact ⟨0, 0, by omega, rfl, rfl, by omega, by show _ = _; simp [valL]⟩
  case round =>
    obtain ⟨k, m, hk, rfl, rfl, hm, hv⟩ := hrel
    by_cases hlt : k < s.size
    · have hb := dig_at s k hlt HD.out
      have b1 : 48 ≤ s[k].toNat := hb.1
      have b2 : s[k].toNat ≤ 57 := hb.2
      have hsn := Lib.hid (show valL (s.data.toList.take (k + 1)) = 10 * m + (s[k].toNat - 48) by rw [take_snoc s k hlt, valL_snoc, ← hv.out])
      have hle := Lib.hid (valL_take s.data.toList (k + 1))
      clear hb
      have HG := Lib.hid (show 1099511627776 < valL s.data.toList → 0 = valQ (valL s.data.toList) ∧ 9 = valE (valL s.data.toList) from fun h => by unfold valQ valE; rw [if_neg (by omega), if_neg (by omega)]; exact ⟨rfl, rfl⟩)
      go_wp2
      · rename_i ht _
        have h := hsn.out
        have h' := hle.out
        have g := HG.out (by omega)
        go_ret2
        exact ⟨ret2 g.1 g.2, rfl⟩
      · rename_i ht
        refine ⟨⟨k + 1, 10 * m + (s[k].toNat - 48), by omega, by go_num, val_int (by omega), by omega, ?_⟩, by simp [intOf]; omega⟩
        show _ = _
        rw [hsn.out]
    · obtain rfl : k = s.size := by omega
      have e : m = valL s.data.toList := by rw [hv.out, List.take_of_length_le (by rw [← Lib.size_eq]; omega)]
      have E := Lib.hid (show (m : Int) = valQ (valL s.data.toList) ∧ 0 = valE (valL s.data.toList) by unfold valQ valE; rw [← e, if_pos hm, if_pos hm]; exact ⟨rfl, rfl⟩)
      clear e hv
      go_wp2
      go_ret2
      exact ⟨ret2 E.out.1 E.out.2, rfl⟩

/-! ### Parse -/
def body (l : List UInt8) : List UInt8 := if l.head? = some 45 then l.drop 1 else l
def parE (l : List UInt8) : Int := if l = [] then 3 else if l = [48] then 0 else if natB (body l) = false then 5 else valE (valL (body l))
def parQ (l : List UInt8) : Int := if l = [] then 0 else if l = [48] then 0 else if natB (body l) = false then 0 else if l.head? = some 45 then -valQ (valL (body l)) else valQ (valL (body l))
theorem valQ_bd (v : Nat) : 0 ≤ valQ v ∧ valQ v ≤ 1099511627776 := by unfold valQ; split <;> omega
theorem natB_dig (l : List UInt8) (h : natB l = true) : allDig l = true := by
  unfold natB at h; simp at h; exact h.2
theorem body_minus (s : ByteArray) (h : 0 < s.size) (h0 : s[0].toNat = 45) : (s.extract 1 s.size).data.toList = body s.data.toList ∧ s.data.toList.head? = some 45 := by
  have e : s[0] = 45 := UInt8.toNat_inj.1 h0
  have hh := head_of s h
  rw [e] at hh
  refine ⟨?_, hh⟩
  unfold body
  rw [if_pos hh, Lib.extract_to_end]
theorem body_plain (s : ByteArray) (h : 0 < s.size) (h0 : ¬ s[0].toNat = 45) : s.data.toList = body s.data.toList ∧ ¬ s.data.toList.head? = some 45 := by
  have hh := head_of s h
  have hne : ¬ s.data.toList.head? = some 45 := by
    rw [hh]; intro e; injection e with e; rw [e] at h0; exact h0 rfl
  refine ⟨?_, hne⟩
  unfold body
  rw [if_neg hne]
theorem par_else (l : List UInt8) (h1 : ¬ l = []) (h2 : ¬ l = [48]) :
    (natB (body l) = false → 0 = parQ l ∧ 5 = parE l) ∧ (natB (body l) = true → l.head? = some 45 → -valQ (valL (body l)) = parQ l ∧ valE (valL (body l)) = parE l) ∧
    (natB (body l) = true → ¬ l.head? = some 45 → valQ (valL (body l)) = parQ l ∧ valE (valL (body l)) = parE l) := by
  unfold parQ parE
  rw [if_neg h1, if_neg h1, if_neg h2, if_neg h2]
  refine ⟨fun h => ?_, fun h hh => ?_, fun h hh => ?_⟩
  · rw [if_pos h, if_pos h]; exact ⟨rfl, rfl⟩
  · simp [h, hh]
  · simp [h, hh]
def ParEnd (s : ByteArray) (w : World) (e : Ending) (w' : World) : Prop := e = .returned (.tuple #[.int .i64 (parQ s.data.toList), .int .i64 (parE s.data.toList)]) ∧ w = w'

set_option maxHeartbeats 400000 in
theorem parse_any (s : ByteArray) (w : World) (hs : s.size ≤ 9223372036854775806) :
    Calls Try.prog 27 #[.string s] w (ParEnd s w) := by
  by_cases h0 : s.size = 0
  · have hn := nil_of_zero s h0
    have E := Lib.hid (show 0 = parQ s.data.toList ∧ 3 = parE s.data.toList by rw [← Lib.toList_data, hn]; exact ⟨rfl, rfl⟩)
    clear h0
    go_enter Try.func27, Try.ntmps27
    go_wp2_with fail
    go_ret2
    exact ⟨ret2 E.out.1 E.out.2, rfl⟩
  · have h0 : 0 < s.size := by omega
    have hn := ne_nil_of s h0
    have hne : s.toList.isEmpty = false := by simpa using hn
    by_cases h48 : s.toList = [48]
    · have E := Lib.hid (show 0 = parQ s.data.toList ∧ 0 = parE s.data.toList by rw [← Lib.toList_data, h48]; exact ⟨rfl, rfl⟩)
      have h48' : (s.toList == [48]) = true := by simpa using h48
      have H48 := Lib.hid h48
      clear h48
      go_enter Try.func27, Try.ntmps27
      go_wp2_with fail
      go_ret2
      exact ⟨ret2 E.out.1 E.out.2, rfl⟩
    · have h48' : (s.toList == [48]) = false := by simpa using h48
      have E := Lib.hid (par_else s.data.toList (by rw [← Lib.toList_data]; exact hn) (by rw [← Lib.toList_data]; exact h48))
      have H48 := Lib.hid h48
      clear h48
      by_cases hz : s[0].toNat = 45
      · have B := Lib.hid (body_minus s h0 hz)
        have hz' : ((s[0].toNat : Int) == 45) = true := by simp; omega
        have hx : (s.extract 1 s.size).size ≤ 9223372036854775806 := by rw [ByteArray.size_extract]; omega
        have bd := valQ_bd (valS (s.extract 1 s.size))
        have b1 := bd.1
        have b2 := bd.2
        clear hz bd
        cases hB : natS (s.extract 1 s.size)
        · have F := Lib.hid (E.out.1 (by rw [← B.out.1]; exact hB))
          go_enter Try.func27, Try.ntmps27
          go_wp2_with (go_at_call 39; refine (natural_any _ _ hx).mono ?_; rintro e w' ⟨rfl, rfl⟩)
          go_ret2
          exact ⟨ret2 F.out.1 F.out.2, rfl⟩
        · have F := Lib.hid (E.out.2.1 (by rw [← B.out.1]; exact hB) B.out.2)
          rw [← B.out.1] at F
          have F : Hid (-valQ (valS (s.extract 1 s.size)) = parQ s.data.toList ∧ valE (valS (s.extract 1 s.size)) = parE s.data.toList) := F.out
          have hD := Lib.hid (natB_dig _ hB)
          go_enter Try.func27, Try.ntmps27
          go_wp2_with (first | (go_at_call 39; refine (natural_any _ _ hx).mono ?_; rintro e w' ⟨rfl, rfl⟩) | (go_at_call 40; refine (value_any _ _ hx hD.out).mono ?_; rintro e w' ⟨rfl, rfl⟩))
          go_ret2
          exact ⟨ret2 F.out.1 F.out.2, rfl⟩
      · have B := Lib.hid (body_plain s h0 hz)
        have hz' : ((s[0].toNat : Int) == 45) = false := by simp; omega
        clear hz
        cases hB : natS s
        · have F := Lib.hid (E.out.1 (by rw [← B.out.1]; exact hB))
          go_enter Try.func27, Try.ntmps27
          go_wp2_with (go_at_call 39; refine (natural_any _ _ hs).mono ?_; rintro e w' ⟨rfl, rfl⟩)
          go_ret2
          exact ⟨ret2 F.out.1 F.out.2, rfl⟩
        · have F := Lib.hid (E.out.2.2 (by rw [← B.out.1]; exact hB) B.out.2)
          rw [← B.out.1] at F
          have F : Hid (valQ (valS s) = parQ s.data.toList ∧ valE (valS s) = parE s.data.toList) := F.out
          have hD := Lib.hid (natB_dig _ hB)
          go_enter Try.func27, Try.ntmps27
          go_wp2_with (first | (go_at_call 39; refine (natural_any _ _ hs).mono ?_; rintro e w' ⟨rfl, rfl⟩) | (go_at_call 40; refine (value_any _ _ hs hD.out).mono ?_; rintro e w' ⟨rfl, rfl⟩))
          go_ret2
          exact ⟨ret2 F.out.1 F.out.2, rfl⟩
end Go.Proofs.Ythipgmdjjmgppaa
