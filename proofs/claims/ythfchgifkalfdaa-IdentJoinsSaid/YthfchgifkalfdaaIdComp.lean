/-
  Contracts of Compare and of the reference's Compare.
-/
import Derived.Test.YthfchgifkalfdaaIdRPair
import Derived.Deep.RegionWith
namespace Go.Proofs.Ythfchgifkalfdaa.Id
open Go.RowKit

theorem first_data (x : ByteArray) : (firstS x).data.toList = x.data.toList.take (elN x.data.toList) := by
  unfold firstS
  rw [Lib.extract_data, List.drop_zero, Nat.sub_zero]
theorem first_isEl {x : ByteArray} (h : 0 < x.size) : IsEl (firstS x).data.toList := by
  rw [first_data]
  exact isEl_take _ (by rw [len_data]; exact h)
/-- What is left behind the first element. -/
def restS (x : ByteArray) : ByteArray := x.extract (elN x.data.toList) x.size
theorem rest_data (x : ByteArray) : (restS x).data.toList = x.data.toList.drop (elN x.data.toList) := data_drop x _
theorem rest_size {x : ByteArray} (h : 0 < x.size) : (restS x).size < x.size := by
  unfold restS
  rw [size_drop]
  have := elN_pos x.data.toList
  omega
theorem elN_size {x : ByteArray} (h : 0 < x.size) : elN x.data.toList ≤ x.size := by
  have := elN_le x.data.toList (by rw [len_data]; exact h)
  rwa [len_data] at this
/-- What the loop keeps: the elements that were compared are equal. -/
def OrdInv (a b x y : ByteArray) : Prop := Hid (lexE (elsL a.data.toList) (elsL b.data.toList) = lexE (elsL x.data.toList) (elsL y.data.toList))
theorem OrdInv.found {a b x y : ByteArray} (h : OrdInv a b x y) (hx : 0 < x.size) (hy : 0 < y.size) {n : Int} (hn : pairS (firstS x) (firstS y) = n) (h0 : n ≠ 0) : nordS a b = n := by
  have e : lexE (elsL a.data.toList) (elsL b.data.toList) = n := by
    rw [h.out, lexE_step _ _ (by rw [len_data]; exact hx) (by rw [len_data]; exact hy), ← first_data, ← first_data]
    change (if pairS (firstS x) (firstS y) ≠ 0 then pairS (firstS x) (firstS y) else _) = n
    rw [hn, if_pos h0]
  unfold nordS nordV
  rw [e, if_pos h0]
theorem OrdInv.next {a b x y : ByteArray} (h : OrdInv a b x y) (hx : 0 < x.size) (hy : 0 < y.size) (hn : pairS (firstS x) (firstS y) = 0) : OrdInv a b (restS x) (restS y) := by
  show _ = _
  rw [h.out, lexE_step _ _ (by rw [len_data]; exact hx) (by rw [len_data]; exact hy), ← first_data, ← first_data, rest_data, rest_data]
  change (if pairS (firstS x) (firstS y) ≠ 0 then _ else _) = _
  rw [hn, if_neg (by simp)]
theorem data_nil {x : ByteArray} (h : x.size = 0) : x.data.toList = [] := List.eq_nil_of_length_eq_zero (by rw [len_data]; exact h)
theorem OrdInv.left {a b x y : ByteArray} (h : OrdInv a b x y) (hx : 0 < x.size) (hy : y.size = 0) : nordS a b = 1 := by
  have e := h.out
  rw [data_nil hy, lexE_left _ (by rw [len_data]; exact hx)] at e
  unfold nordS nordV
  rw [e]; rfl
theorem OrdInv.right {a b x y : ByteArray} (h : OrdInv a b x y) (hx : x.size = 0) (hy : 0 < y.size) : nordS a b = -1 := by
  have e := h.out
  rw [data_nil hx, lexE_right _ (by rw [len_data]; exact hy)] at e
  unfold nordS nordV
  rw [e]; rfl
theorem OrdInv.both {a b x y : ByteArray} (h : OrdInv a b x y) (hx : x.size = 0) (hy : y.size = 0) : nordS a b = cmpS a b := by
  have e := h.out
  rw [data_nil hx, data_nil hy] at e
  unfold nordS nordV
  rw [e]; rfl
theorem nil_toList {x : ByteArray} (h : x.size = 0) : x.toList = [] := by rw [Lib.toList_data, data_nil h]
theorem ne_toList {x : ByteArray} (h : 0 < x.size) : x.toList.isEmpty = false := by
  rw [Lib.toList_data, List.isEmpty_eq_false_iff]; intro e; have := len_data x; rw [e] at this; simp at this; omega
theorem below_drew' {B : Nat} {a w : World} (h : Below B a w) (q : Nat) : Below B a (w.drewN q) := ⟨h.os, h.tape, h.output, h.size, h.block⟩

set_option maxHeartbeats 1000000 in
set_option maxRecDepth 100000 in
theorem compare_any (a b : ByteArray) (w : World) : Calls Try.prog 21 #[.string a, .string b] w fun e w' => e = .returned (.int .i64 (nordS a b)) ∧ Below w.heap.size w w' := by
  go_enter Try.func21, Try.ntmps21
  go_wp2_with fail
  go_loopw [5, 6] (fun v u wr => ∃ x y : ByteArray, v = .string x ∧ u = .string y ∧ Below w.heap.size w wr ∧ OrdInv a b x y) (fun v _ _ => lenOf v)
  case atStart => exact ⟨a, b, rfl, rfl, Below.refl _ _, rfl⟩
  case round =>
    obtain ⟨x, y, rfl, rfl, hbw, hinv⟩ := hrel
    by_cases hx : 0 < x.size
    · by_cases hy : 0 < y.size
      · have nx := ne_toList hx
        have ny := ne_toList hy
        have ex := elN_size hx
        have ey := elN_size hy
        have HX := Lib.hid (fun w => element_any x w hx)
        have HY := Lib.hid (fun w => element_any y w hy)
        have cE := Lib.hid (fun w => cmpElems_any (firstS x) (firstS y) w (first_isEl hx) (first_isEl hy))
        have F1 := Lib.hid (fun n hn h0 => hinv.found hx hy (n := n) hn h0)
        have F2 := Lib.hid (fun hn => hinv.next hx hy hn)
        have hrs := Lib.hid (rest_size hx)
        unfold firstS at cE F1 F2
        unfold restS at F2 hrs
        obtain ⟨p, hp⟩ : ∃ p, elN x.data.toList = p := ⟨_, rfl⟩
        obtain ⟨q, hq⟩ : ∃ q, elN y.data.toList = q := ⟨_, rfl⟩
        rw [hp] at ex HX cE F1 F2 hrs
        rw [hq] at ey HY cE F1 F2
        obtain ⟨n, hn⟩ : ∃ n, pairS (x.extract 0 p) (y.extract 0 q) = n := ⟨_, rfl⟩
        rw [hn] at cE F1 F2
        have ex' : (p : Int) ≤ (x.size : Int) := by omega
        have ey' : (q : Int) ≤ (y.size : Int) := by omega
        clear hp hq hinv hn
        go_wp2_with fail
        refine (HX.out _).mono ?_; rintro e w1 ⟨rfl, b1⟩
        go_wp2_with fail
        refine (HY.out _).mono ?_; rintro e w2 ⟨rfl, b2⟩
        have hb2 := hbw.trans ((b1.trans (b2.mono b1.size)).mono hbw.size)
        clear hbw b1 b2
        go_wp2_with fail
        go_region_with (go_at_call 33; refine (cE.out _).mono ?_; rintro e w3 ⟨rfl, b3⟩)
        have hb3 : Below w.heap.size w w3 := (hb2.drew).trans (b3.mono hb2.size)
        clear hb2 b3 cE HX HY
        by_cases h0 : n = 0
        · subst h0
          have HI := Lib.hid (F2.out (by trivial))
          clear F1 F2
          simp only [Act.put]
          go_wp2_with fail
          go_quiet (fail)
          go_wp2_with fail
          exact ⟨⟨_, _, rfl, rfl, below_drew' hb3 _, HI.out⟩, hrs.out⟩
        · have h0' : (n != 0) = true := bne_iff_ne.2 h0
          have HF := Lib.hid (F1.out n (by trivial) h0)
          clear F1 F2 h0
          simp only [Act.put]
          go_wp2_with fail
          go_ret
          exact ⟨by rw [HF.out]; rfl, hb3⟩
      · have nx := ne_toList hx
        have ny := nil_toList (x := y) (by omega)
        have HF := Lib.hid (hinv.left hx (by omega))
        clear hinv
        go_wp2_with fail
        go_ret
        exact ⟨by rw [HF.out]; rfl, hbw⟩
    · have nx := nil_toList (x := x) (by omega)
      by_cases hy : 0 < y.size
      · have ny := ne_toList hy
        have HF := Lib.hid (hinv.right (by omega) hy)
        clear hinv
        go_wp2_with fail
        go_ret
        exact ⟨by rw [HF.out]; rfl, hbw⟩
      · have ny := nil_toList (x := y) (by omega)
        have HF := Lib.hid (hinv.both (by omega) (by omega))
        clear hinv
        go_wp2_with fail
        refine (cmpBytes_any _ _ _).mono ?_; rintro e w3 ⟨rfl, rfl⟩
        go_wp2_with fail
        go_ret
        exact ⟨by rw [HF.out]; rfl, hbw⟩
end Go.Proofs.Ythfchgifkalfdaa.Id
