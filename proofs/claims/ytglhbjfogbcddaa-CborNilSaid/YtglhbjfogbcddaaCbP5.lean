/-
  Contracts of the program's readText and readBool, and of its reader's tools rest, move, ready of layer 5.
-/
import Derived.Test.YtglhbjfogbcddaaCbP4
namespace Go.Proofs.Ytglhbjfogbcddaa.Cb
open Go.RowKit

theorem text_of_cnt (most : Int) (l : List UInt8) : textF most l = if (cntF 2 most l).2.2 ≠ 0 then ([], 0, (cntF 2 most l).2.2) else if l.length - (cntF 2 most l).2.1 < (argF 2 2 l).2.1 then ([], 0, 3)
    else ((l.drop (cntF 2 most l).2.1).take (argF 2 2 l).2.1, (cntF 2 most l).2.1 + (argF 2 2 l).2.1, 0) := by
  unfold textF cntF
  by_cases h : (argF 2 2 l).2.2.2 ≠ 0
  · rw [if_pos h, if_pos h, if_pos h]
  · rw [if_neg h, if_neg h]
    by_cases h2 : most < ((argF 2 2 l).2.1 : Int)
    · rw [if_pos h2, if_pos h2, if_pos (by simp)]
    · rw [if_neg h2, if_neg h2]
      simp only [ne_eq, not_true_eq_false, if_false]
set_option maxHeartbeats 1000000 in
set_option maxRecDepth 100000 in
theorem preadText_any (s : ByteArray) (most : Int) (w : World) (hs : s.size ≤ 100000) (hm : most ≤ 9223372036854775807) :
    Calls Try.prog 45 #[.string s, .int .i64 most] w (Thr (.string (toS (textF most s.data.toList).1)) (textF most s.data.toList).2.1 (textF most s.data.toList).2.2 w) := by
  have cA := Lib.hid (fun w => preadCount_any 2 s most w hs hm)
  rw [text_of_cnt]
  have hlen : s.data.toList.length = s.size := (Lib.size_eq s).symm
  obtain ⟨l, hl⟩ : ∃ l, s.data.toList = l := ⟨_, rfl⟩
  rw [hl] at cA hlen ⊢
  obtain ⟨k, v, n, x, ha⟩ : ∃ k v n x, argF 2 2 l = (k, v, n, x) := ⟨_, _, _, _, rfl⟩
  unfold Thr at cA
  by_cases hx : (cntF 2 most l).2.2 ≠ 0
  · rw [if_pos hx]
    obtain ⟨c1, c2, c3, hc⟩ : ∃ c1 c2 c3, cntF 2 most l = (c1, c2, c3) := ⟨_, _, _, rfl⟩
    rw [hc] at cA hx ⊢
    have hx2 : (c3 != 0) = true := bne_iff_ne.2 hx
    clear hx ha hl hlen hc hs hm
    go_enter Try.func45, Try.ntmps45
    go_wp2_with fail
    refine (cA.out _).mono ?_; rintro e w1 ⟨rfl, b1⟩
    go_wp2_with fail
    refine bodyPost_ret (results_tmp3 rfl _ _ _) rfl ⟨rfl, b1⟩
  · rw [if_neg hx]
    have hx0 : x = 0 := by
      apply Decidable.byContradiction
      intro h
      rw [cnt_x ha h] at hx
      exact hx h
    subst hx0
    have hgt : ¬ most < (v : Int) := fun h => by rw [cnt_4 ha h] at hx; simp at hx
    rw [cnt_v ha hgt] at cA ⊢
    rw [ha]
    have hok := arg_ok ha
    have hnl : n ≤ l.length := hok.2.2.2.1
    have hv63 : (v : Int) ≤ 9223372036854775807 := by omega
    have q1 : IntKind.i64.wrap ((s.size : Int) - (n : Int)) = (s.size : Int) - (n : Int) := IntWalk.i64_in _ (by omega)
    show Calls Try.prog _ _ w (Thr (.string (toS (if l.length - n < v then ([], 0, 3) else ((l.drop n).take v, n + v, 0)).1)) (if l.length - n < v then ([], 0, 3) else ((l.drop n).take v, n + v, 0)).2.1 (if l.length - n < v then ([], 0, (3 : Int)) else ((l.drop n).take v, n + v, 0)).2.2 w)
    by_cases hsh : l.length - n < v
    · rw [if_pos hsh]
      have hsh' : (s.size : Int) - (n : Int) < (v : Int) := by omega
      clear hx ha hl hok hm hgt hv63 hsh hnl hlen
      go_enter Try.func45, Try.ntmps45
      go_wp2_with fail
      refine (cA.out _).mono ?_; rintro e w1 ⟨rfl, b1⟩
      go_wp2_with fail
      refine bodyPost_ret (results_tmp3 rfl _ _ _) rfl ⟨rfl, b1⟩
    · rw [if_neg hsh]
      have hsh' : ¬ (s.size : Int) - (n : Int) < (v : Int) := by omega
      have hX := Lib.hid (show s.extract n (n + v) = toS ((l.drop n).take v) by
        rw [Lib.extract_eq, ← hl, show n + v - n = v by omega]; rfl)
      have p2 : IntKind.i64.wrap ((n : Int) + (v : Int)) = (n : Int) + (v : Int) := IntWalk.i64_in _ (by omega)
      have p4 : (0 : Int) ≤ (n : Int) + (v : Int) := by omega
      have p6 : (n : Int) + (v : Int) ≤ (s.size : Int) := by omega
      have p7 : (n : Int) ≤ (n : Int) + (v : Int) := by omega
      have p9 : ((n : Int) + (v : Int)).toNat = n + v := by omega
      clear hx ha hl hok hm hgt hv63 hsh hnl hlen
      go_enter Try.func45, Try.ntmps45
      go_wp2_with fail
      refine (cA.out _).mono ?_; rintro e w1 ⟨rfl, b1⟩
      go_wp2_with fail
      refine bodyPost_ret (results_tmp3 rfl _ _ _) rfl ⟨?_, b1⟩
      rw [← hX.out]; rfl

set_option maxHeartbeats 1000000 in
set_option maxRecDepth 100000 in
theorem preadBool_any (s : ByteArray) (w : World) : Calls Try.prog 46 #[.string s] w (Thr (.bool (boolF s.data.toList).1) (boolF s.data.toList).2.1 (boolF s.data.toList).2.2 w) := by
  have hlen : s.data.toList.length = s.size := (Lib.size_eq s).symm
  by_cases h0 : s.size = 0
  · have hss : s = ⟨#[]⟩ := by
      have : s.data.toList = [] := List.eq_nil_of_length_eq_zero (by omega)
      rw [← toS_data s, this]; rfl
    subst hss
    show Calls Try.prog _ _ w (Thr (.bool false) 0 3 w)
    clear h0 hlen
    go_enter Try.func46, Try.ntmps46
    go_wp2_with fail
    refine bodyPost_ret (results_tmp3 rfl _ _ _) rfl ⟨rfl, Below.refl _ _⟩
  · obtain ⟨c, r, hcr⟩ : ∃ c r, s.data.toList = c :: r := by
      cases h : s.data.toList with
      | nil => rw [h] at hlen; simp at hlen; omega
      | cons c r => exact ⟨c, r, rfl⟩
    have hn : s.toList.isEmpty = false := by rw [Lib.toList_data, hcr]; rfl
    rw [hcr, boolF]
    have hc0 : 0 < s.size := by omega
    have hc0' : (0 : Int) < (s.size : Int) := by omega
    have hs0 : s[0].toNat = c.toNat := by
      have : s.data.toList[0]? = some c := by rw [hcr]; rfl
      have h2 : s.data.toList[0]? = some s[0] := by rw [List.getElem?_eq_getElem (by rw [hlen]; exact hc0)]; rfl
      rw [h2] at this
      simp only [Option.some.injEq] at this
      rw [this]
    obtain ⟨C, hC⟩ : ∃ C, c.toNat = C := ⟨_, rfl⟩
    rw [hC] at hs0 ⊢
    clear hcr hlen h0
    by_cases h4 : C = 244
    · subst h4
      rw [if_neg (by simp)]
      go_enter Try.func46, Try.ntmps46
      go_wp2_with fail
      refine bodyPost_ret (results_tmp3 rfl _ _ _) rfl ⟨rfl, Below.refl _ _⟩
    · by_cases h5 : C = 245
      · subst h5
        rw [if_neg (by simp)]
        go_enter Try.func46, Try.ntmps46
        go_wp2_with fail
        refine bodyPost_ret (results_tmp3 rfl _ _ _) rfl ⟨rfl, Below.refl _ _⟩
      · rw [if_pos ⟨h4, h5⟩]
        have h4' : ((C : Int) != 244) = true := bne_iff_ne.2 (by omega)
        have h5' : ((C : Int) != 245) = true := bne_iff_ne.2 (by omega)
        clear h4 h5
        go_enter Try.func46, Try.ntmps46
        go_wp2_with fail
        refine bodyPost_ret (results_tmp3 rfl _ _ _) rfl ⟨rfl, Below.refl _ _⟩

/-! ### The reader's tools -/
abbrev PT : TypeId := 57
set_option maxHeartbeats 1000000 in
theorem pready_any (b at_ : Nat) (s : ByteArray) (x : Int) (w : World) (h : Rdr w b PT s at_ x) : Calls Try.prog 39 #[.pointer (some ⟨b, 0, none⟩)] w fun e w' => e = .returned (.bool (x == 0)) ∧ w = w' := by
  have h2 := h.c2
  have HR := Lib.hid h
  clear h
  go_enter Try.func39, Try.ntmps39
  go_wp2_with fail
  go_ret
  exact ⟨rfl, rfl⟩
theorem prest_any (b at_ : Nat) (s : ByteArray) (x : Int) (w : World) (h : Rdr w b PT s at_ x) (hs : s.size ≤ 100000) (hat : at_ ≤ s.size) : Calls Try.prog 41 #[.pointer (some ⟨b, 0, none⟩)] w fun e w' => e = .returned (.string (s.extract at_ s.size)) ∧ Below w.heap.size w w' := by
  have h0 := h.c0
  have h1 := h.c1
  have HR := Lib.hid h
  have hs' : (s.size : Int) ≤ 100000 := by omega
  have p1 : (at_ : Int) ≤ (s.size : Int) := by omega
  have p2 : (0 : Int) ≤ (at_ : Int) := by omega
  clear h
  go_enter Try.func41, Try.ntmps41
  go_wp2_with fail
  go_quiet (fail)
  go_wp2_with fail
  go_ret
  exact ⟨rfl, below_drewN _ _⟩
theorem rest_list (s : ByteArray) (at_ : Nat) : (s.extract at_ s.size).data.toList = s.data.toList.drop at_ := by
  rw [Lib.extract_data, List.take_of_length_le (by rw [List.length_drop, ← Lib.size_eq]; exact Nat.le_refl _)]
theorem rest_size (s : ByteArray) (at_ : Nat) (h : s.size ≤ 100000) : (s.extract at_ s.size).size ≤ 100000 := by
  rw [Lib.size_eq, rest_list, List.length_drop, ← Lib.size_eq]; omega
/-- A function without a result, of the reader. -/
def MvEnd (b : Nat) (s : ByteArray) (at' : Nat) (x' : Int) (w : World) (e : Ending) (w' : World) : Prop := e = .returned (.tuple #[]) ∧ Rdr w' b PT s at' x' ∧ w.grownBy w' (some b)
set_option maxHeartbeats 1000000 in
theorem pmove_any (b at_ n : Nat) (s : ByteArray) (x0 x : Int) (w : World) (h : Rdr w b PT s at_ x0) (hs : s.size ≤ 100000) (hat : at_ + n ≤ s.size) : Calls Try.prog 42 #[.pointer (some ⟨b, 0, none⟩), .int .i64 (n : Int), .int .i64 x] w (MvEnd b s (at_ + n) x w) := by
  have h1 := h.c1
  have h2 := h.c2
  have f1 := h.fz 1
  have f2 := h.fz 2
  have q : IntKind.i64.wrap ((at_ : Int) + (n : Int)) = (at_ : Int) + (n : Int) := IntWalk.i64_in _ (by omega)
  have HR := Lib.hid h
  clear h hs hat
  go_enter Try.func42, Try.ntmps42
  go_wp2_with fail
  refine bodyPost_end (results_none rfl _ _ _) rfl ?_
  exact ⟨rfl, (HR.out.set1 (at_ + n)).set2 x, grown_trans (grown_set _ _ _ _) (grown_set _ _ _ _)⟩
end Go.Proofs.Ytglhbjfogbcddaa.Cb
