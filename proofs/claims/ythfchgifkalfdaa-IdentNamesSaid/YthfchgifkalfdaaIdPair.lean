/-
  Contracts of compareElements and of the reference's pair.
-/
import Derived.Test.YthfchgifkalfdaaIdElem2
namespace Go.Proofs.Ythfchgifkalfdaa.Id
open Go.RowKit

def pairS (x y : ByteArray) : Int := pairV x.data.toList y.data.toList
theorem numS_lt {x y : ByteArray} (h : (sigS x).size < (sigS y).size) : numV (sigL x.data.toList) (sigL y.data.toList) = -1 := by
  unfold numV
  rw [if_pos (by rw [Lib.size_eq, Lib.size_eq] at h; exact h)]
theorem numS_gt {x y : ByteArray} (h : (sigS y).size < (sigS x).size) : numV (sigL x.data.toList) (sigL y.data.toList) = 1 := by
  unfold numV
  rw [Lib.size_eq, Lib.size_eq] at h
  change (sigL y.data.toList).length < (sigL x.data.toList).length at h
  rw [if_neg (by omega), if_pos h]
theorem numS_eq {x y : ByteArray} (h1 : ¬ (sigS x).size < (sigS y).size) (h2 : ¬ (sigS y).size < (sigS x).size) : numV (sigL x.data.toList) (sigL y.data.toList) = cmpS (sigS x) (sigS y) := by
  unfold numV
  rw [Lib.size_eq, Lib.size_eq] at h1 h2
  change ¬ (sigL x.data.toList).length < (sigL y.data.toList).length at h1
  change ¬ (sigL y.data.toList).length < (sigL x.data.toList).length at h2
  rw [if_neg h1, if_neg h2]; rfl
theorem pairS_plain {x y : ByteArray} (hx : IsEl x.data.toList) (hy : IsEl y.data.toList) (h1 : 0 < x.size) (h2 : 0 < y.size) (h : digU x[0] = false ∨ digU y[0] = false) : cmpS x y = pairS x y := by
  apply pairV_plain hx hy
  rw [head_data x h1, head_data y h2]
  rintro ⟨a, b⟩
  rcases h with h | h
  · rw [h] at a; cases a
  · rw [h] at b; cases b
theorem pairS_num {x y : ByteArray} (h1 : 0 < x.size) (h2 : 0 < y.size) (a : digU x[0] = true) (b : digU y[0] = true) : pairS x y = numV (sigL x.data.toList) (sigL y.data.toList) :=
  pairV_num (by rw [head_data x h1]; exact a) (by rw [head_data y h2]; exact b)
theorem isEl_size {x : ByteArray} (hx : IsEl x.data.toList) : 0 < x.size := by have := hx.1; rw [len_data] at this; exact this

theorem wrap32_byte (c : UInt8) : wrap32 (c.toNat : Int) = (c.toNat : Int) := by have := c.toNat_lt; unfold wrap32; omega

set_option maxHeartbeats 400000 in
set_option maxRecDepth 100000 in
theorem cmpElems_any (x y : ByteArray) (w : World) (hx : IsEl x.data.toList) (hy : IsEl y.data.toList) :
    Calls Try.prog 33 #[.string x, .string y] w fun e w' => e = .returned (.int .i64 (pairS x y)) ∧ Below w.heap.size w w' := by
  have h1 := isEl_size hx
  have h2 := isEl_size hy
  obtain ⟨d1, hd1⟩ : ∃ d, digZ (x[0].toNat : Int) = d := ⟨_, rfl⟩
  obtain ⟨d2, hd2⟩ : ∃ d, digZ (y[0].toNat : Int) = d := ⟨_, rfl⟩
  have c1 : Hid (∀ W, Calls Try.prog 28 #[.int .i32 (wrap32 (x[0].toNat : Int))] W fun e w' => e = .returned (.bool d1) ∧ W = w') := fun W => by rw [wrap32_byte, ← hd1]; exact isDigit_any _ W
  have c2 : Hid (∀ W, Calls Try.prog 28 #[.int .i32 (wrap32 (y[0].toNat : Int))] W fun e w' => e = .returned (.bool d2) ∧ W = w') := fun W => by rw [wrap32_byte, ← hd2]; exact isDigit_any _ W
  cases d1
  · have E := Lib.hid (pairS_plain hx hy h1 h2 (Or.inl hd1))
    clear hd1 hd2 hx hy
    go_enter Try.func33, Try.ntmps33
    go_wp2_with fail
    refine (c1.out _).mono ?_; rintro e w1 ⟨rfl, rfl⟩
    go_wp2_with fail
    refine (cmpBytes_any _ _ _).mono ?_; rintro e w1 ⟨rfl, rfl⟩
    go_wp2_with fail
    go_ret
    exact ⟨by rw [← E.out]; rfl, Below.refl _ _⟩
  · cases d2
    · have E := Lib.hid (pairS_plain hx hy h1 h2 (Or.inr hd2))
      clear hd1 hd2 hx hy
      go_enter Try.func33, Try.ntmps33
      go_wp2_with fail
      refine (c1.out _).mono ?_; rintro e w1 ⟨rfl, rfl⟩
      go_wp2_with fail
      refine (c2.out _).mono ?_; rintro e w1 ⟨rfl, rfl⟩
      go_wp2_with fail
      refine (cmpBytes_any _ _ _).mono ?_; rintro e w1 ⟨rfl, rfl⟩
      go_wp2_with fail
      go_ret
      exact ⟨by rw [← E.out]; rfl, Below.refl _ _⟩
    · have E := Lib.hid (pairS_num h1 h2 hd1 hd2)
      clear hd1 hd2 hx hy
      have F1 := Lib.hid (fun h => E.out.trans (numS_lt (x := x) (y := y) h))
      have F2 := Lib.hid (fun h => E.out.trans (numS_gt (x := x) (y := y) h))
      have F3 := Lib.hid (fun h h' => E.out.trans (numS_eq (x := x) (y := y) h h'))
      have s1 := Lib.hid (fun w => signif_any x w)
      have s2 := Lib.hid (fun w => signif_any y w)
      obtain ⟨sx, hsx⟩ : ∃ sx, sigS x = sx := ⟨_, rfl⟩
      obtain ⟨sy, hsy⟩ : ∃ sy, sigS y = sy := ⟨_, rfl⟩
      rw [hsx] at F1 F2 F3 s1
      rw [hsy] at F1 F2 F3 s2
      clear hsx hsy E
      go_enter Try.func33, Try.ntmps33
      go_wp2_with fail
      refine (c1.out _).mono ?_; rintro e w1 ⟨rfl, rfl⟩
      go_wp2_with fail
      refine (c2.out _).mono ?_; rintro e w1 ⟨rfl, rfl⟩
      go_wp2_with fail
      refine (s1.out _).mono ?_; rintro e w1 ⟨rfl, b1⟩
      go_wp2_with fail
      refine (s2.out _).mono ?_; rintro e w2 ⟨rfl, b2⟩
      by_cases l1 : sx.size < sy.size
      · have l1' : (sx.size : Int) < (sy.size : Int) := by omega
        have F := Lib.hid (F1.out l1)
        clear l1 F1 F2 F3
        go_wp2_with fail
        go_ret
        exact ⟨by rw [F.out]; rfl, b1.trans (b2.mono b1.size)⟩
      · have l1' : ¬ (sx.size : Int) < (sy.size : Int) := by omega
        by_cases l2 : sy.size < sx.size
        · have l2' : (sy.size : Int) < (sx.size : Int) := by omega
          have F := Lib.hid (F2.out l2)
          clear l1 l2 F1 F2 F3
          go_wp2_with fail
          go_ret
          exact ⟨by rw [F.out]; rfl, b1.trans (b2.mono b1.size)⟩
        · have l2' : ¬ (sy.size : Int) < (sx.size : Int) := by omega
          have F := Lib.hid (F3.out l1 l2)
          clear l1 l2 F1 F2 F3
          go_wp2_with fail
          refine (cmpBytes_any _ _ _).mono ?_; rintro e w3 ⟨rfl, rfl⟩
          go_wp2_with fail
          go_ret
          exact ⟨by rw [F.out]; rfl, b1.trans (b2.mono b1.size)⟩
end Go.Proofs.Ythfchgifkalfdaa.Id
