/-
  Contract of the reference's pair.
-/
import Derived.Test.YthfchgifkalfdaaIdPair
namespace Go.Proofs.Ythfchgifkalfdaa.Id
open Go.RowKit

theorem cmpS_one {x y : ByteArray} (h1 : 0 < x.size) (h2 : 0 < y.size) (h : digU x[0] = false ∨ digU y[0] = false) : cmpS (x.extract 0 1) (y.extract 0 1) = pairS x y := by
  unfold pairS pairV
  rw [head_data x h1, head_data y h2, if_neg (by
    rintro ⟨a, b⟩
    rcases h with h | h
    · rw [h] at a; cases a
    · rw [h] at b; cases b)]
  unfold cmpS
  rw [Lib.extract_data, Lib.extract_data]; rfl

set_option maxHeartbeats 400000 in
set_option maxRecDepth 100000 in
theorem rpair_any (x y : ByteArray) (w : World) (h1 : 0 < x.size) (h2 : 0 < y.size) :
    Calls Try.prog 36 #[.string x, .string y] w fun e w' => e = .returned (.int .i64 (pairS x y)) ∧ Below w.heap.size w w' := by
  obtain ⟨d1, hd1⟩ : ∃ d, digZ (x[0].toNat : Int) = d := ⟨_, rfl⟩
  obtain ⟨d2, hd2⟩ : ∃ d, digZ (y[0].toNat : Int) = d := ⟨_, rfl⟩
  have c1 : Hid (∀ W, Calls Try.prog 30 #[.int .u8 (x[0].toNat : Int)] W fun e w' => e = .returned (.bool d1) ∧ W = w') := fun W => by rw [← hd1]; exact rdigit_any _ W
  have c2 : Hid (∀ W, Calls Try.prog 30 #[.int .u8 (y[0].toNat : Int)] W fun e w' => e = .returned (.bool d2) ∧ W = w') := fun W => by rw [← hd2]; exact rdigit_any _ W
  have k1 : (1 : Int) ≤ (x.size : Int) := by omega
  have k2 : (1 : Int) ≤ (y.size : Int) := by omega
  cases d1
  · have E := Lib.hid (cmpS_one h1 h2 (Or.inl hd1))
    clear hd1 hd2
    go_enter Try.func36, Try.ntmps36
    go_wp2_with fail
    refine (c1.out _).mono ?_; rintro e w1 ⟨rfl, rfl⟩
    go_wp2_with fail
    go_quiet (first | (go_at_call 37; refine Calls.quiet_of_same ((rbytes_any _ _ _).mono fun _ _ h => ⟨h.1, h.2.symm⟩)))
    go_wp2_with fail
    go_ret
    exact ⟨by rw [← E.out]; rfl, below_drewN _ _⟩
  · cases d2
    · have E := Lib.hid (cmpS_one h1 h2 (Or.inr hd2))
      clear hd1 hd2
      go_enter Try.func36, Try.ntmps36
      go_wp2_with fail
      refine (c1.out _).mono ?_; rintro e w1 ⟨rfl, rfl⟩
      go_wp2_with fail
      refine (c2.out _).mono ?_; rintro e w1 ⟨rfl, rfl⟩
      go_wp2_with fail
      go_quiet (first | (go_at_call 37; refine Calls.quiet_of_same ((rbytes_any _ _ _).mono fun _ _ h => ⟨h.1, h.2.symm⟩)))
      go_wp2_with fail
      go_ret
      exact ⟨by rw [← E.out]; rfl, below_drewN _ _⟩
    · have E := Lib.hid (pairS_num h1 h2 hd1 hd2)
      clear hd1 hd2
      have F1 := Lib.hid (fun h => E.out.trans (numS_lt (x := x) (y := y) h))
      have F2 := Lib.hid (fun h => E.out.trans (numS_gt (x := x) (y := y) h))
      have F3 := Lib.hid (fun h h' => E.out.trans (numS_eq (x := x) (y := y) h h'))
      have s1 := Lib.hid (fun w => plain_any x w)
      have s2 := Lib.hid (fun w => plain_any y w)
      obtain ⟨sx, hsx⟩ : ∃ sx, sigS x = sx := ⟨_, rfl⟩
      obtain ⟨sy, hsy⟩ : ∃ sy, sigS y = sy := ⟨_, rfl⟩
      rw [hsx] at F1 F2 F3 s1
      rw [hsy] at F1 F2 F3 s2
      clear hsx hsy E
      go_enter Try.func36, Try.ntmps36
      go_wp2_with fail
      refine (c1.out _).mono ?_; rintro e w1 ⟨rfl, rfl⟩
      go_wp2_with fail
      refine (c2.out _).mono ?_; rintro e w1 ⟨rfl, rfl⟩
      go_wp2_with fail
      refine (s1.out _).mono ?_; rintro e w1 ⟨rfl, rfl⟩
      go_wp2_with fail
      refine (s2.out _).mono ?_; rintro e w2 ⟨rfl, rfl⟩
      by_cases l1 : sx.size < sy.size
      · have l1' : (sx.size : Int) < (sy.size : Int) := by omega
        have ln : ((sx.size : Int) != (sy.size : Int)) = true := bne_iff_ne.2 (by omega)
        have F := Lib.hid (F1.out l1)
        clear l1 F1 F2 F3
        go_wp2_with fail
        go_ret
        exact ⟨by rw [F.out]; rfl, Below.refl _ _⟩
      · have l1' : ¬ (sx.size : Int) < (sy.size : Int) := by omega
        by_cases l2 : sy.size < sx.size
        · have ln : ((sx.size : Int) != (sy.size : Int)) = true := bne_iff_ne.2 (by omega)
          have F := Lib.hid (F2.out l2)
          clear l1 l2 F1 F2 F3
          go_wp2_with fail
          go_ret
          exact ⟨by rw [F.out]; rfl, Below.refl _ _⟩
        · have ln : ((sx.size : Int) != (sy.size : Int)) = false := by rw [show (sx.size : Int) = (sy.size : Int) by omega]; simp
          have F := Lib.hid (F3.out l1 l2)
          clear l1 l2 F1 F2 F3
          go_wp2_with fail
          refine (rbytes_any _ _ _).mono ?_; rintro e w3 ⟨rfl, rfl⟩
          go_wp2_with fail
          go_ret
          exact ⟨by rw [F.out]; rfl, Below.refl _ _⟩
end Go.Proofs.Ythfchgifkalfdaa.Id
