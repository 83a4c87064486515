/-
  The chapter's bytes: 'awake' of layer 5 returns true.
-/
import Derived.Test.YtglhbjfogbcddaaCbPR
namespace Go.Proofs.Ytglhbjfogbcddaa.Cb
open Go.RowKit

theorem PR.below {w w' : World} {b : Nat} {s : ByteArray} {at_ : Nat} {x : Int} (h : PR w b s at_ x) (k : Below w.heap.size w w') : PR w' b s at_ x := h.keep (k.block b h.lt)
theorem PR.grown {w w' : World} {b c : Nat} {s : ByteArray} {at_ : Nat} {x : Int} (h : PR w b s at_ x) (k : w.grownBy w' (some c)) (hn : b ≠ c) : PR w' b s at_ x := h.keep (k.block b h.lt (fun e => hn (Option.some.inj e)))
/-- A call that turns a block of ours. -/
theorem stepR {w W W' : World} {b : Nat} (h : Below w.heap.size w W) (k : W.grownBy W' (some b)) (hb : w.heap.size ≤ b) : Below w.heap.size w W' := h.grown k h.size (fun j hj => by cases hj; exact hb)
theorem aw_int (b : Nat) (s : ByteArray) (low high v : Int) (n : Nat) (x' : Int) (w : World) (h : PR w b s 0 0) (hs : s.size ≤ 100000) (he : intF low high s.data.toList = (v, n, x')) :
    Calls Try.prog 22 #[.pointer (some ⟨b, 0, none⟩), .int .i64 low, .int .i64 high] w (PEnd b s (.int .i64 v) n x' w) := by
  have c := qInt_any b 0 s 0 low high w h hs (Nat.zero_le _)
  unfold intR at c
  rw [if_pos rfl, List.drop_zero, he, Nat.zero_add] at c
  exact c

set_option maxHeartbeats 2000000 in
set_option maxRecDepth 100000 in
theorem awake_any (w : World) : Calls Try.prog 11 #[] w fun e w' => e = .returned (.bool true) ∧ Below w.heap.size w w' := by
  have i1 := Lib.hid (fun w => qint_any 24 w (by decide) (by decide))
  rw [show toS (intE 24) = ⟨#[24, 24]⟩ by decide] at i1
  have i2 := Lib.hid (fun w => qint_any (-1) w (by decide) (by decide))
  rw [show toS (intE (-1)) = ⟨#[32]⟩ by decide] at i2
  have i3 := Lib.hid (fun w => qtext_any ⟨#[97]⟩ w (by decide))
  rw [show toS (textE (⟨#[97]⟩ : ByteArray).data.toList) = ⟨#[65, 97]⟩ by decide] at i3
  have i4 := Lib.hid (fun w => qlist_any 3 w (by decide))
  rw [show toS (listE 3) = ⟨#[131]⟩ by decide] at i4
  have i5 := Lib.hid (fun w => qbool_any true w)
  rw [show toS (boolE true) = ⟨#[245]⟩ by decide] at i5
  go_enter Try.func11, Try.ntmps11
  go_wp2_with fail
  refine (qNew_any _ _).mono ?_; rintro e w1 ⟨b, rfl, r1, hb, k1⟩
  go_wp2_with fail
  refine (qNew_any _ _).mono ?_; rintro e w2 ⟨d, rfl, r2, hd, k2⟩
  have hbd : b ≠ d := by have := r1.lt; omega
  have r1 := r1.below k2
  have hd' : w.heap.size ≤ d := Nat.le_trans k1.size hd
  have k3 := stepB k1 k2
  clear k1 k2 hd
  go_wp2_with fail
  refine (aw_int b _ 0 99 0 0 5 _ r1 (by decide) (by decide)).mono ?_; rintro e w3 ⟨rfl, r3, g3⟩
  have r2 := r2.grown g3 (Ne.symm hbd)
  have k4 := stepR k3 g3 hb
  clear r1 k3 g3
  go_wp2_with fail
  refine (aw_int d _ 0 9 1 1 0 _ r2 (by decide) (by decide)).mono ?_; rintro e w4 ⟨rfl, r4, g4⟩
  have r3 := r3.grown g4 hbd
  have k5 := stepR k4 g4 hd'
  clear r2 k4 g4
  go_wp2_with fail
  refine (i1.out _).mono ?_; rintro e w5 ⟨rfl, q1⟩
  have k6 := stepB k5 q1
  have r3 := r3.below q1
  have r4 := r4.below q1
  clear k5 q1
  go_wp2_with fail
  refine (i2.out _).mono ?_; rintro e w6 ⟨rfl, q1⟩
  have k7 := stepB k6 q1
  have r3 := r3.below q1
  have r4 := r4.below q1
  clear k6 q1
  go_wp2_with fail
  refine (i3.out _).mono ?_; rintro e w7 ⟨rfl, q1⟩
  have k8 := stepB k7 q1
  have r3 := r3.below q1
  have r4 := r4.below q1
  clear k7 q1
  go_wp2_with fail
  refine (i4.out _).mono ?_; rintro e w8 ⟨rfl, q1⟩
  have k9 := stepB k8 q1
  have r3 := r3.below q1
  have r4 := r4.below q1
  clear k8 q1
  go_wp2_with fail
  refine (i5.out _).mono ?_; rintro e w9 ⟨rfl, q1⟩
  have k10 := stepB k9 q1
  have r3 := r3.below q1
  have r4 := r4.below q1
  clear k9 q1
  go_wp2_with fail
  refine (qErr_any b _ _ _ _ r3).mono ?_; rintro e w10 ⟨rfl, q1⟩
  have k11 := stepB k10 q1
  have r3 := r3.below q1
  have r4 := r4.below q1
  clear k10 q1
  go_wp2_with fail
  refine (qLeft_any b _ _ _ _ r3 (by decide) (by decide)).mono ?_; rintro e w11 ⟨rfl, q1⟩
  have k12 := stepB k11 q1
  have r4 := r4.below q1
  clear k11 q1 r3
  go_wp2_with fail
  refine (qLeft_any d _ _ _ _ r4 (by decide) (by decide)).mono ?_; rintro e w12 ⟨rfl, q1⟩
  have k13 := stepB k12 q1
  have r4 := r4.below q1
  clear k12 q1
  go_wp2_with fail
  refine (qEnd_any d _ _ _ _ r4 (fun _ => ⟨by decide, by decide⟩)).mono ?_; rintro e w13 ⟨rfl, q1⟩
  have k14 := stepB k13 q1
  clear k13 q1 r4
  go_wp2_with fail
  go_ret
  exact ⟨rfl, k14⟩
end Go.Proofs.Ytglhbjfogbcddaa.Cb
