/-
  The examples of the chapter: 'alive' of layer 4 returns true.
-/
import Derived.Test.YthfchgifkalfdaaIdROpen
namespace Go.Proofs.Ythfchgifkalfdaa.Id
open Go.RowKit

/-- Two names that the call lays. -/
theorem strs_two (W : World) (x y : ByteArray) : Strs (W.alloc (.cells #[.string x, .string y] 9)) (.slice (some ⟨W.heap.size, 0, none⟩) 2 2) [x, y] := by
  refine ⟨_, 2, rfl, fun _ => ⟨W.heap.size, 0, rfl, by simp, fun j hj => ?_⟩⟩
  match j, hj with
  | 0, _ => simp
  | 1, _ => simp

theorem stepB {w W W' : World} (h : Below w.heap.size w W) (k : Below W.heap.size W W') : Below w.heap.size w W' := h.trans (k.mono h.size)

theorem al_split (w : World) : Calls Try.prog 16 #[.string ⟨#[66, 49, 46, 65, 50]⟩] w (SplEnd w [⟨#[66, 49]⟩, ⟨#[65, 50]⟩] 0) := by
  have h := split_any ⟨#[66, 49, 46, 65, 50]⟩ w
  rw [show splL ⟨#[66, 49, 46, 65, 50]⟩ = [⟨#[66, 49]⟩, ⟨#[65, 50]⟩] by decide, show splE ⟨#[66, 49, 46, 65, 50]⟩ = 0 by decide] at h
  exact h
theorem al_join (W : World) : Calls Try.prog 19 #[.slice (some ⟨W.heap.size, 0, none⟩) 2 2] (W.alloc (.cells #[.string ⟨#[66, 49]⟩, .string ⟨#[65, 50]⟩] 9)) fun e w' => e = .returned (.tuple #[.string ⟨#[66, 49, 46, 65, 50]⟩, .int .i64 0]) ∧ Below (W.alloc (.cells #[.string ⟨#[66, 49]⟩, .string ⟨#[65, 50]⟩] 9)).heap.size (W.alloc (.cells #[.string ⟨#[66, 49]⟩, .string ⟨#[65, 50]⟩] 9)) w' := by
  have h := join_any [⟨#[66, 49]⟩, ⟨#[65, 50]⟩] _ _ (strs_two W ⟨#[66, 49]⟩ ⟨#[65, 50]⟩)
  unfold JoinEnd at h
  rw [show joinS [⟨#[66, 49]⟩, ⟨#[65, 50]⟩] = ⟨#[66, 49, 46, 65, 50]⟩ by decide, show joinE [⟨#[66, 49]⟩, ⟨#[65, 50]⟩] = 0 by decide] at h
  exact h
theorem al_join2 (W : World) : Calls Try.prog 19 #[.slice (some ⟨W.heap.size, 0, none⟩) 2 2] (W.alloc (.cells #[.string ⟨#[66, 49]⟩, .string ⟨#[50, 65]⟩] 9)) fun e w' => e = .returned (.tuple #[.string ⟨#[]⟩, .int .i64 6]) ∧ Below (W.alloc (.cells #[.string ⟨#[66, 49]⟩, .string ⟨#[50, 65]⟩] 9)).heap.size (W.alloc (.cells #[.string ⟨#[66, 49]⟩, .string ⟨#[50, 65]⟩] 9)) w' := by
  have h := join_any [⟨#[66, 49]⟩, ⟨#[50, 65]⟩] _ _ (strs_two W ⟨#[66, 49]⟩ ⟨#[50, 65]⟩)
  unfold JoinEnd at h
  rw [show joinS [⟨#[66, 49]⟩, ⟨#[50, 65]⟩] = ⟨#[]⟩ by decide, show joinE [⟨#[66, 49]⟩, ⟨#[50, 65]⟩] = 6 by decide] at h
  exact h
theorem al_seal (w : World) : Calls Try.prog 23 #[.string ⟨#[98]⟩] w fun e w' => e = .returned (.tuple #[.string ⟨#[98, 47, 57, 53]⟩, .int .i64 0]) ∧ Below w.heap.size w w' := by
  have h := seal_any ⟨#[98]⟩ w
  unfold SealEnd at h
  rw [show sealS ⟨#[98]⟩ = ⟨#[98, 47, 57, 53]⟩ by decide, show sealE ⟨#[98]⟩ = 0 by decide] at h
  exact h
theorem al_open (w : World) : Calls Try.prog 25 #[.string ⟨#[98, 47, 57, 53]⟩] w fun e w' => e = .returned (.tuple #[.string ⟨#[98]⟩, .int .i64 0]) ∧ Below w.heap.size w w' := by
  have h := open_any ⟨#[98, 47, 57, 53]⟩ w (by decide)
  unfold OpenEnd at h
  rw [show openS ⟨#[98, 47, 57, 53]⟩ = ⟨#[98]⟩ by decide, show openE ⟨#[98, 47, 57, 53]⟩ = 0 by decide] at h
  exact h
theorem al_open2 (w : World) : Calls Try.prog 25 #[.string ⟨#[98, 47, 57, 54]⟩] w fun e w' => e = .returned (.tuple #[.string ⟨#[]⟩, .int .i64 16]) ∧ Below w.heap.size w w' := by
  have h := open_any ⟨#[98, 47, 57, 54]⟩ w (by decide)
  unfold OpenEnd at h
  rw [show openS ⟨#[98, 47, 57, 54]⟩ = ⟨#[]⟩ by decide, show openE ⟨#[98, 47, 57, 54]⟩ = 16 by decide] at h
  exact h
theorem al_name (w : World) : Calls Try.prog 12 #[.string ⟨#[112, 45, 49, 95, 120]⟩] w fun e w' => e = .returned (.bool true) ∧ Below w.heap.size w w' := by
  have h := isName_any ⟨#[112, 45, 49, 95, 120]⟩ w
  rw [show nameS ⟨#[112, 45, 49, 95, 120]⟩ = true by decide] at h
  exact h
theorem al_name2 (w : World) : Calls Try.prog 12 #[.string ⟨#[49, 66]⟩] w fun e w' => e = .returned (.bool false) ∧ Below w.heap.size w w' := by
  have h := isName_any ⟨#[49, 66]⟩ w
  rw [show nameS ⟨#[49, 66]⟩ = false by decide] at h
  exact h
theorem al_id (w : World) : Calls Try.prog 14 #[.string ⟨#[66, 49, 50, 46, 112, 45, 49, 95, 120]⟩] w fun e w' => e = .returned (.bool true) ∧ Below w.heap.size w w' := by
  have h := isId_any ⟨#[66, 49, 50, 46, 112, 45, 49, 95, 120]⟩ w
  rw [show idOk ⟨#[66, 49, 50, 46, 112, 45, 49, 95, 120]⟩ = true by decide] at h
  exact h
theorem al_cmp (w : World) : Calls Try.prog 21 #[.string ⟨#[65, 50]⟩, .string ⟨#[65, 49, 48]⟩] w fun e w' => e = .returned (.int .i64 (-1)) ∧ Below w.heap.size w w' := by
  have h := compare_any ⟨#[65, 50]⟩ ⟨#[65, 49, 48]⟩ w
  rw [show nordS ⟨#[65, 50]⟩ ⟨#[65, 49, 48]⟩ = -1 by decide] at h
  exact h
theorem al_cmp2 (w : World) : Calls Try.prog 21 #[.string ⟨#[65, 48, 50]⟩, .string ⟨#[65, 50]⟩] w fun e w' => e = .returned (.int .i64 (-1)) ∧ Below w.heap.size w w' := by
  have h := compare_any ⟨#[65, 48, 50]⟩ ⟨#[65, 50]⟩ w
  rw [show nordS ⟨#[65, 48, 50]⟩ ⟨#[65, 50]⟩ = -1 by decide] at h
  exact h
theorem al_cmp3 (w : World) : Calls Try.prog 21 #[.string ⟨#[120, 57]⟩, .string ⟨#[120, 48, 57]⟩] w fun e w' => e = .returned (.int .i64 1) ∧ Below w.heap.size w w' := by
  have h := compare_any ⟨#[120, 57]⟩ ⟨#[120, 48, 57]⟩ w
  rw [show nordS ⟨#[120, 57]⟩ ⟨#[120, 48, 57]⟩ = 1 by decide] at h
  exact h
theorem al_same (v : Value) (w W : World) (hv : Strs w v [⟨#[66, 49]⟩, ⟨#[65, 50]⟩]) (hb : Below w.heap.size w W) : Calls Try.prog 18 #[v, .slice (some ⟨W.heap.size, 0, none⟩) 2 2] (W.alloc (.cells #[.string ⟨#[66, 49]⟩, .string ⟨#[65, 50]⟩] 9)) fun e w' => e = .returned (.bool true) ∧ Below (W.alloc (.cells #[.string ⟨#[66, 49]⟩, .string ⟨#[65, 50]⟩] 9)).heap.size (W.alloc (.cells #[.string ⟨#[66, 49]⟩, .string ⟨#[65, 50]⟩] 9)) w' := by
  have h := same_any [⟨#[66, 49]⟩, ⟨#[65, 50]⟩] [⟨#[66, 49]⟩, ⟨#[65, 50]⟩] _ _ _ (hv.below (hb.alloc hb.size _)) (strs_two W _ _) (by decide)
  rw [decide_eq_true rfl] at h
  exact h

set_option maxHeartbeats 2000000 in
set_option maxRecDepth 100000 in
theorem alive_any (w : World) : Calls Try.prog 11 #[] w fun e w' => e = .returned (.bool true) ∧ Below w.heap.size w w' := by
  go_enter Try.func11, Try.ntmps11
  go_wp2_with fail
  refine (al_split _).mono ?_; rintro e w1 ⟨v, rfl, hown, b1⟩
  have hv := own_strs hown
  clear hown
  go_wp2_with fail
  refine (al_join _).mono ?_; rintro e w2 ⟨rfl, b2⟩
  have hb2 := (b1.alloc b1.size _).trans (b2.mono (by have := b1.size; simp; omega))
  have hv2 := (hv.below ((Below.refl _ w1).alloc (Nat.le_refl _) _)).below b2
  clear hv b1 b2
  go_wp2_with fail
  refine (al_seal _).mono ?_; rintro e w3 ⟨rfl, b3⟩
  have hb3 := stepB hb2 b3
  have hv3 := hv2.below b3
  clear hb2 hv2 b3
  go_wp2_with fail
  refine (al_open _).mono ?_; rintro e w4 ⟨rfl, b4⟩
  have hb4 := stepB hb3 b4
  have hv4 := hv3.below b4
  clear hb3 hv3 b4
  go_wp2_with fail
  refine (al_open2 _).mono ?_; rintro e w5 ⟨rfl, b5⟩
  have hb5 := stepB hb4 b5
  have hv5 := hv4.below b5
  clear hb4 hv4 b5
  go_wp2_with fail
  refine (al_join2 _).mono ?_; rintro e w6 ⟨rfl, b6⟩
  have hb6 := stepB (hb5.alloc hb5.size _) b6
  have hv6 := (hv5.below ((Below.refl _ w5).alloc (Nat.le_refl _) _)).below b6
  clear hb5 hv5 b6
  go_wp2_with fail
  refine (al_name _).mono ?_; rintro e w7 ⟨rfl, b7⟩
  have hb7 := stepB hb6 b7
  have hv7 := hv6.below b7
  clear hb6 hv6 b7
  go_wp2_with fail
  refine (al_name2 _).mono ?_; rintro e w8 ⟨rfl, b8⟩
  have hb8 := stepB hb7 b8
  have hv8 := hv7.below b8
  clear hb7 hv7 b8
  go_wp2_with fail
  refine (al_id _).mono ?_; rintro e w9 ⟨rfl, b9⟩
  have hb9 := stepB hb8 b9
  have hv9 := hv8.below b9
  clear hb8 hv8 b9
  go_wp2_with fail
  refine (al_same _ w9 w9 hv9 (Below.refl _ _)).mono ?_; rintro e w10 ⟨rfl, b10⟩
  have hb10 := stepB (hb9.alloc hb9.size _) b10
  clear hb9 hv9 b10
  go_wp2_with fail
  refine (al_cmp _).mono ?_; rintro e w11 ⟨rfl, b11⟩
  have hb11 := stepB hb10 b11
  clear hb10 b11
  go_wp2_with fail
  refine (al_cmp2 _).mono ?_; rintro e w12 ⟨rfl, b12⟩
  have hb12 := stepB hb11 b12
  clear hb11 b12
  go_wp2_with fail
  refine (al_cmp3 _).mono ?_; rintro e w13 ⟨rfl, b13⟩
  have hb13 := stepB hb12 b13
  clear hb12 b13
  go_wp2_with fail
  go_ret
  exact ⟨rfl, hb13⟩
end Go.Proofs.Ythfchgifkalfdaa.Id
