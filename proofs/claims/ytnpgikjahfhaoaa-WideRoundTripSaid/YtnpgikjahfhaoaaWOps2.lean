/-
  The program's Int and Valid.
-/
import Derived.Test.YtnpgikjahfhaoaaWOps1
import Derived.Test.YtnpgikjahfhaoaaWDivide
import Derived.Deep.RegionWith
namespace Go.Proofs.Ytnpgikjahfhaoaa
open Go.RowKit Go.Proofs.WM Go.Proofs.Reg

theorem ret2v {a b c d : Value} (h1 : a = c) (h2 : b = d) : Ending.returned (.tuple #[a, b]) = .returned (.tuple #[c, d]) := by rw [h1, h2]
theorem eq_low23 (n : Nat) (hn : n < M256) (w : World) : (Op.equalIn 10000 23 (.agg (magL n)) (.agg #[.int .u64 ((wd n 0 : Nat) : Int), .int .u64 0, .int .u64 0, .int .u64 0])).run Try.prog w = .ok (decide (n < 18446744073709551616)) w := by
  rw [magL_small _ (wd_lt n 0), eq_arr n (wd n 0) hn (wd0_lt n), low_eq]

theorem pint_any (s : Bool) (n : Nat) (w : World) (hn : n < M256) :
    Calls Try.prog 13 #[.agg (widL s n)] w (Gives (.tuple #[.int .i64 (intV s n), .bool (intB s n)]) w) := by
  have he := fun wx => eq_low23 n hn wx
  by_cases h1 : n < 18446744073709551616
  · rw [show decide (n < 18446744073709551616) = true from decide_eq_true h1] at he
    have F0 := Lib.hid (wd0_small h1)
    unfold magL at he
    unfold widL
    rw [F0.out] at he ⊢
    cases s
    · by_cases h2 : n ≤ 9223372036854775807
      · have t : decide ((n : Int) ≤ 9223372036854775807) = true := by simp; omega
        have v : IntKind.i64.wrap (n : Int) = (n : Int) := by rw [IntKind.wrap_i64]; omega
        have E1 := Lib.hid (show (n : Int) = intV false n by unfold intV; rw [if_neg (by simp), if_pos ⟨rfl, h2⟩])
        have E2 := Lib.hid (show true = intB false n by simp [intB, h2])
        clear hn h1 h2
        go_enter Try.func13, Try.ntmps13
        go_wp2
        go_ret2
        exact ⟨ret2v (by rw [← E1.out]; rfl) (by rw [← E2.out]; rfl), below1 _ _⟩
      · have t : decide ((n : Int) ≤ 9223372036854775807) = false := by simp; omega
        have E1 := Lib.hid (show 0 = intV false n by unfold intV; rw [if_neg (by simp), if_neg (by simp; omega)])
        have E2 := Lib.hid (show false = intB false n by simp [intB]; omega)
        clear hn h1 h2
        go_enter Try.func13, Try.ntmps13
        go_wp2
        go_ret2
        exact ⟨ret2v (by rw [← E1.out]; rfl) (by rw [← E2.out]; rfl), below1 _ _⟩
    · by_cases h2 : n ≤ 9223372036854775808
      · have t : decide ((n : Int) ≤ 9223372036854775808) = true := by simp; omega
        have v : IntKind.i64.wrap (IntKind.u64.wrap (-(n : Int))) = -(n : Int) := by rw [IntKind.wrap_i64, IntKind.wrap_u64]; omega
        have E1 := Lib.hid (show -(n : Int) = intV true n by unfold intV; rw [if_pos ⟨rfl, h2⟩])
        have E2 := Lib.hid (show true = intB true n by simp [intB, h2])
        clear hn h1 h2
        go_enter Try.func13, Try.ntmps13
        go_wp2
        go_ret2
        exact ⟨ret2v (by rw [← E1.out]; rfl) (by rw [← E2.out]; rfl), below1 _ _⟩
      · have t : decide ((n : Int) ≤ 9223372036854775808) = false := by simp; omega
        have E1 := Lib.hid (show 0 = intV true n by unfold intV; rw [if_neg (by simp; omega), if_neg (by simp)])
        have E2 := Lib.hid (show false = intB true n by simp [intB]; omega)
        clear hn h1 h2
        go_enter Try.func13, Try.ntmps13
        go_wp2
        go_ret2
        exact ⟨ret2v (by rw [← E1.out]; rfl) (by rw [← E2.out]; rfl), below1 _ _⟩
  · rw [show decide (n < 18446744073709551616) = false from decide_eq_false h1] at he
    have E1 := Lib.hid (show 0 = intV s n by unfold intV; rw [if_neg (by omega), if_neg (by omega)])
    have E2 := Lib.hid (show false = intB s n by unfold intB; rw [decide_eq_false (by omega), decide_eq_false (by omega)]; cases s <;> rfl)
    unfold magL at he
    unfold widL
    clear hn h1
    go_enter Try.func13, Try.ntmps13
    go_wp2
    go_ret2
    exact ⟨ret2v (by rw [← E1.out]; rfl) (by rw [← E2.out]; rfl), below1 _ _⟩

def validB (s : Bool) (n : Nat) : Bool := s == sg s n
def validF (s : Bool) (n g : Nat) : Nat → Value → World → Prop := constF [.agg (widL s n), .pointer (some ⟨g, 0, none⟩), .bool s, .pointer (some ⟨g, 1, none⟩), .agg (magL n), .agg (widL (sg s n) n), .bool (validB s n)]
theorem pvalid_any (s : Bool) (n : Nat) (w : World) (hn : n < M256) :
    Calls Try.prog 17 #[.agg (widL s n)] w (Gives (.bool (validB s n)) w) := by
  have he := fun wx => eq_wide s (sg s n) n n hn hn wx
  rw [show (s == sg s n && n == n) = validB s n by simp [validB]] at he
  have HN := Lib.hid hn
  have HE := Lib.hid he
  clear hn he
  go_enter Try.func17, Try.ntmps17
  go_wp2_with fail
  refine region_steps (ds := [some 3, some 4, some 5, some 6, some 7, some 8, some 9]) [] [[], [], [1], [], [3], [2, 4], [0, 5]] (fun _ => false) (validF s n w.heap.size) (WideAt s n w.heap.size w) follows_mixed (by kernel_rfl) (by kernel_rfl) (fun _ _ => WideAt.ext) (constF_ext _) ⟨(Blk.new _ _ _).drew, ((Below.refl _ _).alloc (Nat.le_refl _) _).drew⟩ ?_ ?_
  · refine steps_cons ?_ (steps_cons ?_ (steps_cons ?_ (steps_cons ?_ (steps_cons ?_ (steps_cons ?_ (steps_cons ?_ steps_nil))))))
    · exact fun xs wx hG _ => step_row 25 (.tmp 1) rfl w.heap.size (eval_old (by decide)) 25 _ _ hG.1 under_wide rfl info_wide rfl
    · exact fun xs wx hG _ => step_value _ (w' := wx) (by simp only [fillIn, Act.put, List.setIfInBounds_toArray, List.set_cons_zero, List.set_cons_succ]; go_simp) rfl (Below.refl _ _)
    · intro xs wx hG hF
      have f1 : xs 1 = .pointer (some ⟨w.heap.size, 0, none⟩) := hF.1
      obtain ⟨c0, c1, c2, c3, c4⟩ := wide_cells hG.1
      exact step_value (.bool s) (w' := wx) (by simp only [fillIn, Act.put, List.setIfInBounds_toArray, List.set_cons_zero, List.set_cons_succ, f1]; go_simp) rfl (Below.refl _ _)
    · exact fun xs wx hG _ => step_value _ (w' := wx) (by simp only [fillIn, Act.put, List.setIfInBounds_toArray, List.set_cons_zero, List.set_cons_succ]; go_simp) rfl (Below.refl _ _)
    · intro xs wx hG hF
      have f1 : xs 3 = .pointer (some ⟨w.heap.size, 1, none⟩) := hF.1
      obtain ⟨c0, c1, c2, c3, c4⟩ := wide_cells hG.1
      exact step_value (.agg (magL n)) (w' := wx) (by simp only [fillIn, Act.put, List.setIfInBounds_toArray, List.set_cons_zero, List.set_cons_succ, f1]; go_simp) rfl (Below.refl _ _)
    · exact fun xs wx hG hF => step_call2 39 (.tmp 5) (.tmp 7) #[4, 45] (.bool s) (.agg (magL n)) rfl ((eval_new (i := 2) (by decide) rfl (by simp)).trans hF.1) ((eval_new (i := 4) (by decide) rfl (by simp)).trans hF.2.1) (by kernel_rfl) (signed_any s n wx HN.out) (fun e w' h => ⟨_, h.1, rfl, h.2⟩)
    · exact fun xs wx hG hF => step_bin .eql 25 _ (.tmp 3) (.tmp 8) (.agg (widL s n)) (.agg (widL (sg s n) n)) _ rfl ((eval_new (i := 0) (by decide) rfl (by simp)).trans hF.1) ((eval_new (i := 5) (by decide) rfl (by simp)).trans hF.2.1) (by go_simp) (by rw [run_eql_struct, HE.out]; rfl) rfl
  intro xs wx hG _ hF
  obtain ⟨f0, f1, f2, f3, f4, f5, f6, _⟩ := hF
  have f6 : xs 6 = .bool (validB s n) := f6
  simp only [fillIn, Act.put, List.setIfInBounds_toArray, List.set_cons_zero, List.set_cons_succ, f6, List.drop_succ_cons, List.drop_zero, List.length_cons, List.length_nil]
  generalize xs 0 = z0
  generalize xs 1 = z1
  generalize xs 2 = z2
  generalize xs 3 = z3
  generalize xs 4 = z4
  generalize xs 5 = z5
  go_wp2
  go_ret
  exact ⟨rfl, hG.2⟩
end Go.Proofs.Ytnpgikjahfhaoaa
