/-
  The program's division of magnitudes.
-/
import Derived.Test.YtnpgikjahfhaoaaWLong
import Derived.Test.YtnpgikjahfhaoaaWShort
import Derived.Test.YtnpgikjahfhaoaaWJoin2
namespace Go.Proofs.Ytnpgikjahfhaoaa
open Go.RowKit Go.Proofs.WM Go.Proofs.Reg

theorem lit_ones (x : Int) : (#[.int .u64 x, .int .u64 0, .int .u64 0, .int .u64 0] : Array Value).all (·.oneCell') = true := by simp [Value.oneCell']
theorem low_eq (n : Nat) : (n == wd n 0) = decide (n < 18446744073709551616) := by
  unfold wd dg
  rw [Nat.pow_zero, Nat.div_one, Bool.eq_iff_iff]
  simp only [beq_iff_eq, decide_eq_true_eq]
  omega
theorem wd0_lt (n : Nat) : wd n 0 < M256 := by
  have := wd_lt n 0
  unfold M256
  omega
theorem eq_low (n : Nat) (hn : n < M256) (w : World) : (Op.equalIn 10000 45 (.agg (magL n)) (.agg #[.int .u64 ((wd n 0 : Nat) : Int), .int .u64 0, .int .u64 0, .int .u64 0])).run Try.prog w = .ok (decide (n < 18446744073709551616)) w := by
  rw [magL_small _ (wd_lt n 0), eq_mag n (wd n 0) hn (wd0_lt n), low_eq]
theorem half_eq (n : Nat) : (n == wd n 0 % 4294967296) = decide (n < 4294967296) := by
  unfold wd dg
  rw [Nat.pow_zero, Nat.div_one, Bool.eq_iff_iff]
  simp only [beq_iff_eq, decide_eq_true_eq]
  omega
theorem eq_half (n : Nat) (hn : n < M256) (w : World) : (Op.equalIn 10000 45 (.agg (magL n)) (.agg #[.int .u64 (bits .and .u64 ((wd n 0 : Nat) : Int) 4294967295), .int .u64 0, .int .u64 0, .int .u64 0])).run Try.prog w = .ok (decide (n < 4294967296)) w := by
  have h := wd_lt n 0
  have e : bits .and .u64 ((wd n 0 : Nat) : Int) 4294967295 = ((wd n 0 % 4294967296 : Nat) : Int) := by rw [and_low32 _ (by omega) (by omega)]; omega
  rw [e, magL_small _ (by omega), eq_mag n _ hn (by unfold M256; omega), half_eq]
theorem wd0_small {n : Nat} (h : n < 18446744073709551616) : wd n 0 = n := by
  unfold wd dg
  rw [Nat.pow_zero, Nat.div_one]
  omega

theorem pdivide_small (n m : Nat) (w : World) (hn : n < 18446744073709551616) (hm : m < 18446744073709551616) (h0 : 0 < m) (hN : n < M256) (hM : m < M256) :
    Calls Try.prog 52 #[.agg (magL n), .agg (magL m)] w (Gives (.tuple #[.agg (magL (n / m)), .agg (magL (n % m))]) w) := by
  have e1 := fun wx => eq_low n hN wx
  have e2 := fun wx => eq_low m hM wx
  rw [show decide (n < 18446744073709551616) = true from decide_eq_true hn] at e1
  rw [show decide (m < 18446744073709551616) = true from decide_eq_true hm] at e2
  have hq : n / m < 18446744073709551616 := Nat.lt_of_le_of_lt (Nat.div_le_self _ _) hn
  have hr : n % m < 18446744073709551616 := Nat.lt_of_le_of_lt (Nat.mod_le _ _) hn
  have Eq := Lib.hid (magL_small _ hq)
  have Er := Lib.hid (magL_small _ hr)
  have E0 := Lib.hid (wd0_small hn)
  have F0 := Lib.hid (wd0_small hm)
  have hx := wd_lt n 0
  have hy : 0 < wd m 0 := by rw [F0.out]; exact h0
  have t1 : ((wd n 0 : Nat) : Int).tdiv ((wd m 0 : Nat) : Int) = ((wd n 0 / wd m 0 : Nat) : Int) := by rw [Int.tdiv_eq_ediv_of_nonneg (by omega)]; rfl
  have t2 : ((wd n 0 : Nat) : Int).tmod ((wd m 0 : Nat) : Int) = ((wd n 0 % wd m 0 : Nat) : Int) := by rw [Int.tmod_eq_emod_of_nonneg (by omega)]; rfl
  rw [E0.out, F0.out] at t1 t2
  unfold magL at *
  rw [E0.out] at e1 ⊢
  rw [F0.out] at e2 ⊢
  have hdi : 0 < (m : Int) := by omega
  have hd0 : ¬ (m : Int) = 0 := by omega
  obtain ⟨q, hqq⟩ : ∃ q, q = n / m := ⟨_, rfl⟩
  obtain ⟨r, hrr⟩ : ∃ r, r = n % m := ⟨_, rfl⟩
  rw [← hqq] at t1 Eq hq ⊢
  rw [← hrr] at t2 Er hr ⊢
  have hw1 : IntKind.u64.wrap (q : Int) = (q : Int) := wrap_in _ (by omega) (by omega)
  clear hx hy hqq hrr hq hr hn hm h0 hN hM
  go_enter Try.func52, Try.ntmps52
  go_wp2_with fail
  go_region
  go_wp2
  refine bodyPost_ret (v := .tuple #[.agg #[.int .u64 (q : Int), .int .u64 0, .int .u64 0, .int .u64 0], .agg #[.int .u64 (r : Int), .int .u64 0, .int .u64 0, .int .u64 0]]) (by simp [results, Try.results52, go_sem]) rfl ⟨by rw [Eq.out, Er.out], ?_⟩
  exact ((((((Below.refl _ _).alloc (Nat.le_refl _) _).alloc (by simp) _).alloc (by simp; omega) _).alloc (by simp; omega) _).drew)

theorem pdivide_long (n m : Nat) (w : World) (hn : n < M256) (hm : m < M256) (h0 : 4294967296 ≤ m) (hb1 : 18446744073709551616 ≤ n ∨ 18446744073709551616 ≤ m) :
    Calls Try.prog 52 #[.agg (magL n), .agg (magL m)] w (Gives (.tuple #[.agg (magL (n / m)), .agg (magL (n % m))]) w) := by
  have e1 := fun wx => eq_low n hn wx
  have e2 := fun wx => eq_low m hm wx
  have e3 := fun wx => eq_half m hm wx
  rw [show decide (m < 4294967296) = false from decide_eq_false (by omega)] at e3
  have HN := Lib.hid hn
  have HM := Lib.hid hm
  have H0 := Lib.hid (show 0 < m by omega)
  by_cases h1 : n < 18446744073709551616
  · rw [show decide (n < 18446744073709551616) = true from decide_eq_true h1] at e1
    rw [show decide (m < 18446744073709551616) = false from decide_eq_false (by omega)] at e2
    clear hn hm h0 hb1 h1
    unfold magL at *
    go_enter Try.func52, Try.ntmps52
    go_wp2_with fail
    refine (plong_any n m _ HN.out HM.out H0.out).mono ?_
    rintro e w1 ⟨rfl, hb⟩
    have kQ : Blk w1 (w.heap.size + 1 + 1) 45 mag0 := Blk.below ((Blk.newAt (by simp) _ _).old _) hb
    have kR : Blk w1 (w.heap.size + 1 + 1 + 1) 45 mag0 := Blk.below (Blk.newAt (by simp) _ _) hb
    have kW : Below w.heap.size w w1 := Below.trans (((((Below.refl _ _).alloc (Nat.le_refl _) _).alloc (by simp) _).alloc (by simp; omega) _).alloc (by simp; omega) _) (hb.mono (by simp; omega))
    have KQ := Lib.hid kQ
    have KR := Lib.hid kR
    clear kQ kR hb e1 e2 e3
    go_wp2_with (first | (refine wpList_store_row rfl 45 (.tmp 4) (.tmp 53) rfl (w.heap.size + 1 + 1) (magL (n / m)) rfl rfl 45 _ KQ.out info_mag rfl (rowF_ones 4 (wd (n / m))) ?_) | (refine wpList_store_row rfl 45 (.tmp 5) (.tmp 54) rfl (w.heap.size + 1 + 1 + 1) (magL (n % m)) rfl rfl 45 _ (KR.out.rowOther (by omega) _) info_mag rfl (rowF_ones 4 (wd (n % m))) ?_))
    exact gives_rows rfl (w.heap.size + 1 + 1) (w.heap.size + 1 + 1 + 1) 45 45 (magL (n / m)) (magL (n % m)) _ _ rfl rfl ((KQ.out.row _).rowOther (by omega) _) ((KR.out.rowOther (by omega) _).row _) under_mag rfl info_mag under_mag rfl info_mag rfl ⟨rfl, below_row (below_row kW (by omega) _) (by omega) _⟩
  · rw [show decide (n < 18446744073709551616) = false from decide_eq_false h1] at e1
    clear e2
    clear hn hm h0 hb1 h1
    unfold magL at *
    go_enter Try.func52, Try.ntmps52
    go_wp2_with fail
    refine (plong_any n m _ HN.out HM.out H0.out).mono ?_
    rintro e w1 ⟨rfl, hb⟩
    have kQ : Blk w1 (w.heap.size + 1 + 1) 45 mag0 := Blk.below ((Blk.newAt (by simp) _ _).old _) hb
    have kR : Blk w1 (w.heap.size + 1 + 1 + 1) 45 mag0 := Blk.below (Blk.newAt (by simp) _ _) hb
    have kW : Below w.heap.size w w1 := Below.trans (((((Below.refl _ _).alloc (Nat.le_refl _) _).alloc (by simp) _).alloc (by simp; omega) _).alloc (by simp; omega) _) (hb.mono (by simp; omega))
    have KQ := Lib.hid kQ
    have KR := Lib.hid kR
    clear kQ kR hb e1 e3
    go_wp2_with (first | (refine wpList_store_row rfl 45 (.tmp 4) (.tmp 53) rfl (w.heap.size + 1 + 1) (magL (n / m)) rfl rfl 45 _ KQ.out info_mag rfl (rowF_ones 4 (wd (n / m))) ?_) | (refine wpList_store_row rfl 45 (.tmp 5) (.tmp 54) rfl (w.heap.size + 1 + 1 + 1) (magL (n % m)) rfl rfl 45 _ (KR.out.rowOther (by omega) _) info_mag rfl (rowF_ones 4 (wd (n % m))) ?_))
    exact gives_rows rfl (w.heap.size + 1 + 1) (w.heap.size + 1 + 1 + 1) 45 45 (magL (n / m)) (magL (n % m)) _ _ rfl rfl ((KQ.out.row _).rowOther (by omega) _) ((KR.out.rowOther (by omega) _).row _) under_mag rfl info_mag under_mag rfl info_mag rfl ⟨rfl, below_row (below_row kW (by omega) _) (by omega) _⟩

def SD (n d B : Nat) : List Value := [.agg (magL n), .agg (halL n), .pointer (some ⟨B + 1, 0, none⟩), .int .u64 (d : Int), .tuple #[.agg (halL (n / d)), .int .u64 ((rsN n d 0 : Nat) : Int)], .tuple #[.agg (halL (n / d)), .int .u64 ((rsN n d 0 : Nat) : Int)], .agg (halL (n / d)), .int .u64 ((rsN n d 0 : Nat) : Int)]
def shortF (n d B : Nat) : Nat → (Nat → Value) → World → Prop
  | 8, xs, w => ∃ g, B + 1 + 1 + 1 < g ∧ xs 8 = .pointer (some ⟨g, 0, none⟩) ∧ (Blk w g 69 hal0 ∨ Blk w g 69 (halL (n / d)))
  | 9, xs, w => ∃ g, B + 1 + 1 + 1 < g ∧ xs 8 = .pointer (some ⟨g, 0, none⟩) ∧ Blk w g 69 (halL (n / d))
  | i, xs, _ => xs i = (SD n d B).getD i undef
def shortR (n d B : Nat) : List ((Nat → Bool) × TypeId × Array Value) := [((fun k => decide (B + 1 + 1 + 1 < k)), 69, halL (n / d))]
theorem shortF_ext (n d B : Nat) (i : Nat) (xs : Nat → Value) (wa wb : World) (h : shortF n d B i xs wa) (he : Ext (shortR n d B) wa wb) : shortF n d B i xs wb := by
  match i, h with
  | 0, h => exact h
  | 1, h => exact h
  | 2, h => exact h
  | 3, h => exact h
  | 4, h => exact h
  | 5, h => exact h
  | 6, h => exact h
  | 7, h => exact h
  | 8, h =>
    obtain ⟨g, hg, hx, h | h⟩ := h
    · rcases he.either h with e | ⟨r, hr, _, e⟩
      · exact ⟨g, hg, hx, .inl e⟩
      · simp [shortR] at hr
        subst hr
        exact ⟨g, hg, hx, .inr e⟩
    · exact ⟨g, hg, hx, .inr (he.done h (by simp [shortR]))⟩
  | 9, h =>
    obtain ⟨g, hg, hx, h⟩ := h
    exact ⟨g, hg, hx, he.done h (by simp [shortR])⟩
  | _ + 10, h => exact h
theorem shortF_agree (n d B : Nat) (i : Nat) (xs ys : Nat → Value) (w : World) (h : shortF n d B i xs w) (h8 : i = 9 → xs 8 = ys 8) (hi : xs i = ys i) : shortF n d B i ys w := by
  match i, h, h8, hi with
  | 0, h, _, hi => exact hi.symm.trans h
  | 1, h, _, hi => exact hi.symm.trans h
  | 2, h, _, hi => exact hi.symm.trans h
  | 3, h, _, hi => exact hi.symm.trans h
  | 4, h, _, hi => exact hi.symm.trans h
  | 5, h, _, hi => exact hi.symm.trans h
  | 6, h, _, hi => exact hi.symm.trans h
  | 7, h, _, hi => exact hi.symm.trans h
  | 8, h, _, hi =>
    obtain ⟨g, hg, hx, h⟩ := h
    exact ⟨g, hg, hi.symm.trans hx, h⟩
  | 9, h, h8, _ =>
    obtain ⟨g, hg, hx, h⟩ := h
    exact ⟨g, hg, (h8 rfl).symm.trans hx, h⟩
  | _ + 10, h, _, hi => exact hi.symm.trans h
def ShortG (n m : Nat) (w0 w : World) : Prop := Blk w w0.heap.size 45 (magL n) ∧ Blk w (w0.heap.size + 1) 45 (magL m) ∧ Blk w (w0.heap.size + 1 + 1) 45 mag0 ∧ Blk w (w0.heap.size + 1 + 1 + 1) 45 mag0 ∧ Below w0.heap.size w0 w
theorem ShortG.ext {n m : Nat} {w0 wa wb : World} (h : ShortG n m w0 wa) (he : Ext (shortR n m w0.heap.size) wa wb) : ShortG n m w0 wb := by
  obtain ⟨h0, h1, h2, h3, h4⟩ := h
  exact ⟨he.row h0 (by simp [shortR] <;> omega), he.row h1 (by simp [shortR] <;> omega), he.row h2 (by simp [shortR] <;> omega), he.row h3 (by simp [shortR]), he.below h4 h4.size (by simp [shortR] <;> omega)⟩

theorem pdivide_half (n m : Nat) (w : World) (hn : n < M256) (hm : m < 4294967296) (h0 : 0 < m) (hb1 : 18446744073709551616 ≤ n) :
    Calls Try.prog 52 #[.agg (magL n), .agg (magL m)] w (Gives (.tuple #[.agg (magL (n / m)), .agg (magL (n % m))]) w) := by
  have hM : m < M256 := by unfold M256; omega
  have e1 := fun wx => eq_low n hn wx
  have e3 := fun wx => eq_half m hM wx
  rw [show decide (m < 4294967296) = true from decide_eq_true hm] at e3
  rw [show decide (n < 18446744073709551616) = false from decide_eq_false (by omega)] at e1
  have HN := Lib.hid hn
  have HM := Lib.hid hm
  have H0 := Lib.hid h0
  have F0 := Lib.hid (wd0_small (n := m) (by omega))
  clear hn hm h0 hb1 hM
  unfold magL at *
  go_enter Try.func52, Try.ntmps52
  go_wp2_with fail
  have hG : ShortG n m w (((((w.alloc (.cells (magL n) 45)).alloc (.cells (magL m) 45)).alloc (.cells mag0 45)).alloc (.cells mag0 45)).drew) :=
    ⟨((((Blk.new _ _ _).old _).old _).old _).drew, (((Blk.newAt (by simp) _ _).old _).old _).drew, ((Blk.newAt (by simp) _ _).old _).drew, (Blk.newAt (by simp) _ _).drew, (((((Below.refl _ _).alloc (Nat.le_refl _) _).alloc (by simp) _).alloc (by simp; omega) _).alloc (by simp; omega) _).drew⟩
  refine region_stepsX (ds := [some 39, some 40, some 41, some 42, some 43, some 38, some 44, some 45, some 6, none]) (shortR n m w.heap.size) [[], [0], [], [2], [1, 3], [4], [5], [5], [], [6, 8]] (fun _ => false) (shortF n m w.heap.size) (ShortG n m w) follows_mixed (by kernel_rfl) (by kernel_rfl) (fun _ _ => ShortG.ext) (shortF_ext _ _ _) (fun i xs ys wx _ h he => shortF_agree n m _ i xs ys wx h (fun e => by subst e; exact he 8 (.inr (by kernel_rfl))) (he i (.inl rfl))) hG ?_ ?_
  · refine steps_cons ?_ (steps_cons ?_ (steps_cons ?_ (steps_cons ?_ (steps_cons ?_ (steps_cons ?_ (steps_cons ?_ (steps_cons ?_ (steps_cons ?_ (steps_cons ?_ steps_nil)))))))))
    · exact fun xs wx hG _ => step_row 45 (.tmp 2) rfl w.heap.size (eval_old (by decide)) 45 _ _ hG.1 under_mag rfl info_mag rfl
    · exact fun xs wx hG hF => step_call1 58 (.tmp 39) #[45] (.agg (magL n)) rfl ((eval_new (i := 0) (by decide) rfl (by simp)).trans hF.1) (by kernel_rfl) (psplit_any n wx) (fun e w' h => ⟨_, h.1, rfl, h.2⟩)
    · exact fun xs wx hG _ => step_value (.pointer (some ⟨w.heap.size + 1, 0, none⟩)) (w' := wx) (by simp only [fillIn, Act.put, List.setIfInBounds_toArray, List.set_cons_zero, List.set_cons_succ]; go_simp) rfl (Below.refl _ _)
    · intro xs wx hG hF
      have f2 : xs 2 = .pointer (some ⟨w.heap.size + 1, 0, none⟩) := hF.1
      have c0 : wx.cell? ⟨w.heap.size + 1, 0, none⟩ = some (.int .u64 (m : Int)) := by rw [hG.2.1.cell]; show some (Value.int IntKind.u64 ((wd m 0 : Nat) : Int)) = _; rw [F0.out]
      exact step_value (.int .u64 (m : Int)) (w' := wx) (by simp only [fillIn, Act.put, List.setIfInBounds_toArray, List.set_cons_zero, List.set_cons_succ, f2]; go_simp) rfl (Below.refl _ _)
    · exact fun xs wx hG hF => step_call2 59 (.tmp 40) (.tmp 42) #[69, 22] (.agg (halL n)) (.int .u64 (m : Int)) rfl ((eval_new (i := 1) (by decide) rfl (by simp)).trans hF.1) ((eval_new (i := 3) (by decide) rfl (by simp)).trans hF.2.1) (by kernel_rfl) (pshort_any n m wx HN.out H0.out (by have := HM.out; omega)) (fun e w' h => ⟨_, h.1, rfl, h.2⟩)
    · intro xs wx hG hF
      have f4 : xs 4 = .tuple #[.agg (halL (n / m)), .int .u64 ((rsN n m 0 : Nat) : Int)] := hF.1
      exact step_value (.tuple #[.agg (halL (n / m)), .int .u64 ((rsN n m 0 : Nat) : Int)]) (w' := wx) (by simp only [fillIn, Act.put, List.setIfInBounds_toArray, List.set_cons_zero, List.set_cons_succ, f4]; go_simp) rfl (Below.refl _ _)
    · intro xs wx hG hF
      have f4 : xs 5 = .tuple #[.agg (halL (n / m)), .int .u64 ((rsN n m 0 : Nat) : Int)] := hF.1
      exact step_value (.agg (halL (n / m))) (w' := wx) (by simp only [fillIn, Act.put, List.setIfInBounds_toArray, List.set_cons_zero, List.set_cons_succ, f4]; go_simp) rfl (Below.refl _ _)
    · intro xs wx hG hF
      have f4 : xs 5 = .tuple #[.agg (halL (n / m)), .int .u64 ((rsN n m 0 : Nat) : Int)] := hF.1
      exact step_value (.int .u64 ((rsN n m 0 : Nat) : Int)) (w' := wx) (by simp only [fillIn, Act.put, List.setIfInBounds_toArray, List.set_cons_zero, List.set_cons_succ, f4]; go_simp) rfl (Below.refl _ _)
    · exact fun xs wx hG _ => step_alloc (.cells hal0 69) (by go_simp) ⟨_, Blk.lt hG.2.2.2.1, rfl, .inl (Blk.new _ _ _)⟩
    · intro xs wx hG hF
      have f6 : xs 6 = .agg (halL (n / m)) := hF.1
      obtain ⟨g, hg, hx, hk⟩ := hF.2.1
      rcases hk with hk | hk
      · exact step_store 69 (.tmp 6) (.tmp 44) rfl g (halL (n / m)) ((eval_new (i := 8) (by decide) rfl (by simp)).trans hx) ((eval_new (i := 6) (by decide) rfl (by simp)).trans f6) _ _ hk info_hal rfl (rowF_ones 8 (hw (n / m))) ⟨_, List.mem_singleton.2 rfl, by simp; exact hg, rfl, rfl⟩ ⟨g, hg, hx, hk.row _⟩
      · exact step_store 69 (.tmp 6) (.tmp 44) rfl g (halL (n / m)) ((eval_new (i := 8) (by decide) rfl (by simp)).trans hx) ((eval_new (i := 6) (by decide) rfl (by simp)).trans f6) _ _ hk info_hal rfl (rowF_ones 8 (hw (n / m))) ⟨_, List.mem_singleton.2 rfl, by simp; exact hg, rfl, rfl⟩ ⟨g, hg, hx, hk.row _⟩
  · intro xs wx hG _ hF
    obtain ⟨f0, f1, f2, f3, f4, f5, f6, f7, f8, ⟨g, hg, hx, hk⟩, _⟩ := hF
    have f0 : xs 0 = .agg (magL n) := f0
    have f1 : xs 1 = .agg (halL n) := f1
    have f2 : xs 2 = .pointer (some ⟨w.heap.size + 1, 0, none⟩) := f2
    have f3 : xs 3 = .int .u64 (m : Int) := f3
    have f4 : xs 4 = .tuple #[.agg (halL (n / m)), .int .u64 ((rsN n m 0 : Nat) : Int)] := f4
    have f5 : xs 5 = .tuple #[.agg (halL (n / m)), .int .u64 ((rsN n m 0 : Nat) : Int)] := f5
    have f6 : xs 6 = .agg (halL (n / m)) := f6
    have f7 : xs 7 = .int .u64 ((rsN n m 0 : Nat) : Int) := f7
    simp only [fillIn, Act.put, List.setIfInBounds_toArray, List.set_cons_zero, List.set_cons_succ, f0, f1, f2, f3, f4, f5, f6, f7, hx, List.drop_succ_cons, List.drop_zero, List.length_cons, List.length_nil]
    obtain ⟨k0, k1, kQ, kR, kW⟩ := hG
    have KQ := Lib.hid kQ
    have KR := Lib.hid kR
    have HK := Lib.hid hk
    clear f0 f1 f2 f3 f4 f5 f6 f7 f8 hx hk k0 k1 kQ kR e1 e3
    go_wp2_with (refine wpList_load_row rfl 69 (.tmp 6) rfl g rfl 69 _ (0, 0) _ HK.out under_hal rfl info_hal ?_)
    refine (pjoin_any (n / m) _).mono ?_
    rintro e w2 ⟨rfl, hb⟩
    have KQ := Lib.hid (KQ.out.below hb)
    have KR := Lib.hid (KR.out.below hb)
    have kW := kW.trans (hb.mono kW.size)
    clear hb
    have Er := Lib.hid (show (#[.int .u64 ((rsN n m 0 : Nat) : Int), .int .u64 0, .int .u64 0, .int .u64 0] : Array Value) = magL (n % m) by
      rw [magL_small _ (by rw [rsN_zero]; have := Nat.mod_lt n H0.out; have := HM.out; omega), rsN_zero])
    go_wp2_with (first | (refine wpList_store_row rfl 45 (.tmp 4) (.tmp 47) rfl (w.heap.size + 1 + 1) (magL (n / m)) rfl rfl 45 _ KQ.out info_mag rfl (rowF_ones 4 (wd (n / m))) ?_) | (refine wpList_store_row rfl 45 (.tmp 5) (.tmp 49) rfl (w.heap.size + 1 + 1 + 1) #[.int .u64 ((rsN n m 0 : Nat) : Int), .int .u64 0, .int .u64 0, .int .u64 0] rfl rfl 45 _ (KR.out.rowOther (by omega) _) info_mag rfl (lit_ones _) ?_))
    exact gives_rows rfl (w.heap.size + 1 + 1) (w.heap.size + 1 + 1 + 1) 45 45 (magL (n / m)) #[.int .u64 ((rsN n m 0 : Nat) : Int), .int .u64 0, .int .u64 0, .int .u64 0] _ _ rfl rfl ((KQ.out.row _).rowOther (by omega) _) ((KR.out.rowOther (by omega) _).row _) under_mag rfl info_mag under_mag rfl info_mag rfl ⟨by rw [Er.out], below_row (below_row kW (by omega) _) (by omega) _⟩

/-- The quotient and the remainder of magnitudes. -/
theorem pdivide_any (n m : Nat) (w : World) (hn : n < M256) (hm : m < M256) (h0 : 0 < m) :
    Calls Try.prog 52 #[.agg (magL n), .agg (magL m)] w (Gives (.tuple #[.agg (magL (n / m)), .agg (magL (n % m))]) w) := by
  by_cases h1 : n < 18446744073709551616 ∧ m < 18446744073709551616
  · exact pdivide_small n m w h1.1 h1.2 h0 hn hm
  · by_cases h2 : m < 4294967296
    · exact pdivide_half n m w hn h2 h0 (by omega)
    · exact pdivide_long n m w hn hm (by omega) (by omega)
end Go.Proofs.Ytnpgikjahfhaoaa
