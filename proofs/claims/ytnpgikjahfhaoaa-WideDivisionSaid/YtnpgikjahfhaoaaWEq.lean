/-
  Two rows of words, compared: the numbers are compared.
-/
import Derived.Test.YtnpgikjahfhaoaaWRow
import Derived.Laws.StructEq
namespace Go.Proofs.Ytnpgikjahfhaoaa
open Go.RowKit Go.Proofs.WM

theorem run_eq_row {P : Program} (w : World) (d k : Nat) {t e : TypeId} (ht : P.underlying t = some (.array k e)) (he : P.underlying e = some (.int .u64)) (hsz : ∀ w, (sizeOf e).run P w = .ok 1 w) (f g : Nat → Nat) :
    (Op.equalIn (d + 2) t (.agg (rowF k f)) (.agg (rowF k g))).run P w = .ok ((List.range k).all fun i => f i == g i) w := by
  rw [List.range_eq_range', Op.equalIn]
  simp only [Sem.run_bind, run_underlying ht, Result.andThen_ok, hsz, Std.Legacy.Range.forIn_eq_forIn_range', Std.Legacy.Range.size, Nat.sub_zero, Nat.add_sub_cancel, Nat.div_one]
  have hl : ∀ i ∈ List.range' 0 k 1, i < k := fun i hi => by simpa using (List.mem_range'_1.1 hi).2
  generalize List.range' 0 k 1 = l at hl ⊢
  induction l with
  | nil => simp
  | cons i l ih =>
    have hi : i < k := hl i (by simp)
    have px : ∀ f, (part e (rowF k f) (i * 1)).run P w = .ok (.int .u64 ((f i : Nat) : Int)) w := fun f => by
      simp [part, isAgg, run_underlying he, rowF_at f hi]
    have pe : (Op.equalIn (d + 1) e (.int .u64 ((f i : Nat) : Int)) (.int .u64 ((g i : Nat) : Int))).run P w = .ok (f i == g i) w := by
      rw [run_equalIn_int w d e .u64 .u64 _ _ he]
      congr 1
      rw [Bool.eq_iff_iff]
      simp
      omega
    simp only [List.forIn_cons, Sem.run_bind, px, pe, Result.andThen_ok, List.all_cons]
    cases hb : (f i == g i)
    · simp
    · simp only [Bool.not_true, Bool.false_eq_true, if_false, Sem.run_pure, Result.andThen_ok, Bool.true_and]
      exact ih fun j hj => hl j (by simp [hj])
theorem all_wd {n m : Nat} (hn : n < M256) (hm : m < M256) : ((List.range 4).all fun i => wd n i == wd m i) = (n == m) := by
  rw [Bool.eq_iff_iff]
  simp only [List.all_eq_true, List.mem_range, beq_iff_eq]
  exact ⟨fun h => eq_of_wd hn hm h, fun h i _ => by rw [h]⟩
theorem all_hw {n m : Nat} (hn : n < M256) (hm : m < M256) : ((List.range 8).all fun i => hw n i == hw m i) = (n == m) := by
  rw [Bool.eq_iff_iff]
  simp only [List.all_eq_true, List.mem_range, beq_iff_eq]
  exact ⟨fun h => eq_of_hw hn hm h, fun h i _ => by rw [h]⟩
theorem under_mag : Try.prog.underlying 45 = some (.array 4 22) := by kernel_rfl
theorem under_arr4 : Try.prog.underlying 23 = some (.array 4 22) := by kernel_rfl
theorem under_hal : Try.prog.underlying 69 = some (.array 8 22) := by kernel_rfl
theorem under_u64 : Try.prog.underlying 22 = some (.int .u64) := by kernel_rfl
theorem size_u64 (w : World) : (sizeOf 22).run Try.prog w = .ok 1 w := by kernel_rfl
theorem eq_mag (n m : Nat) (hn : n < M256) (hm : m < M256) (w : World) : (Op.equalIn 10000 45 (.agg (magL n)) (.agg (magL m))).run Try.prog w = .ok (n == m) w := by
  rw [← rowF4, ← rowF4, run_eq_row w 9998 4 under_mag under_u64 size_u64, all_wd hn hm]
theorem eq_arr (n m : Nat) (hn : n < M256) (hm : m < M256) (w : World) : (Op.equalIn 10000 23 (.agg (magL n)) (.agg (magL m))).run Try.prog w = .ok (n == m) w := by
  rw [← rowF4, ← rowF4, run_eq_row w 9998 4 under_arr4 under_u64 size_u64, all_wd hn hm]
theorem eq_hal (n m : Nat) (hn : n < M256) (hm : m < M256) (w : World) : (Op.equalIn 10000 69 (.agg (halL n)) (.agg (halL m))).run Try.prog w = .ok (n == m) w := by
  rw [← rowF8, ← rowF8, run_eq_row w 9998 8 under_hal under_u64 size_u64, all_hw hn hm]
abbrev mag0 : Array Value := #[.int .u64 0, .int .u64 0, .int .u64 0, .int .u64 0]
abbrev hal0 : Array Value := #[.int .u64 0, .int .u64 0, .int .u64 0, .int .u64 0, .int .u64 0, .int .u64 0, .int .u64 0, .int .u64 0]
theorem magL0 : mag0 = magL 0 := by simp [wd_zero]
theorem halL0 : hal0 = halL 0 := by simp [hw_zero]
theorem wd_small (x : Nat) (hx : x < 18446744073709551616) : wd x 0 = x ∧ wd x 1 = 0 ∧ wd x 2 = 0 ∧ wd x 3 = 0 := by
  have h := wd_ofW (a := x) (b := 0) (c := 0) (d := 0) hx (by decide) (by decide) (by decide)
  have e : ofW x 0 0 0 = x := by unfold ofW; omega
  rwa [e] at h
theorem magL_small (x : Nat) (hx : x < 18446744073709551616) : (#[.int .u64 ((x : Nat) : Int), .int .u64 0, .int .u64 0, .int .u64 0] : Array Value) = magL x := by
  obtain ⟨h0, h1, h2, h3⟩ := wd_small x hx
  simp [h0, h1, h2, h3]
theorem eq_mag0 (n : Nat) (hn : n < M256) (w : World) : (Op.equalIn 10000 45 (.agg (magL n)) (.agg mag0)).run Try.prog w = .ok (n == 0) w := by
  rw [magL0]; exact eq_mag n 0 hn m_pos w
theorem eq_arr0 (n : Nat) (hn : n < M256) (w : World) : (Op.equalIn 10000 23 (.agg (magL n)) (.agg mag0)).run Try.prog w = .ok (n == 0) w := by
  rw [magL0]; exact eq_arr n 0 hn m_pos w
theorem eq_hal0 (n : Nat) (hn : n < M256) (w : World) : (Op.equalIn 10000 69 (.agg (halL n)) (.agg hal0)).run Try.prog w = .ok (n == 0) w := by
  rw [halL0]; exact eq_hal n 0 hn m_pos w
theorem eqFields_wide (fs : List Field) (hf : fs.map (fun f => (f.name, f.type, f.offset)) = [("Neg", 4, 0), ("Mag", 23, 1)]) (d : Nat) (xs ys : Array Value) (x0 y0 : Value) (x1 y1 : Value) (b0 b1 : Bool) (w : World)
    (h0 : (part 4 xs 0).run Try.prog w = .ok x0 w) (k0 : (part 4 ys 0).run Try.prog w = .ok y0 w) (h1 : (part 23 xs 1).run Try.prog w = .ok x1 w) (k1 : (part 23 ys 1).run Try.prog w = .ok y1 w)
    (e0 : (Op.equalIn d 4 x0 y0).run Try.prog w = .ok b0 w) (e1 : (Op.equalIn d 23 x1 y1).run Try.prog w = .ok b1 w) : (Op.eqFields d xs ys fs).run Try.prog w = .ok (b0 && b1) w := by
  obtain ⟨f, fs, rfl⟩ : ∃ f l, fs = f :: l := by cases fs with | nil => simp at hf | cons f l => exact ⟨f, l, rfl⟩
  obtain ⟨g, fs, rfl⟩ : ∃ f l, fs = f :: l := by cases fs with | nil => simp at hf | cons f l => exact ⟨f, l, rfl⟩
  obtain rfl : fs = [] := by cases fs with | nil => rfl | cons f l => simp at hf
  · simp only [List.map_cons, List.map_nil, List.cons.injEq, Prod.mk.injEq, and_true] at hf
    obtain ⟨⟨n0, t0, o0⟩, ⟨n1, t1, o1⟩⟩ := hf
    cases b0 <;> cases b1 <;> simp [Op.eqFields, n0, t0, o0, n1, t1, o1, h0, k0, h1, k1, e0, e1]
theorem eq_wide (s t : Bool) (n m : Nat) (hn : n < M256) (hm : m < M256) (w : World) : (Op.equalIn 10000 25 (.agg (widL s n)) (.agg (widL t m))).run Try.prog w = .ok (s == t && n == m) w := by
  have h := run_eq_row (P := Try.prog) w 9997 4 under_arr4 under_u64 size_u64 (wd n) (wd m)
  rw [all_wd hn hm, rowF4, rowF4] at h
  have hu : Try.prog.underlying 25 = some (.struct (Try.prog.fieldsOf 25)) := by kernel_rfl
  have p0 : ∀ s n, (part 4 (widL s n) 0).run Try.prog w = .ok (.bool s) w := fun s n => by simp [part, isAgg, run_underlying (show Try.prog.underlying 4 = some .bool by kernel_rfl)]
  have p1 : ∀ s n, (part 23 (widL s n) 1).run Try.prog w = .ok (.agg (magL n)) w := fun s n => by
    simp [part, isAgg, run_underlying under_arr4]
  rw [show (10000 : Nat) = 9999 + 1 from rfl, run_equalIn_agg w 9999 _ _ _ hu (by kernel_rfl)]
  exact eqFields_wide _ (by kernel_rfl) 9999 _ _ _ _ _ _ _ _ w (p0 s n) (p0 t m) (p1 s n) (p1 t m) (run_equalIn_bool w 9998 _ _ _ (by kernel_rfl)) h
end Go.Proofs.Ytnpgikjahfhaoaa
