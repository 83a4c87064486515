/-
  The program's Add, Sub and Mul.
-/
import Derived.Test.YtnpgikjahfhaoaaWOps1
import Derived.Test.YtnpgikjahfhaoaaWAdd
import Derived.Test.YtnpgikjahfhaoaaWSub
import Derived.Test.YtnpgikjahfhaoaaWMulP
namespace Go.Proofs.Ytnpgikjahfhaoaa
open Go.RowKit Go.Proofs.WM Go.Proofs.Reg

/-- The sum of signed magnitudes. -/
def addN (s : Bool) (n : Nat) (t : Bool) (m : Nat) : Nat := if s = t then (if M256 ≤ n + m then 0 else n + m) else if n < m then m - n else n - m
def addS (s : Bool) (n : Nat) (t : Bool) (m : Nat) : Bool := if s = t then (if M256 ≤ n + m then false else sg s (n + m)) else if n < m then sg t (m - n) else sg s (n - m)
def addE (s : Bool) (n : Nat) (t : Bool) (m : Nat) : Int := if s = t ∧ M256 ≤ n + m then 21 else 0
def AddV (s : Bool) (n : Nat) (t : Bool) (m : Nat) : Value := .tuple #[.agg (widL (addS s n t m) (addN s n t m)), .int .i64 (addE s n t m)]
theorem addV_same {s t : Bool} {n m : Nat} (h : s = t) (hlt : n + m < M256) : AddV s n t m = .tuple #[.agg (widL (sg s (n + m)) (n + m)), .int .i64 0] := by
  unfold AddV addS addN addE
  rw [if_pos h, if_pos h, if_neg (by omega), if_neg (by omega), if_neg (by omega)]
theorem addV_over {s t : Bool} {n m : Nat} (h : s = t) (hlt : M256 ≤ n + m) : AddV s n t m = .tuple #[.agg (widL false 0), .int .i64 21] := by
  unfold AddV addS addN addE
  rw [if_pos h, if_pos h, if_pos hlt, if_pos hlt, if_pos ⟨h, hlt⟩]
theorem addV_less {s t : Bool} {n m : Nat} (h : ¬ s = t) (hlt : n < m) : AddV s n t m = .tuple #[.agg (widL (sg t (m - n)) (m - n)), .int .i64 0] := by
  unfold AddV addS addN addE
  rw [if_neg h, if_neg h, if_pos hlt, if_pos hlt, if_neg (fun x => h x.1)]
theorem addV_more {s t : Bool} {n m : Nat} (h : ¬ s = t) (hlt : ¬ n < m) : AddV s n t m = .tuple #[.agg (widL (sg s (n - m)) (n - m)), .int .i64 0] := by
  unfold AddV addS addN addE
  rw [if_neg h, if_neg h, if_neg hlt, if_neg hlt, if_neg (fun x => h x.1)]

theorem padd_in (n m : Nat) (w : World) (hn : n < M256) (hm : m < M256) (h : n + m < M256) : Calls Try.prog 45 #[.agg (magL n), .agg (magL m)] w (Gives (.tuple #[.agg (magL (n + m)), .bool false]) w) := by
  have := padd_any n m w hn hm
  rwa [show addM n m = n + m from Nat.mod_eq_of_lt h, show overB n m = false from decide_eq_false (by omega)] at this
theorem padd_out (n m : Nat) (w : World) (hn : n < M256) (hm : m < M256) (h : M256 ≤ n + m) : ∃ k, k < M256 ∧ Calls Try.prog 45 #[.agg (magL n), .agg (magL m)] w (Gives (.tuple #[.agg (magL k), .bool true]) w) := by
  have := padd_any n m w hn hm
  rw [show overB n m = true from decide_eq_true h] at this
  exact ⟨_, addM_lt n m, this⟩

def AddG (s : Bool) (n : Nat) (t : Bool) (m : Nat) (w0 w : World) : Prop := Blk w w0.heap.size 25 (widL s n) ∧ Blk w (w0.heap.size + 1) 25 (widL t m) ∧ Blk w (w0.heap.size + 1 + 1) 25 wid0 ∧ Below w0.heap.size w0 w
theorem AddG.ext {s : Bool} {n : Nat} {t : Bool} {m : Nat} {w0 wa wb : World} (h : AddG s n t m w0 wa) (he : Ext [] wa wb) : AddG s n t m w0 wb := by
  obtain ⟨h0, h1, h2, h3⟩ := h
  have hb := he.to
  exact ⟨h0.below hb, h1.below hb, h2.below hb, h3.trans (hb.mono h3.size)⟩
theorem padd_wide (s t : Bool) (n m : Nat) (w : World) (hn : n < M256) (hm : m < M256) :
    Calls Try.prog 24 #[.agg (widL s n), .agg (widL t m)] w (Gives (AddV s n t m) w) := by
  have HN := Lib.hid hn
  have HM := Lib.hid hm
  by_cases hst : s = t
  · subst hst
    obtain ⟨k, o, v, q, c, hV, hc, hE⟩ : ∃ (k : Nat) (o v : Bool) (q : Nat) (c : Int), AddV s n s m = .tuple #[.agg (widL v q), .int .i64 c] ∧ (∀ w, Calls Try.prog 45 #[.agg (magL n), .agg (magL m)] w (Gives (.tuple #[.agg (magL k), .bool o]) w)) ∧ (∀ w, Calls Try.prog 46 #[.bool s, .agg (magL k), .bool o] w (Gives (.tuple #[.agg (widL v q), .int .i64 c]) w)) := by
      by_cases h : M256 ≤ n + m
      · refine ⟨addM n m, true, false, 0, 21, addV_over rfl h, fun w => ?_, fun w => checked_over s _ w⟩
        have := padd_any n m w hn hm
        rwa [show overB n m = true from decide_eq_true h] at this
      · exact ⟨n + m, false, sg s (n + m), n + m, 0, addV_same rfl (by omega), fun w => padd_in n m w hn hm (by omega), fun w => checked_ok s (n + m) w (by omega)⟩
    have HV := Lib.hid hV
    have HC := Lib.hid hc
    have HE := Lib.hid hE
    clear hn hm hc hE hV
    unfold widL
    go_enter Try.func24, Try.ntmps24
    go_wp2_with fail
    refine (HC.out _).mono ?_
    rintro e w1 ⟨rfl, hb⟩
    have kA : Hid (Blk w1 w.heap.size 25 (widL s n)) := Blk.below (((Blk.new _ _ _).old _).old _) hb
    have kR : Hid (Blk w1 (w.heap.size + 1 + 1) 25 wid0) := Blk.below (Blk.newAt (by simp) _ _) hb
    have kW : Below w.heap.size w w1 := (below3 _ _ _ _).trans (hb.mono (by simp; omega))
    have lR := kR.out.lt
    clear hb
    have c0 : ((w1.alloc (.cells mag0 45)).setRow w1.heap.size (magL k)).cell? ⟨w.heap.size, 0, none⟩ = some (.bool s) := by
      rw [((kA.out.old _).rowOther (by omega) _).cell]; rfl
    go_wp2_with (first | (refine wpList_store_row rfl 45 (.tmp 6) (.tmp 19) rfl w1.heap.size (magL k) rfl rfl 45 _ (Blk.new _ _ _) info_mag rfl (rowF_ones 4 (wd k)) ?_) | (refine wpList_load_row rfl 45 (.tmp 6) rfl w1.heap.size rfl 45 _ (0, 0) _ ((Blk.new _ _ _).row _) under_mag rfl info_mag ?_))
    refine (HE.out _).mono ?_
    rintro e w2 ⟨rfl, hb⟩
    have kR := Lib.hid (((kR.out.old _).rowOther (by omega) _).below hb)
    have kW := (below_row (kW.alloc (by omega) _) (by omega) _).trans (hb.mono (by simp; omega))
    clear hb c0
    go_wp2_with (refine wpList_store_row rfl 25 (.tmp 4) (.tmp 26) rfl (w.heap.size + 1 + 1) (widL v q) rfl rfl 25 _ kR.out info_wide rfl (widF_ones v (wd q)) ?_)
    exact gives_row_tmp rfl (w.heap.size + 1 + 1) 25 (widL v q) _ (.int .i64 c) rfl rfl (kR.out.row _) under_wide rfl info_wide rfl ⟨by rw [HV.out], below_row kW (by omega) _⟩
  · have hne : (s == t) = false := by simpa using hst
    by_cases hlt : n < m
    · have HL := Lib.hid hlt
      have HK := Lib.hid (show m - n < M256 by omega)
      have HV := Lib.hid (addV_less hst hlt)
      have hsub : ∀ w, Calls Try.prog 47 #[.agg (magL m), .agg (magL n)] w (Gives (.agg (magL (m - n))) w) := fun w => by
        have := psubtract_any m n w hn
        rwa [subN_of_le (by omega) hm] at this
      have HS := Lib.hid hsub
      clear hn hm hst hlt hsub
      unfold widL
      go_enter Try.func24, Try.ntmps24
      go_wp2_with fail
      refine (pcompare_lt n m _ HN.out HM.out HL.out).mono ?_
      rintro e w1 ⟨c, hc, rfl, hb⟩
      have kA : Hid (Blk w1 w.heap.size 25 (widL s n)) := Blk.below (((Blk.new _ _ _).old _).old _) hb
      have kB : Hid (Blk w1 (w.heap.size + 1) 25 (widL t m)) := Blk.below ((Blk.newAt (by simp) _ _).old _) hb
      have kR : Hid (Blk w1 (w.heap.size + 1 + 1) 25 wid0) := Blk.below (Blk.newAt (by simp) _ _) hb
      have kW : Below w.heap.size w w1 := (below3 _ _ _ _).trans (hb.mono (by simp; omega))
      clear hb
      have hG : AddG s n t m w w1.drew := ⟨kA.out.drew, kB.out.drew, kR.out.drew, kW.drew⟩
      clear kA kB kR kW
      go_wp2_with fail
      refine region_steps (ds := [some 34, some 35, some 36, some 37, some 38, some 39, some 40, some 41]) [] [[], [0], [], [2], [], [4], [3, 5], [1, 6]] (fun _ => false) (constF [.pointer (some ⟨(w.heap.size + 1), 0, none⟩), .bool t, .pointer (some ⟨(w.heap.size + 1), 1, none⟩), .agg (magL m), .pointer (some ⟨w.heap.size, 1, none⟩), .agg (magL n), .agg (magL (m - n)), .agg (widL (sg t (m - n)) (m - n))]) (AddG s n t m w) follows_mixed (by kernel_rfl) (by kernel_rfl) (fun _ _ => AddG.ext) (constF_ext _) hG ?_ ?_
      · refine steps_cons ?_ (steps_cons ?_ (steps_cons ?_ (steps_cons ?_ (steps_cons ?_ (steps_cons ?_ (steps_cons ?_ (steps_cons ?_ steps_nil)))))))
        · exact fun xs wx hG _ => step_value _ (w' := wx) (by simp only [fillIn, Act.put, List.setIfInBounds_toArray, List.set_cons_zero, List.set_cons_succ]; go_simp) rfl (Below.refl _ _)
        · intro xs wx hG hF
          have f1 : xs 0 = .pointer (some ⟨(w.heap.size + 1), 0, none⟩) := hF.1
          obtain ⟨c0, c1, c2, c3, c4⟩ := wide_cells hG.2.1
          exact step_value (.bool t) (w' := wx) (by simp only [fillIn, Act.put, List.setIfInBounds_toArray, List.set_cons_zero, List.set_cons_succ, f1]; go_simp) rfl (Below.refl _ _)
        · exact fun xs wx hG _ => step_value _ (w' := wx) (by simp only [fillIn, Act.put, List.setIfInBounds_toArray, List.set_cons_zero, List.set_cons_succ]; go_simp) rfl (Below.refl _ _)
        · intro xs wx hG hF
          have f1 : xs 2 = .pointer (some ⟨(w.heap.size + 1), 1, none⟩) := hF.1
          obtain ⟨c0, c1, c2, c3, c4⟩ := wide_cells hG.2.1
          exact step_value (.agg (magL m)) (w' := wx) (by simp only [fillIn, Act.put, List.setIfInBounds_toArray, List.set_cons_zero, List.set_cons_succ, f1]; go_simp) rfl (Below.refl _ _)
        · exact fun xs wx hG _ => step_value _ (w' := wx) (by simp only [fillIn, Act.put, List.setIfInBounds_toArray, List.set_cons_zero, List.set_cons_succ]; go_simp) rfl (Below.refl _ _)
        · intro xs wx hG hF
          have f1 : xs 4 = .pointer (some ⟨w.heap.size, 1, none⟩) := hF.1
          obtain ⟨c0, c1, c2, c3, c4⟩ := wide_cells hG.1
          exact step_value (.agg (magL n)) (w' := wx) (by simp only [fillIn, Act.put, List.setIfInBounds_toArray, List.set_cons_zero, List.set_cons_succ, f1]; go_simp) rfl (Below.refl _ _)
        · exact fun xs wx hG hF => step_call2 47 (.tmp 37) (.tmp 39) #[45, 45] (.agg (magL m)) (.agg (magL n)) rfl ((eval_new (i := 3) (by decide) rfl (by simp)).trans hF.1) ((eval_new (i := 5) (by decide) rfl (by simp)).trans hF.2.1) (by kernel_rfl) (HS.out wx) (fun e w' h => ⟨_, h.1, rfl, h.2⟩)
        · exact fun xs wx hG hF => step_call2 39 (.tmp 35) (.tmp 40) #[4, 45] (.bool t) (.agg (magL (m - n))) rfl ((eval_new (i := 1) (by decide) rfl (by simp)).trans hF.1) ((eval_new (i := 6) (by decide) rfl (by simp)).trans hF.2.1) (by kernel_rfl) (signed_any t (m - n) wx HK.out) (fun e w' h => ⟨_, h.1, rfl, h.2⟩)
      intro xs wx hG _ hF
      obtain ⟨f0, f1, f2, f3, f4, f5, f6, f7, _⟩ := hF
      have f7 : xs 7 = .agg (widL (sg t (m - n)) (m - n)) := f7
      simp only [fillIn, Act.put, List.setIfInBounds_toArray, List.set_cons_zero, List.set_cons_succ, f7, List.drop_succ_cons, List.drop_zero, List.length_cons, List.length_nil]
      obtain ⟨kA, kB, kR, kW⟩ := hG
      generalize xs 0 = z0
      generalize xs 1 = z1
      generalize xs 2 = z2
      generalize xs 3 = z3
      generalize xs 4 = z4
      generalize xs 5 = z5
      generalize xs 6 = z6
      refine wpList_store_row rfl 25 _ _ rfl (w.heap.size + 1 + 1) (widL (sg t (m - n)) (m - n)) rfl rfl 25 _ kR info_wide rfl (widF_ones _ (wd (m - n))) ?_
      clear kA kB f0 f1 f2 f3 f4 f5 f6 f7
      have KR := Lib.hid (kR.row (widL (sg t (m - n)) (m - n)))
      have KW := below_row kW (g := (w.heap.size + 1 + 1)) (by omega) (widL (sg t (m - n)) (m - n))
      clear kR
      generalize World.setRow _ _ _ = W3 at KR KW ⊢
      go_wp2
      exact gives_row_tmp rfl (w.heap.size + 1 + 1) 25 (widL (sg t (m - n)) (m - n)) _ (.int .i64 0) rfl rfl KR.out under_wide rfl info_wide rfl ⟨by rw [HV.out], KW⟩
    · have HL := Lib.hid (show m ≤ n by omega)
      have HK := Lib.hid (show n - m < M256 by omega)
      have HV := Lib.hid (addV_more hst hlt)
      have hsub : ∀ w, Calls Try.prog 47 #[.agg (magL n), .agg (magL m)] w (Gives (.agg (magL (n - m))) w) := fun w => by
        have := psubtract_any n m w hm
        rwa [subN_of_le (by omega) hn] at this
      have HS := Lib.hid hsub
      clear hn hm hst hlt hsub
      unfold widL
      go_enter Try.func24, Try.ntmps24
      go_wp2_with fail
      refine (pcompare_ge n m _ HN.out HM.out HL.out).mono ?_
      rintro e w1 ⟨c, hc, rfl, hb⟩
      have kA : Hid (Blk w1 w.heap.size 25 (widL s n)) := Blk.below (((Blk.new _ _ _).old _).old _) hb
      have kB : Hid (Blk w1 (w.heap.size + 1) 25 (widL t m)) := Blk.below ((Blk.newAt (by simp) _ _).old _) hb
      have kR : Hid (Blk w1 (w.heap.size + 1 + 1) 25 wid0) := Blk.below (Blk.newAt (by simp) _ _) hb
      have kW : Below w.heap.size w w1 := (below3 _ _ _ _).trans (hb.mono (by simp; omega))
      clear hb
      have hG : AddG s n t m w w1.drew := ⟨kA.out.drew, kB.out.drew, kR.out.drew, kW.drew⟩
      clear kA kB kR kW
      go_wp2_with fail
      refine region_steps (ds := [some 42, some 43, some 44, some 45, some 46, some 47, some 48, some 49]) [] [[], [0], [], [2], [], [4], [3, 5], [1, 6]] (fun _ => false) (constF [.pointer (some ⟨w.heap.size, 0, none⟩), .bool s, .pointer (some ⟨w.heap.size, 1, none⟩), .agg (magL n), .pointer (some ⟨(w.heap.size + 1), 1, none⟩), .agg (magL m), .agg (magL (n - m)), .agg (widL (sg s (n - m)) (n - m))]) (AddG s n t m w) follows_mixed (by kernel_rfl) (by kernel_rfl) (fun _ _ => AddG.ext) (constF_ext _) hG ?_ ?_
      · refine steps_cons ?_ (steps_cons ?_ (steps_cons ?_ (steps_cons ?_ (steps_cons ?_ (steps_cons ?_ (steps_cons ?_ (steps_cons ?_ steps_nil)))))))
        · exact fun xs wx hG _ => step_value _ (w' := wx) (by simp only [fillIn, Act.put, List.setIfInBounds_toArray, List.set_cons_zero, List.set_cons_succ]; go_simp) rfl (Below.refl _ _)
        · intro xs wx hG hF
          have f1 : xs 0 = .pointer (some ⟨w.heap.size, 0, none⟩) := hF.1
          obtain ⟨c0, c1, c2, c3, c4⟩ := wide_cells hG.1
          exact step_value (.bool s) (w' := wx) (by simp only [fillIn, Act.put, List.setIfInBounds_toArray, List.set_cons_zero, List.set_cons_succ, f1]; go_simp) rfl (Below.refl _ _)
        · exact fun xs wx hG _ => step_value _ (w' := wx) (by simp only [fillIn, Act.put, List.setIfInBounds_toArray, List.set_cons_zero, List.set_cons_succ]; go_simp) rfl (Below.refl _ _)
        · intro xs wx hG hF
          have f1 : xs 2 = .pointer (some ⟨w.heap.size, 1, none⟩) := hF.1
          obtain ⟨c0, c1, c2, c3, c4⟩ := wide_cells hG.1
          exact step_value (.agg (magL n)) (w' := wx) (by simp only [fillIn, Act.put, List.setIfInBounds_toArray, List.set_cons_zero, List.set_cons_succ, f1]; go_simp) rfl (Below.refl _ _)
        · exact fun xs wx hG _ => step_value _ (w' := wx) (by simp only [fillIn, Act.put, List.setIfInBounds_toArray, List.set_cons_zero, List.set_cons_succ]; go_simp) rfl (Below.refl _ _)
        · intro xs wx hG hF
          have f1 : xs 4 = .pointer (some ⟨(w.heap.size + 1), 1, none⟩) := hF.1
          obtain ⟨c0, c1, c2, c3, c4⟩ := wide_cells hG.2.1
          exact step_value (.agg (magL m)) (w' := wx) (by simp only [fillIn, Act.put, List.setIfInBounds_toArray, List.set_cons_zero, List.set_cons_succ, f1]; go_simp) rfl (Below.refl _ _)
        · exact fun xs wx hG hF => step_call2 47 (.tmp 45) (.tmp 47) #[45, 45] (.agg (magL n)) (.agg (magL m)) rfl ((eval_new (i := 3) (by decide) rfl (by simp)).trans hF.1) ((eval_new (i := 5) (by decide) rfl (by simp)).trans hF.2.1) (by kernel_rfl) (HS.out wx) (fun e w' h => ⟨_, h.1, rfl, h.2⟩)
        · exact fun xs wx hG hF => step_call2 39 (.tmp 43) (.tmp 48) #[4, 45] (.bool s) (.agg (magL (n - m))) rfl ((eval_new (i := 1) (by decide) rfl (by simp)).trans hF.1) ((eval_new (i := 6) (by decide) rfl (by simp)).trans hF.2.1) (by kernel_rfl) (signed_any s (n - m) wx HK.out) (fun e w' h => ⟨_, h.1, rfl, h.2⟩)
      intro xs wx hG _ hF
      obtain ⟨f0, f1, f2, f3, f4, f5, f6, f7, _⟩ := hF
      have f7 : xs 7 = .agg (widL (sg s (n - m)) (n - m)) := f7
      simp only [fillIn, Act.put, List.setIfInBounds_toArray, List.set_cons_zero, List.set_cons_succ, f7, List.drop_succ_cons, List.drop_zero, List.length_cons, List.length_nil]
      obtain ⟨kA, kB, kR, kW⟩ := hG
      generalize xs 0 = z0
      generalize xs 1 = z1
      generalize xs 2 = z2
      generalize xs 3 = z3
      generalize xs 4 = z4
      generalize xs 5 = z5
      generalize xs 6 = z6
      refine wpList_store_row rfl 25 _ _ rfl (w.heap.size + 1 + 1) (widL (sg s (n - m)) (n - m)) rfl rfl 25 _ kR info_wide rfl (widF_ones _ (wd (n - m))) ?_
      clear kA kB f0 f1 f2 f3 f4 f5 f6 f7
      have KR := Lib.hid (kR.row (widL (sg s (n - m)) (n - m)))
      have KW := below_row kW (g := (w.heap.size + 1 + 1)) (by omega) (widL (sg s (n - m)) (n - m))
      clear kR
      generalize World.setRow _ _ _ = W3 at KR KW ⊢
      go_wp2
      exact gives_row_tmp rfl (w.heap.size + 1 + 1) 25 (widL (sg s (n - m)) (n - m)) _ (.int .i64 0) rfl rfl KR.out under_wide rfl info_wide rfl ⟨by rw [HV.out], KW⟩
end Go.Proofs.Ytnpgikjahfhaoaa
