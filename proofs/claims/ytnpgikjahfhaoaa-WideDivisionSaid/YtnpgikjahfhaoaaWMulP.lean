/-
  The program's product.
-/
import Derived.Test.YtnpgikjahfhaoaaWMulM
import Derived.Test.YtnpgikjahfhaoaaWJoin2
import Derived.Test.YtnpgikjahfhaoaaWTool
import Derived.Laws.CopyOwn
namespace Go.Proofs.Ytnpgikjahfhaoaa
open Go.RowKit Go.Proofs.WM Go.Proofs.Reg

def mulF (n m B : Nat) : Nat → Value → World → Prop
  | 0, v, _ => v = .agg (magL n)
  | 1, v, _ => v = .agg (halL n)
  | 2, v, _ => v = .agg (magL m)
  | 3, v, _ => v = .agg (halL m)
  | 4, v, w => PtrTo B 69 hal0 v w
  | _, v, w => PtrTo B 69 hal0 v w
def MulG (n m : Nat) (w0 w : World) : Prop := Blk w w0.heap.size 45 (magL n) ∧ Blk w (w0.heap.size + 1) 45 (magL m) ∧ Blk w (w0.heap.size + 1 + 1) 45 mag0 ∧ Below w0.heap.size w0 w
theorem MulG.ext {n m : Nat} {w0 wa wb : World} (h : MulG n m w0 wa) (he : Ext [] wa wb) : MulG n m w0 wb := by
  obtain ⟨h0, h1, h2, h3⟩ := h
  have hb := he.to
  exact ⟨h0.below hb, h1.below hb, h2.below hb, h3.trans (hb.mono h3.size)⟩
theorem mulF_ext (n m B : Nat) (i : Nat) (v : Value) (wa wb : World) (h : mulF n m B i v wa) (hb : Ext [] wa wb) : mulF n m B i v wb := by
  match i, h with
  | 0, h => exact h
  | 1, h => exact h
  | 2, h => exact h
  | 3, h => exact h
  | 4, h => exact PtrTo.ext h hb
  | _ + 5, h => exact PtrTo.ext h hb

theorem info_u64 : (Try.prog.info? 22).map (·.size) = some 1 := by kernel_rfl
theorem under_sl : Try.prog.underlying 76 = some (.slice 22) := by kernel_rfl
theorem under_arr16 : Try.prog.underlying 74 = some (.array (Try.prog.arrayLen 74) (Try.prog.elem 74)) := by kernel_rfl
theorem under_hal' : Try.prog.underlying 69 = some (.array (Try.prog.arrayLen 69) (Try.prog.elem 69)) := by kernel_rfl
theorem len_arr16 : Try.prog.arrayLen 74 = 16 := by kernel_rfl
theorem len_hal : Try.prog.arrayLen 69 = 8 := by kernel_rfl
theorem size_arr16 (w : World) : (sizeOf (Try.prog.elem 74)).run Try.prog w = .ok 1 w := by kernel_rfl
theorem size_hal (w : World) : (sizeOf (Try.prog.elem 69)).run Try.prog w = .ok 1 w := by kernel_rfl
theorem slice_hal (w : World) (g : Nat) : (Instr.sliceAt 69 (.pointer (some ⟨g, 0, none⟩)) none none none).run Try.prog w = .ok (.slice (some ⟨g, 0, none⟩) 8 8) w := by
  rw [run_sliceAt_array_all w _ _ under_hal', size_hal]
  simp [Result.andThen, slicedAt, len_hal, Addr.add]
theorem slice_16 (w : World) (g : Nat) : (Instr.sliceAt 74 (.pointer (some ⟨g, 0, none⟩)) none none none).run Try.prog w = .ok (.slice (some ⟨g, 0, none⟩) 16 16) w := by
  rw [run_sliceAt_array_all w _ _ under_arr16, size_arr16]
  simp [Result.andThen, slicedAt, len_arr16, Addr.add]
theorem slice_16b (w : World) (g : Nat) : (Instr.sliceAt 74 (.pointer (some ⟨g, 0, none⟩)) (some (.int .i64 8)) none none).run Try.prog w = .ok (.slice (some ⟨g, 8, none⟩) 8 8) w := by
  rw [run_sliceAt_array_l w _ _ under_arr16 .i64 _ (by omega) (by rw [len_arr16]; omega), size_arr16]
  simp [Result.andThen, slicedAt, len_arr16, Addr.add]
def CopyG (w0 : World) (ga gb gp gr : Nat) (ra rb : Array Value) (p : Nat) (w : World) : Prop := Blk w ga 69 ra ∧ Blk w gb 69 rb ∧ Blk w gp 74 (rowF 16 (hw p)) ∧ Blk w gr 45 mag0 ∧ Below w0.heap.size w0 w
theorem CopyG.ext {w0 : World} {ga gb gp gr : Nat} {ra rb : Array Value} {p : Nat} {wa wb : World} (h : CopyG w0 ga gb gp gr ra rb p wa) (he : Ext [] wa wb) : CopyG w0 ga gb gp gr ra rb p wb := by
  obtain ⟨h0, h1, h2, h3, h4⟩ := h
  have hb := he.to
  exact ⟨h0.below hb, h1.below hb, h2.below hb, h3.below hb, h4.trans (hb.mono h4.size)⟩
theorem copied (f : Nat → Nat) : ((hal0.toList.take 0) ++ ((rowF 8 f).toList ++ hal0.toList.drop (0 + (rowF 8 f).toList.length))).toArray = rowF 8 f := by
  simp [rowF]
def JoinG (w0 : World) (ga gb gr : Nat) (lo hi : Nat) (w : World) : Prop := Blk w ga 69 (halL lo) ∧ Blk w gb 69 (halL hi) ∧ (Blk w gr 45 mag0 ∨ Blk w gr 45 (magL lo)) ∧ Below w0.heap.size w0 w
theorem JoinG.ext {w0 : World} {ga gb gr : Nat} {lo hi : Nat} {wa wb : World} (h : JoinG w0 ga gb gr lo hi wa) (ha : gr ≠ ga) (hb : gr ≠ gb) (hr : w0.heap.size ≤ gr) (he : Ext [((· == gr), 45, magL lo)] wa wb) : JoinG w0 ga gb gr lo hi wb := by
  obtain ⟨h0, h1, h2, h3⟩ := h
  refine ⟨he.row h0 (by simp; omega), he.row h1 (by simp; omega), ?_, he.below h3 h3.size (by simp; omega)⟩
  rcases h2 with h2 | h2
  · rcases he.either h2 with e | ⟨r, hr, _, e⟩
    · exact .inl e
    · simp at hr
      subst hr
      exact .inr e
  · exact .inr (he.done h2 (by simp))
def joinF (gr lo hi : Nat) : Nat → Value → World → Prop
  | 5, _, w => Blk w gr 45 (magL lo)
  | i, v, _ => v = [Value.agg (halL lo), .agg (magL lo), .agg (halL hi), .agg hal0, .bool (!(hi == 0))].getD i undef
theorem joinF_ext (gr lo hi : Nat) (i : Nat) (v : Value) (wa wb : World) (h : joinF gr lo hi i v wa) (he : Ext [((· == gr), 45, magL lo)] wa wb) : joinF gr lo hi i v wb := by
  match i, h with
  | 0, h => exact h
  | 1, h => exact h
  | 2, h => exact h
  | 3, h => exact h
  | 4, h => exact h
  | 5, h => exact he.done h (by simp)
  | _ + 6, h => exact h

set_option maxHeartbeats 4000000 in
theorem pmultiply_any (n m : Nat) (w : World) (hn : n < M256) (hm : m < M256) :
    Calls Try.prog 50 #[.agg (magL n), .agg (magL m)] w (Gives (.tuple #[.agg (magL (mulN n m)), .bool (mulB n m)]) w) := by
  go_enter Try.func50, Try.ntmps50
  go_wp2_with fail
  go_cut [6, 7] (fun s6 s7 wx => ∃ g6 g7 : Nat, s6 = .pointer (some ⟨g6, 0, none⟩) ∧ s7 = .pointer (some ⟨g7, 0, none⟩) ∧ w.heap.size + 1 + 1 < g6 ∧ w.heap.size + 1 + 1 < g7 ∧ g6 ≠ g7 ∧ Hid (Blk wx g6 69 (halL n)) ∧ Hid (Blk wx g7 69 (halL m)) ∧ Hid (Blk wx (w.heap.size + 1 + 1) 45 mag0) ∧ Below w.heap.size w wx)
  case first =>
    refine region_steps (ds := [some 15, some 16, some 17, some 18, some 6, some 7]) [] [[], [0], [], [2], [], []] (fun i => i == 4 || i == 5) (mulF n m (w.heap.size + 1 + 1 + 1)) (MulG n m w) follows_mixed (by kernel_rfl) (by kernel_rfl) (fun _ _ => MulG.ext) (mulF_ext _ _ _) ?_ ?_ ?_
    · exact ⟨(((Blk.new _ _ _).old _).old _).drew, ((Blk.newAt (by simp) _ _).old _).drew, (Blk.newAt (by simp) _ _).drew, ((((Below.refl _ _).alloc (Nat.le_refl _) _).alloc (by simp) _).alloc (by simp; omega) _).drew⟩
    · refine steps_cons ?_ (steps_cons ?_ (steps_cons ?_ (steps_cons ?_ (steps_cons ?_ (steps_cons ?_ steps_nil)))))
      · exact fun xs wx hG _ => step_row 45 (.tmp 2) rfl w.heap.size (eval_old (by decide)) 45 (magL n) _ hG.1 under_mag rfl info_mag rfl
      · exact fun xs wx hG hF => step_call1 58 (.tmp 15) #[45] (.agg (magL n)) rfl ((eval_new (i := 0) (by decide) rfl (by simp)).trans hF.1) (by kernel_rfl) (psplit_any n wx) (fun e w' h => ⟨_, h.1, rfl, h.2⟩)
      · exact fun xs wx hG _ => step_row 45 (.tmp 3) rfl (w.heap.size + 1) (eval_old (by decide)) 45 (magL m) _ hG.2.1 under_mag rfl info_mag rfl
      · exact fun xs wx hG hF => step_call1 58 (.tmp 17) #[45] (.agg (magL m)) rfl ((eval_new (i := 2) (by decide) rfl (by simp)).trans hF.1) (by kernel_rfl) (psplit_any m wx) (fun e w' h => ⟨_, h.1, rfl, h.2⟩)
      · exact fun xs wx hG _ => step_alloc (.cells hal0 69) (by go_simp) ⟨_, rfl, Blk.lt hG.2.2.1, Blk.new _ _ _⟩
      · exact fun xs wx hG _ => step_alloc (.cells hal0 69) (by go_simp) ⟨_, rfl, Blk.lt hG.2.2.1, Blk.new _ _ _⟩
    · intro xs wx hG ha hF
      have hne := ha 4 5 (by decide) (by decide) rfl rfl (by decide)
      obtain ⟨f0, f1, f2, f3, ⟨g6, f4, l6, b6⟩, ⟨g7, f5, l7, b7⟩, _⟩ := hF
      have f0 : xs 0 = .agg (magL n) := f0
      have f1 : xs 1 = .agg (halL n) := f1
      have f2 : xs 2 = .agg (magL m) := f2
      have f3 : xs 3 = .agg (halL m) := f3
      rw [f4, f5] at hne
      have h67 : g6 ≠ g7 := fun e => hne (by rw [e])
      obtain ⟨G0, G1, G2, GB⟩ := hG
      simp only [fillIn, Act.put, List.setIfInBounds_toArray, List.set_cons_zero, List.set_cons_succ, f0, f1, f2, f3, f4, f5, List.drop_succ_cons, List.drop_zero, List.length_cons, List.length_nil]
      refine wpList_store_row rfl 69 _ _ rfl g6 _ rfl rfl 69 _ b6 info_hal rfl (rowF_ones 8 (hw n)) ?_
      refine wpList_store_row rfl 69 _ _ rfl g7 _ rfl rfl 69 _ (b7.rowOther (fun e => h67 e.symm) _) info_hal rfl (rowF_ones 8 (hw m)) ?_
      refine wpList_nil ?_
      go_wp2
      go_meet
      exact ⟨g6, g7, rfl, rfl, l6, l7, h67, (b6.row _).rowOther h67 _, (b7.rowOther (fun e => h67 e.symm) _).row _, (G2.rowOther (by omega) _).rowOther (by omega) _, below_row (below_row GB (by omega) _) (by omega) _⟩
  case rest =>
    obtain ⟨g6, g7, rfl, rfl, l6, l7, h67, b6, b7, b2, hB⟩ := hcut
    have z6 := b6.out.lt
    have z7 := b7.out.lt
    have z2 := b2.out.lt
    have HN := Lib.hid hn
    have HM := Lib.hid hm
    clear hn hm
    go_wp2
    go_loopw [9, 10, 11, 12, 19, 22] (fun _ _ _ _ i _ wr => ∃ k : Nat, k ≤ 8 ∧ i = .int .i64 (k : Int) ∧ Hid (Blk wr g6 69 (halL n)) ∧ Hid (Blk wr g7 69 (halL m)) ∧ Hid (Blk wr (w.heap.size + 1 + 1) 45 mag0) ∧ Hid (Blk wr wc.heap.size 74 (rowF 16 (hw (mulD n m k)))) ∧ Below w.heap.size w wr) (fun _ _ _ _ i _ _ => 8 - (intOf i).toNat)
    case atStart =>
      exact ⟨0, by omega, rfl, b6.out.old _, b7.out.old _, b2.out.old _, (Blk.newAt rfl _ _).of_eq (by rw [mulD_zero]; simp [rowF, hw_zero, List.range_succ]), hB.alloc hB.size _⟩
    case round =>
      obtain ⟨k, hk, rfl, h0, h1, h2, h3, gB0⟩ := hrel
      by_cases hlt : k < 8
      · obtain ⟨wo, hwo⟩ : ∃ wo : World, wo = wr := ⟨_, rfl⟩
        subst hwo
        go_wp2
        go_loopw [10, 11, 12, 22] (fun c _ _ j wi => ∃ l : Nat, l ≤ 8 ∧ j = .int .i64 (l : Int) ∧ c = .int .u64 ((mcN n m k l : Nat) : Int) ∧ Hid (Blk wi g6 69 (halL n)) ∧ Hid (Blk wi g7 69 (halL m)) ∧ Hid (Blk wi (w.heap.size + 1 + 1) 45 mag0) ∧ Hid (Blk wi wc.heap.size 74 (rowF 16 (mix (k + l) (hw (mulD n m (k + 1))) (hw (mulD n m k))))) ∧ Below w.heap.size w wi) (fun _ _ _ j _ => 8 - (intOf j).toNat)
        case atStart =>
          exact ⟨0, by omega, rfl, val_u64 (by rw [mcN_zero]; rfl), h0.out, h1.out, h2.out, h3.out.of_eq (row_start n m k), gB0⟩
        case round =>
          obtain ⟨l, hl, rfl, rfl, g0, g1, g2, g3, gB⟩ := hrel
          by_cases hll : l < 8
          · have a0 : wr.cell? ⟨g6, k, none⟩ = some (.int .u64 ((hw n k : Nat) : Int)) := by
              rw [g0.out.cell, ← rowF8]; exact rowF_at _ hlt
            have a1 : wr.cell? ⟨g7, l, none⟩ = some (.int .u64 ((hw m l : Nat) : Int)) := by
              rw [g1.out.cell, ← rowF8]; exact rowF_at _ hll
            have a3 : wr.cell? ⟨wc.heap.size, k + l, none⟩ = some (.int .u64 ((hw (mulD n m k) (k + l) : Nat) : Int)) := by
              rw [g3.out.at_ (by omega), mix_at]
            have f3 := g3.out.frozen (k + l)
            have HC := Lib.hid (mcN_succ n m k l)
            have HD := Lib.hid (digit_row n m k l)
            have hsum := sum_le (hw_lt n k) (hw_lt m l) (hw_lt (mulD n m k) (k + l)) (mcN_lt n m k l)
            generalize hw n k = X at *
            generalize hw m l = Y at *
            generalize hw (mulD n m k) (k + l) = D at *
            generalize mcN n m k l = C at *
            obtain ⟨Z, hZ⟩ : ∃ Z, Z = X * Y := ⟨_, rfl⟩
            have z0 : IntKind.u64.wrap ((X : Int) * (Y : Int)) = (Z : Int) := by
              rw [hZ, Int.natCast_mul]
              refine wrap_in _ (by rw [← Int.natCast_mul]; omega) (by rw [← Int.natCast_mul]; omega)
            rw [← hZ] at HC HD hsum
            clear hZ
            have s0 : IntKind.u64.wrap ((Z : Int) + (D : Int)) = (Z : Int) + (D : Int) := wrap_in _ (by omega) (by omega)
            have s1 : IntKind.u64.wrap ((Z : Int) + (D : Int) + (C : Int)) = (Z : Int) + (D : Int) + (C : Int) := wrap_in _ (by omega) (by omega)
            have i0 : IntKind.i64.wrap ((k : Int) + (l : Int)) = (k : Int) + (l : Int) := Go.IntWalk.i64_in _ (by omega)
            have HS := Lib.hid hsum
            clear hsum
            go_wp2_with fail
            go_region
            go_wp2
            have e0 : bits .and .u64 ((Z : Int) + (D : Int) + (C : Int)) 4294967295 = ((hw (mulD n m (k + 1)) (k + l) : Nat) : Int) := by
              have := HS.out
              rw [and_low32 _ (by omega) (by omega), HD.out]; omega
            have e1 : ((Z : Int) + (D : Int) + (C : Int)) / 4294967296 = ((mcN n m k (l + 1) : Nat) : Int) := by rw [HC.out]; omega
            rw [e0, e1]
            refine ⟨⟨l + 1, by omega, by go_num, rfl, (g0.out.other (by simp <;> omega) _).drew, (g1.out.other (by simp <;> omega) _).drew, (g2.out.other (by simp <;> omega) _).drew, ((g3.out.set_ _ _).of_eq ?_).drew, (gB.setCell (by simp <;> omega) _).drew⟩, by simp [intOf]; omega⟩
            rw [rowF_set, mix_put]
            rfl
          · obtain rfl : l = 8 := by omega
            have a3 : wr.cell? ⟨wc.heap.size, k + 8, none⟩ = some (.int .u64 ((hw (mulD n m k) (k + 8) : Nat) : Int)) := by
              rw [g3.out.at_ (by omega), mix_at]
            have f3 := g3.out.frozen (k + 8)
            have HT := Lib.hid (carry_top HM.out (n := n) k)
            go_wp2
            rw [HT.out]
            refine ⟨⟨k + 1, by omega, by go_num, g0.out.other (by simp <;> omega) _, g1.out.other (by simp <;> omega) _, g2.out.other (by simp <;> omega) _, (g3.out.set_ _ _).of_eq ?_, gB.setCell (by simp <;> omega) _⟩, by simp [intOf]; omega⟩
            rw [rowF_set, mix_put, row_end HM.out]
      · obtain rfl : k = 8 := by omega
        obtain ⟨p, hp⟩ : ∃ p, p = mulD n m 8 := ⟨_, rfl⟩
        have HP := Lib.hid hp
        rw [← hp] at h3
        clear hp
        obtain ⟨wo, hwo⟩ : ∃ wo : World, wo = wr := ⟨_, rfl⟩
        subst hwo
        have y3 := h3.out.lt
        go_wp2_with fail
        have hG1 : CopyG w wo.heap.size (wo.heap.size + 1) wc.heap.size (w.heap.size + 1 + 1) hal0 hal0 p ((wo.alloc (.cells hal0 69)).alloc (.cells hal0 69)) :=
          ⟨(Blk.new _ _ _).old _, Blk.newAt (by simp) _ _, (h3.out.old _).old _, (h2.out.old _).old _, (gB0.alloc (by omega) _).alloc (by simp; omega) _⟩
        unfold hal0 at hG1
        generalize World.alloc _ _ = W1 at hG1 ⊢
        refine region_steps (ds := [some 54, some 55]) [] [[], []] (fun _ => false) (constF [.slice (some ⟨wo.heap.size, 0, none⟩) 8 8, .slice (some ⟨wc.heap.size, 0, none⟩) 16 16]) (CopyG w wo.heap.size (wo.heap.size + 1) wc.heap.size (w.heap.size + 1 + 1) hal0 hal0 p) follows_mixed (by kernel_rfl) (by kernel_rfl) (fun _ _ => CopyG.ext) (constF_ext _) (hG1.ext (.of (Below.refl _ _).drew)) ?_ ?_
        · refine steps_cons ?_ (steps_cons ?_ steps_nil)
          · exact fun xs wx hG _ => step_slice 69 (.tmp 13) none none none _ _ rfl (eval_old (by decide)) (slice_hal wx wo.heap.size) rfl
          · exact fun xs wx hG _ => step_slice 74 (.tmp 8) none none none _ _ rfl (eval_old (by decide)) (slice_16 wx wc.heap.size) rfl
        intro xs wx hG _ hF
        obtain ⟨f0, f1, _⟩ := hF
        have f0 : xs 0 = .slice (some ⟨wo.heap.size, 0, none⟩) 8 8 := f0
        have f1 : xs 1 = .slice (some ⟨wc.heap.size, 0, none⟩) 16 16 := f1
        obtain ⟨k0, k1, k2, k3, kB⟩ := hG
        simp only [fillIn, Act.put, List.setIfInBounds_toArray, List.set_cons_zero, List.set_cons_succ, f0, f1, List.drop_succ_cons, List.drop_zero, List.length_cons, List.length_nil]
        refine wpList_copy_own rfl (.tmp 54) (.tmp 55) 76 76 rfl 22 under_sl info_u64 wo.heap.size 0 8 8 ⟨wc.heap.size, 0, none⟩ 16 16 rfl rfl hal0 69 k0 (rowF 8 (hw p)).toList (by rfl) (fun j v hj => ?_) (by simp [rowF]) (rowF_one (hw p)) ?_
        · have hj' : (rowF 8 (hw p))[j]? = some v := by simpa using hj
          have hj8 : j < 8 := by
            have := (Array.getElem?_eq_some_iff.1 hj').1
            rwa [rowF_size] at this
          rw [rowF_at _ hj8] at hj'
          rw [Go.WideShapes.add_plain, Nat.zero_add, k2.at_ (by omega)]
          exact hj'
        refine wpList_nil ?_
        rw [copied]
        go_wp2_with fail
        have hG2 : CopyG w wo.heap.size (wo.heap.size + 1) wc.heap.size (w.heap.size + 1 + 1) (rowF 8 (hw p)) hal0 p (wx.setRow wo.heap.size (rowF 8 (hw p))) :=
          ⟨k0.row _, k1.rowOther (by omega) _, k2.rowOther (by omega) _, k3.rowOther (by omega) _, below_row kB (by omega) _⟩
        generalize World.setRow _ _ _ = W2 at hG2 ⊢
        clear k0 k1 k2 k3 kB f0 f1 hG1
        refine region_steps (ds := [some 57, some 58]) [] [[], []] (fun _ => false) (constF [.slice (some ⟨wo.heap.size + 1, 0, none⟩) 8 8, .slice (some ⟨wc.heap.size, 8, none⟩) 8 8]) (CopyG w wo.heap.size (wo.heap.size + 1) wc.heap.size (w.heap.size + 1 + 1) (rowF 8 (hw p)) hal0 p) follows_mixed (by kernel_rfl) (by kernel_rfl) (fun _ _ => CopyG.ext) (constF_ext _) (hG2.ext (.of (Below.refl _ _).drew)) ?_ ?_
        · refine steps_cons ?_ (steps_cons ?_ steps_nil)
          · exact fun xs wx hG _ => step_slice 69 (.tmp 14) none none none _ _ rfl (eval_old (by decide)) (slice_hal wx (wo.heap.size + 1)) rfl
          · exact fun xs wx hG _ => step_slice 74 (.tmp 8) (some (.const (.int .i64 8))) none none _ _ rfl (eval_old (by decide)) (slice_16b wx wc.heap.size) rfl
        intro ys wy hG _ hF
        obtain ⟨f0, f1, _⟩ := hF
        have f0 : ys 0 = .slice (some ⟨wo.heap.size + 1, 0, none⟩) 8 8 := f0
        have f1 : ys 1 = .slice (some ⟨wc.heap.size, 8, none⟩) 8 8 := f1
        obtain ⟨k0, k1, k2, k3, kB⟩ := hG
        simp only [fillIn, Act.put, List.setIfInBounds_toArray, List.set_cons_zero, List.set_cons_succ, f0, f1, List.drop_succ_cons, List.drop_zero, List.length_cons, List.length_nil]
        refine wpList_copy_own rfl (.tmp 57) (.tmp 58) 76 76 rfl 22 under_sl info_u64 (wo.heap.size + 1) 0 8 8 ⟨wc.heap.size, 8, none⟩ 8 8 rfl rfl hal0 69 k1 (rowF 8 (hw (p / M256))).toList (by rfl) (fun j v hj => ?_) (by simp [rowF]) (rowF_one (hw (p / M256))) ?_
        · have hj' : (rowF 8 (hw (p / M256)))[j]? = some v := by simpa using hj
          have hj8 : j < 8 := by
            have := (Array.getElem?_eq_some_iff.1 hj').1
            rwa [rowF_size] at this
          rw [rowF_at _ hj8, ← hw_upper] at hj'
          rw [Go.WideShapes.add_plain, k2.at_ (by omega)]
          exact hj'
        refine wpList_nil ?_
        rw [copied]
        go_wp2_with fail
        have hG3 : CopyG w wo.heap.size (wo.heap.size + 1) wc.heap.size (w.heap.size + 1 + 1) (halL (mulN n m)) (halL (n * m / M256)) p (wy.setRow (wo.heap.size + 1) (rowF 8 (hw (p / M256)))) := by
          have hpn : p = n * m := HP.out.trans (mulD_full HN.out)
          refine ⟨((k0.rowOther (by omega) _).of_eq ?_), ((k1.row _).of_eq ?_), k2.rowOther (by omega) _, k3.rowOther (by omega) _, below_row kB (by omega) _⟩
          · rw [← rowF8]
            exact rowF_ext fun i hi => by rw [hw_mulN HN.out i hi, ← HP.out]
          · rw [← hpn]; rfl
        generalize World.setRow _ _ _ = W3 at hG3 ⊢
        clear k0 k1 k2 k3 kB f0 f1 hG2
        have hlo := mulN_lt n m
        have hhi := upper_lt HN.out HM.out
        have hJ : JoinG w wo.heap.size (wo.heap.size + 1) (w.heap.size + 1 + 1) (mulN n m) (n * m / M256) W3.drew := ⟨hG3.1.drew, hG3.2.1.drew, .inl hG3.2.2.2.1.drew, hG3.2.2.2.2.drew⟩
        have ha : w.heap.size + 1 + 1 ≠ wo.heap.size := by omega
        have hb : w.heap.size + 1 + 1 ≠ wo.heap.size + 1 := by omega
        refine region_steps (ds := [some 60, some 61, some 62, some 63, some 64, none]) [((· == w.heap.size + 1 + 1), 45, magL (mulN n m))] [[], [0], [], [], [2, 3], [1]] (fun _ => false) (joinF (w.heap.size + 1 + 1) (mulN n m) (n * m / M256)) (JoinG w wo.heap.size (wo.heap.size + 1) (w.heap.size + 1 + 1) (mulN n m) (n * m / M256)) follows_mixed (by kernel_rfl) (by kernel_rfl) (fun _ _ h he => h.ext ha hb (by omega) he) (joinF_ext _ _ _) hJ ?_ ?_
        · refine steps_cons ?_ (steps_cons ?_ (steps_cons ?_ (steps_cons ?_ (steps_cons ?_ (steps_cons ?_ steps_nil)))))
          · exact fun xs wx hG _ => step_row 69 (.tmp 13) rfl wo.heap.size (eval_old (by decide)) 69 _ _ hG.1 under_hal rfl info_hal rfl
          · exact fun xs wx hG hF => step_call1 60 (.tmp 60) #[69] (.agg (halL (mulN n m))) rfl ((eval_new (i := 0) (by decide) rfl (by simp)).trans hF.1) (by kernel_rfl) (pjoin_any _ wx) (fun e w' h => ⟨_, h.1, rfl, h.2⟩)
          · exact fun xs wx hG _ => step_row 69 (.tmp 14) rfl (wo.heap.size + 1) (eval_old (by decide)) 69 _ _ hG.2.1 under_hal rfl info_hal rfl
          · exact fun xs wx hG _ => step_value (.agg hal0) (w' := wx) (by go_simp) rfl (Below.refl _ _)
          · exact fun xs wx hG hF => step_bin .neq 69 _ (.tmp 62) (.tmp 63) (.agg (halL (n * m / M256))) (.agg hal0) _ rfl ((eval_new (i := 2) (by decide) rfl (by simp)).trans hF.1) ((eval_new (i := 3) (by decide) rfl (by simp)).trans hF.2.1) (by go_simp) (by rw [run_neq_struct, eq_hal0 _ hhi]; rfl) rfl
          · intro xs wx hG hF
            rcases hG.2.2.1 with hr | hr
            · exact step_store 45 (.tmp 4) (.tmp 61) rfl (w.heap.size + 1 + 1) (magL (mulN n m)) (eval_old (by decide)) ((eval_new (i := 1) (by decide) rfl (by simp)).trans hF.1) _ _ hr info_mag rfl (rowF_ones 4 (wd (mulN n m))) ⟨_, List.mem_singleton.2 rfl, by simp, rfl, rfl⟩ (hr.row _)
            · exact step_store 45 (.tmp 4) (.tmp 61) rfl (w.heap.size + 1 + 1) (magL (mulN n m)) (eval_old (by decide)) ((eval_new (i := 1) (by decide) rfl (by simp)).trans hF.1) _ _ hr info_mag rfl (rowF_ones 4 (wd (mulN n m))) ⟨_, List.mem_singleton.2 rfl, by simp, rfl, rfl⟩ (hr.row _)
        intro zs wz hG _ hF
        obtain ⟨f0, f1, f2, f3, f4, f5, _⟩ := hF
        have f4 : zs 4 = .bool (!(n * m / M256 == 0)) := f4
        rw [upper_zero] at f4
        simp only [fillIn, Act.put, List.setIfInBounds_toArray, List.set_cons_zero, List.set_cons_succ, f4, List.drop_succ_cons, List.drop_zero, List.length_cons, List.length_nil]
        obtain ⟨k0, k1, k2, kB⟩ := hG
        clear k2
        generalize zs 0 = z0
        generalize zs 1 = z1
        generalize zs 2 = z2
        generalize zs 3 = z3
        go_wp2
        refine gives_row_tmp rfl (w.heap.size + 1 + 1) 45 _ _ _ rfl rfl f5 under_mag rfl info_mag rfl ⟨rfl, kB⟩
end Go.Proofs.Ytnpgikjahfhaoaa
