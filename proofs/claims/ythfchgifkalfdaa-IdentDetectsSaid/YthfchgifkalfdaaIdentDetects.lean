/-
  For every string s, every place and every byte the law IdentDetects (P4.8) returns true and leaves its arguments alone: a byte that is replaced by another one, and two different neighbours that change places, are detected (the law itself asks this of strings of at most 1000 bytes and places inside of them). No condition.
-/
import Derived.Test.YthfchgifkalfdaaRows
import Derived.WalkKit
import Derived.ProofKit
import Derived.OpenShut
import Derived.ShutString
import Derived.ChangeOld
import Derived.Below
import Derived.Test.YthfchgifkalfdaaIdMod
import Derived.Test.YthfchgifkalfdaaRegion
namespace Go.Proofs.Ythfchgifkalfdaa.identDetects
open Go.ChangeShapes Go.WideShapes Go.ChangeAt Go.RowKit Go.Proofs.Ythfchgifkalfdaa.Id Go.Proofs Go.Proofs.Reg
open Go.ChangeMaps (open_string shut_string)
set_option linter.unusedVariables false

theorem own : ownKnob Try.prog.godebug = none := by kernel_rfl

/-- string([]byte{c}). -/
theorem conv_one (W : World) (c : UInt8) : (convert 36 9 (.slice (some ⟨W.heap.size, 0, none⟩) 1 1)).run Try.prog (W.alloc (.cells #[.int .u8 (c.toNat : Int)] 5)) = .ok (.string ⟨#[c]⟩) (W.alloc (.cells #[.int .u8 (c.toNat : Int)] 5)) :=
  run_convert_bytes_back (P := Try.prog) _ 36 9 5 ⟨W.heap.size, 0, none⟩ 1 [c] Try.underlying36 Try.underlying5 Try.underlying9 (fun j hj => by
    match j, hj with
    | 0, _ => simp [Addr.add])
/-- What each operation of the statement with the replaced byte gives. -/
def detF (T O S X : ByteArray) (k : Nat) (c : UInt8) (n : Int) : Nat → Value → World → Prop
  | 0, v, _ => v = .string T
  | 1, v, _ => v = .int .i64 k
  | 2, v, _ => v = .string (T.extract 0 k)
  | 3, v, _ => v = .int .u8 (c.toNat : Int)
  | 4, v, w => ∃ g, v = .slice (some ⟨g, 0, none⟩) 1 1 ∧ w.heap[g]? = some (.cells #[.int .u8 (c.toNat : Int)] 5 (0, 0))
  | 5, v, _ => v = .string ⟨#[c]⟩
  | 6, v, _ => v = .string S
  | 7, v, _ => v = .string T
  | 8, v, _ => v = .int .i64 k
  | 9, v, _ => v = .int .i64 ((k : Int) + 1)
  | 10, v, _ => v = .string (T.extract (k + 1) T.size)
  | 11, v, _ => v = .string X
  | 12, v, _ => v = .tuple #[.string O, .int .i64 n]
  | 13, v, _ => v = .tuple #[.string O, .int .i64 n]
  | 14, v, _ => v = .string O
  | 15, v, _ => v = .int .i64 n
  | 16, v, _ => v = .string O
  | _, _, _ => True
theorem detF_ext (T O S X : ByteArray) (k : Nat) (c : UInt8) (n : Int) : ∀ i v w w', detF T O S X k c n i v w → Reg.Ext [] w w' → detF T O S X k c n i v w' := by
  intro i v w w' h he
  match i, h with
  | 0, h => exact h
  | 1, h => exact h
  | 2, h => exact h
  | 3, h => exact h
  | 4, h =>
    obtain ⟨g, hv, hg⟩ := h
    exact ⟨g, hv, he.row hg (by simp)⟩
  | 5, h => exact h
  | 6, h => exact h
  | 7, h => exact h
  | 8, h => exact h
  | 9, h => exact h
  | 10, h => exact h
  | 11, h => exact h
  | 12, h => exact h
  | 13, h => exact h
  | 14, h => exact h
  | 15, h => exact h
  | 16, h => exact h
  | _ + 17, _ => trivial
theorem conv_row {W : World} {g : Nat} {c : UInt8} (h : W.heap[g]? = some (.cells #[.int .u8 (c.toNat : Int)] 5 (0, 0))) : (convert 36 9 (.slice (some ⟨g, 0, none⟩) 1 1)).run Try.prog W = .ok (.string ⟨#[c]⟩) W :=
  run_convert_bytes_back (P := Try.prog) _ 36 9 5 ⟨g, 0, none⟩ 1 [c] Try.underlying36 Try.underlying5 Try.underlying9 (fun j hj => by
    match j, hj with
    | 0, _ => simp [Addr.add, World.cell?, h])
theorem ext_le (s : ByteArray) (a b : Nat) : (s.extract a b).size ≤ s.size := by
  rw [Lib.size_eq, Lib.extract_data, List.length_take, List.length_drop, len_data]; omega

/-! ### The walk: the law returns true, and writes nothing that was there. -/
set_option maxRecDepth 100000 in
set_option maxHeartbeats 16000000 in
theorem walk (b0 : ByteArray) (w0 : b0.size ≤ maxLen) (a1 : Int) (w1 : (Lit.int .i64 a1).wf = true) (a2 : Int) (w2 : (Lit.int .u8 a2).wf = true) (w : World) :
    Calls Try.prog 10 #[.string b0, .int .i64 a1, .int .u8 a2] w fun e w' => e = .returned (.bool true) ∧ Below w.heap.size w w' := by
  by_cases hbig : 1000 < b0.size
  · have hbig' : (1000 : Int) < (b0.size : Int) := by omega
    clear hbig
    go_enter Try.func10, Try.ntmps10
    go_wp2_with fail
    refine (alive_any _).mono ?_; rintro e w1 ⟨rfl, hb⟩
    go_wp2_with fail
    go_ret
    exact ⟨rfl, hb⟩
  · have hs' : (b0.size : Int) ≤ 1000 := by omega
    clear hbig
    by_cases hneg : a1 < 0
    · skip
      go_enter Try.func10, Try.ntmps10
      go_wp2_with fail
      refine (alive_any _).mono ?_; rintro e w1 ⟨rfl, hb⟩
      go_wp2_with fail
      go_ret
      exact ⟨rfl, hb⟩
    · by_cases hge : (b0.size : Int) ≤ a1
      · skip
        go_enter Try.func10, Try.ntmps10
        go_wp2_with fail
        refine (alive_any _).mono ?_; rintro e w1 ⟨rfl, hb⟩
        go_wp2_with fail
        go_ret
        exact ⟨rfl, hb⟩
      · obtain ⟨k, rfl⟩ : ∃ k : Nat, a1 = (k : Int) := ⟨a1.toNat, by omega⟩
        have hk : k < b0.size := by omega
        have hk' : (k : Int) < (b0.size : Int) := by omega
        have hc := bounds_u8 w2
        obtain ⟨c, rfl⟩ : ∃ c : UInt8, a2 = (c.toNat : Int) := ⟨UInt8.ofNat a2.toNat, by rw [UInt8.toNat_ofNat_of_lt' (by show _ < 256; omega)]; omega⟩
        have c1 := Lib.hid (fun w => seal_any b0 w)
        unfold SealEnd sealS sealE at c1
        clear hneg hge hc w1 w2
        obtain ⟨B, hB⟩ : ∃ B, idOk b0 = B := ⟨_, rfl⟩
        rw [hB] at c1
        have hq0 : ((⟨#[]⟩ : ByteArray).toList == (⟨#[]⟩ : ByteArray).toList) = true := beq_self_eq_true _
        cases B
        · clear hB
          go_enter Try.func10, Try.ntmps10
          go_wp2_with fail
          refine (c1.out _).mono ?_; rintro e w1 ⟨rfl, k1⟩
          go_wp2_with fail
          refine (alive_any _).mono ?_; rintro e w5 ⟨rfl, b5⟩
          go_wp2_with fail
          go_ret
          exact ⟨rfl, stepB k1 b5⟩
        · have D1 := Lib.hid (fun hc => detect_one (c := c) hB hk hc)
          have D2 := Lib.hid (fun h hc => detect_two (k := k) hB h hc)
          have hT := sealB_size b0
          have hT64 : (sealB b0).size ≤ 67 := by have := id_size hB; omega
          rw [if_pos rfl, if_pos rfl] at c1
          obtain ⟨T, hTd⟩ : ∃ T, sealB b0 = T := ⟨_, rfl⟩
          rw [hTd] at c1 D1 D2 hT hT64
          clear hB hTd
          have hTi : ((T.size : Int) != (b0.size : Int) + 3) = false := by rw [hT]; simp
          have t1 : (k : Int) ≤ (T.size : Int) := by omega
          have t2 : (k : Int) + 1 ≤ (T.size : Int) := by omega
          have t3 : (k : Int) + 2 ≤ (T.size : Int) := by omega
          have kb : (k : Int) ≤ 1000 := by omega
          clear hT
          have z1 : (0 : Int) ≤ (k : Int) + 1 := by omega
          have z2 : (0 : Int) ≤ (k : Int) + 2 := by omega
          have hw0 : IntKind.i64.wrap (k : Int) = (k : Int) := IntWalk.i64_in _ (by omega)
          have hw1 : IntKind.i64.wrap ((k : Int) + 1) = (k : Int) + 1 := IntWalk.i64_in _ (by omega)
          have hw2 : IntKind.i64.wrap ((k : Int) + 2) = (k : Int) + 2 := IntWalk.i64_in _ (by omega)
          go_enter Try.func10, Try.ntmps10
          go_wp2_with fail
          refine (c1.out _).mono ?_; rintro e w1 ⟨rfl, k1⟩
          by_cases hcx : c = b0[k]
          · have hcb : ((c.toNat : Int) != (b0[k].toNat : Int)) = false := by rw [hcx]; simp
            clear hcx
            go_wp2_with fail
            · by_cases hlast : k + 1 < b0.size
              · have hl1 : (k : Int) + 1 < (b0.size : Int) := by omega
                by_cases heq : b0[k] = b0[k + 1]
                · have hb1 : ((b0[k].toNat : Int) != (b0[k + 1].toNat : Int)) = false := by rw [heq]; simp
                  clear heq D1 D2
                  go_quiet (fail)
                  go_wp2_with fail
                  refine (alive_any _).mono ?_; rintro e w5 ⟨rfl, b5⟩
                  go_wp2_with fail
                  go_ret
                  exact ⟨rfl, stepB (below_drew' k1 nq) b5⟩
                · have hb1 : ((b0[k].toNat : Int) != (b0[k + 1].toNat : Int)) = true := bne_iff_ne.2 (fun h => heq (UInt8.toNat_inj.1 (Int.ofNat.inj h)))
                  have n2 := Lib.hid (D2.out hlast heq)
                  have g0 := ext_le T 0 k
                  have g1 := ext_le T (k + 1) (k + 2)
                  have g2 := ext_le T k (k + 1)
                  have g3 := ext_le T (k + 2) T.size
                  have f1 : ∀ W : World, (Op.stringOp .add (T.extract 0 k) (T.extract (k + 1) (k + 2))).run Try.prog W = .ok (.string (T.extract 0 k ++ T.extract (k + 1) (k + 2))) W := fun W => run_string_add_sum W _ _ (by omega)
                  obtain ⟨S1, hS1⟩ : ∃ S, T.extract 0 k ++ T.extract (k + 1) (k + 2) = S := ⟨_, rfl⟩
                  have s1 : S1.size ≤ 134 := by rw [← hS1, ByteArray.size_append]; omega
                  have f2 : ∀ W : World, (Op.stringOp .add S1 (T.extract k (k + 1))).run Try.prog W = .ok (.string (S1 ++ T.extract k (k + 1))) W := fun W => run_string_add_sum W _ _ (by omega)
                  obtain ⟨S2, hS2⟩ : ∃ S, S1 ++ T.extract k (k + 1) = S := ⟨_, rfl⟩
                  have s2 : S2.size ≤ 201 := by rw [← hS2, ByteArray.size_append]; omega
                  have f3 : ∀ W : World, (Op.stringOp .add S2 (T.extract (k + 2) T.size)).run Try.prog W = .ok (.string (S2 ++ T.extract (k + 2) T.size)) W := fun W => run_string_add_sum W _ _ (by omega)
                  obtain ⟨Y, hY⟩ : ∃ S, S2 ++ T.extract (k + 2) T.size = S := ⟨_, rfl⟩
                  have s3 : Y.size ≤ 1000 := by rw [← hY, ByteArray.size_append]; omega
                  rw [hS1] at f1 n2
                  rw [hS2] at f2 n2
                  rw [hY] at f3 n2
                  have cY := Lib.hid (fun w => open_any Y w s3)
                  unfold OpenEnd at cY
                  obtain ⟨m, hm⟩ : ∃ n, openE Y = n := ⟨_, rfl⟩
                  obtain ⟨O', hO'⟩ : ∃ O, openS Y = O := ⟨_, rfl⟩
                  rw [hm] at cY n2
                  rw [hO'] at cY
                  have hm0 : (m == 0) = false := beq_false_of_ne n2.out
                  have j1 : ((k : Int) + 1).toNat = k + 1 := by omega
                  have j2 : ((k : Int) + 2).toNat = k + 2 := by omega
                  have j3 : (k : Int) + 1 ≤ (k : Int) + 2 := by omega
                  have j4 : (k : Int) ≤ (k : Int) + 1 := by omega
                  clear heq D1 D2 g0 g1 g2 g3 hS1 s1 hS2 s2 hY s3 hm hO' n2
                  go_quiet (fail)
                  go_wp2_with fail
                  have hbq := below_drew' k1 nq
                  refine wp_region_quiet_below (by kernel_rfl) (by kernel_rfl) ?_
                  repeat (quiet_step (first | (go_at_call 25; exact Calls.regrown_of (cY.out _))))
                  refine wpQuiet_nil ?_
                  intro w4 hw4
                  obtain ⟨⟨dq, osq⟩, hw4⟩ := hw4
                  have hb4 : Below w.heap.size w w4 := by rw [hw4]; exact hbq.trans ((below_regrown _ dq osq).mono hbq.size)
                  clear hw4
                  go_wp2_with fail
                  refine (alive_any _).mono ?_; rintro e w5 ⟨rfl, b5⟩
                  go_wp2_with fail
                  go_ret
                  exact ⟨rfl, stepB hb4 b5⟩
              · have hl1 : decide ((k : Int) + 1 < (b0.size : Int)) = false := decide_eq_false (by omega)
                clear D1 D2
                go_quiet (fail)
                go_wp2_with fail
                refine (alive_any _).mono ?_; rintro e w5 ⟨rfl, b5⟩
                go_wp2_with fail
                go_ret
                exact ⟨rfl, stepB (below_drew' k1 nq) b5⟩
          have hcn : c ≠ b0[k] := hcx
          have hcb : ((c.toNat : Int) != (b0[k].toNat : Int)) = true := bne_iff_ne.2 (fun h => hcx (UInt8.toNat_inj.1 (Int.ofNat.inj h)))
          clear hcx
          go_wp2_with fail
          have n0 := Lib.hid (D1.out hcn)
          have cv := fun W => conv_one W c
          have e1 : ∀ W : World, (Op.stringOp .add (T.extract 0 k) ⟨#[c]⟩).run Try.prog W = .ok (.string (T.extract 0 k ++ ⟨#[c]⟩)) W := fun W => run_string_add_sum W _ _ (by rw [Lib.size_eq, Lib.extract_data, List.length_take, List.length_drop, len_data]; show _ + 1 ≤ _; omega)
          obtain ⟨S, hS⟩ : ∃ S, T.extract 0 k ++ ⟨#[c]⟩ = S := ⟨_, rfl⟩
          have hSs : S.size ≤ 68 := by rw [← hS, ByteArray.size_append, Lib.size_eq, Lib.extract_data, List.length_take, List.length_drop, len_data]; show _ + 1 ≤ _; omega
          have e2 : ∀ W : World, (Op.stringOp .add S (T.extract (k + 1) T.size)).run Try.prog W = .ok (.string (S ++ T.extract (k + 1) T.size)) W := fun W => run_string_add_sum W _ _ (by rw [size_drop]; omega)
          obtain ⟨X, hX⟩ : ∃ X, S ++ T.extract (k + 1) T.size = X := ⟨_, rfl⟩
          have cO := Lib.hid (fun w => open_any X w (by rw [← hX, ByteArray.size_append, size_drop]; omega))
          rw [hS] at e1 n0
          rw [hX] at e2 n0
          unfold OpenEnd at cO
          obtain ⟨n, hn⟩ : ∃ n, openE X = n := ⟨_, rfl⟩
          obtain ⟨O, hO⟩ : ∃ O, openS X = O := ⟨_, rfl⟩
          rw [hn] at cO n0
          rw [hO] at cO
          have hn0 : (n == 0) = false := beq_false_of_ne n0.out
          clear hS hSs hX hn hO n0 hcn
          refine region_steps (ds := [some 51, some 52, some 53, some 54, some 55, some 56, some 57, some 58, some 59, some 60, some 61, some 62, some 63, some 50, some 64, some 65, some 9]) [] [[], [], [0, 1], [], [3], [4], [2, 5], [], [], [8], [7, 9], [6, 10], [11], [12], [13], [13], [14]] (fun _ => false) (detF T O S X k c n) (fun W => Below w1.heap.size w1 W) (by kernel_rfl) (by kernel_rfl) (by kernel_rfl) (fun _ _ h he => stepB h he.to) (detF_ext T O S X k c n) (Below.refl _ w1).drew ?_ ?_
          · refine steps_cons ?_ (steps_cons ?_ (steps_cons ?_ (steps_cons ?_ (steps_cons ?_ (steps_cons ?_ (steps_cons ?_ (steps_cons ?_ (steps_cons ?_ (steps_cons ?_ (steps_cons ?_ (steps_cons ?_ (steps_cons ?_ (steps_cons ?_ (steps_cons ?_ (steps_cons ?_ (steps_cons ?_ (steps_nil)))))))))))))))))
            · intro xs wx hG hF
              exact step_value (.string T) (w' := wx) (by simp only [fillIn, Act.put, List.setIfInBounds_toArray, List.set_cons_zero, List.set_cons_succ]; go_simp) rfl (Below.refl _ _)
            · intro xs wx hG hF
              exact step_value (.int .i64 k) (w' := wx) (by simp only [fillIn, Act.put, List.setIfInBounds_toArray, List.set_cons_zero, List.set_cons_succ]; go_simp) rfl (Below.refl _ _)
            · intro xs wx hG hF
              have f0 : xs 0 = .string T := hF.1
              have f1 : xs 1 = .int .i64 k := hF.2.1
              exact step_value (.string (T.extract 0 k)) (w' := wx) (by simp only [fillIn, Act.put, List.setIfInBounds_toArray, List.set_cons_zero, List.set_cons_succ, f0, f1]; go_simp) rfl (Below.refl _ _)
            · intro xs wx hG hF
              exact step_value (.int .u8 (c.toNat : Int)) (w' := wx) (by simp only [fillIn, Act.put, List.setIfInBounds_toArray, List.set_cons_zero, List.set_cons_succ]; go_simp) rfl (Below.refl _ _)
            · intro xs wx hG hF
              have f3 : xs 3 = .int .u8 (c.toNat : Int) := hF.1
              exact step_value (.slice (some ⟨wx.heap.size, 0, none⟩) 1 1) (w' := wx.alloc (.cells #[.int .u8 (c.toNat : Int)] 5)) (by simp only [fillIn, Act.put, List.setIfInBounds_toArray, List.set_cons_zero, List.set_cons_succ, f3]; go_simp) ⟨_, rfl, by show (wx.heap.push _)[wx.heap.size]? = _; simp⟩ ((Below.refl _ _).alloc (Nat.le_refl _) _)
            · intro xs wx hG hF
              obtain ⟨g, f4, hg⟩ := hF.1
              have f4 : xs 4 = .slice (some ⟨g, 0, none⟩) 1 1 := f4
              have hcv := conv_row hg
              exact step_value (.string ⟨#[c]⟩) (w' := wx) (by simp only [fillIn, Act.put, List.setIfInBounds_toArray, List.set_cons_zero, List.set_cons_succ, f4]; go_simp) rfl (Below.refl _ _)
            · intro xs wx hG hF
              have f2 : xs 2 = .string (T.extract 0 k) := hF.1
              have f5 : xs 5 = .string ⟨#[c]⟩ := hF.2.1
              exact step_value (.string S) (w' := wx) (by simp only [fillIn, Act.put, List.setIfInBounds_toArray, List.set_cons_zero, List.set_cons_succ, f2, f5]; go_simp) rfl (Below.refl _ _)
            · intro xs wx hG hF
              exact step_value (.string T) (w' := wx) (by simp only [fillIn, Act.put, List.setIfInBounds_toArray, List.set_cons_zero, List.set_cons_succ]; go_simp) rfl (Below.refl _ _)
            · intro xs wx hG hF
              exact step_value (.int .i64 k) (w' := wx) (by simp only [fillIn, Act.put, List.setIfInBounds_toArray, List.set_cons_zero, List.set_cons_succ]; go_simp) rfl (Below.refl _ _)
            · intro xs wx hG hF
              have f8 : xs 8 = .int .i64 k := hF.1
              exact step_value (.int .i64 ((k : Int) + 1)) (w' := wx) (by simp only [fillIn, Act.put, List.setIfInBounds_toArray, List.set_cons_zero, List.set_cons_succ, f8]; go_simp) rfl (Below.refl _ _)
            · intro xs wx hG hF
              have f7 : xs 7 = .string T := hF.1
              have f9 : xs 9 = .int .i64 ((k : Int) + 1) := hF.2.1
              exact step_value (.string (T.extract (k + 1) T.size)) (w' := wx) (by simp only [fillIn, Act.put, List.setIfInBounds_toArray, List.set_cons_zero, List.set_cons_succ, f7, f9]; go_simp) rfl (Below.refl _ _)
            · intro xs wx hG hF
              have f6 : xs 6 = .string S := hF.1
              have f10 : xs 10 = .string (T.extract (k + 1) T.size) := hF.2.1
              exact step_value (.string X) (w' := wx) (by simp only [fillIn, Act.put, List.setIfInBounds_toArray, List.set_cons_zero, List.set_cons_succ, f6, f10]; go_simp) rfl (Below.refl _ _)
            · exact fun xs wx hG hF => step_call1 25 (.tmp 62) #[9] (.string X) rfl ((eval_new (i := 11) (by decide) rfl (by simp)).trans hF.1) (by kernel_rfl) (cO.out wx) (fun e w' h => ⟨_, h.1, rfl, h.2⟩)
            · intro xs wx hG hF
              have f12 : xs 12 = .tuple #[.string O, .int .i64 n] := hF.1
              exact step_value (.tuple #[.string O, .int .i64 n]) (w' := wx) (by simp only [fillIn, Act.put, List.setIfInBounds_toArray, List.set_cons_zero, List.set_cons_succ, f12]; go_simp) rfl (Below.refl _ _)
            · intro xs wx hG hF
              have f13 : xs 13 = .tuple #[.string O, .int .i64 n] := hF.1
              exact step_value (.string O) (w' := wx) (by simp only [fillIn, Act.put, List.setIfInBounds_toArray, List.set_cons_zero, List.set_cons_succ, f13]; go_simp) rfl (Below.refl _ _)
            · intro xs wx hG hF
              have f13 : xs 13 = .tuple #[.string O, .int .i64 n] := hF.1
              exact step_value (.int .i64 n) (w' := wx) (by simp only [fillIn, Act.put, List.setIfInBounds_toArray, List.set_cons_zero, List.set_cons_succ, f13]; go_simp) rfl (Below.refl _ _)
            · intro xs wx hG hF
              have f14 : xs 14 = .string O := hF.1
              exact step_value (.string O) (w' := wx) (by simp only [fillIn, Act.put, List.setIfInBounds_toArray, List.set_cons_zero, List.set_cons_succ, f14]; go_simp) rfl (Below.refl _ _)
          intro xs wx hG hA hF
          obtain ⟨f0, f1, f2, f3, f4, f5, f6, f7, f8, f9, f10, f11, f12, f13, f14, f15, f16, _⟩ := hF
          have f0 : xs 0 = .string T := f0
          have f1 : xs 1 = .int .i64 k := f1
          have f2 : xs 2 = .string (T.extract 0 k) := f2
          have f3 : xs 3 = .int .u8 (c.toNat : Int) := f3
          obtain ⟨g4, f4, r4⟩ := f4
          have f4 : xs 4 = .slice (some ⟨g4, 0, none⟩) 1 1 := f4
          have f5 : xs 5 = .string ⟨#[c]⟩ := f5
          have f6 : xs 6 = .string S := f6
          have f7 : xs 7 = .string T := f7
          have f8 : xs 8 = .int .i64 k := f8
          have f9 : xs 9 = .int .i64 ((k : Int) + 1) := f9
          have f10 : xs 10 = .string (T.extract (k + 1) T.size) := f10
          have f11 : xs 11 = .string X := f11
          have f12 : xs 12 = .tuple #[.string O, .int .i64 n] := f12
          have f13 : xs 13 = .tuple #[.string O, .int .i64 n] := f13
          have f14 : xs 14 = .string O := f14
          have f15 : xs 15 = .int .i64 n := f15
          have f16 : xs 16 = .string O := f16
          simp only [fillIn, Act.put, List.setIfInBounds_toArray, List.set_cons_zero, List.set_cons_succ, f0, f1, f2, f3, f4, f5, f6, f7, f8, f9, f10, f11, f12, f13, f14, f15, f16, List.drop_succ_cons, List.drop_zero, List.length_cons, List.length_nil]
          have hb3 : Below w.heap.size w wx := stepB k1 hG
          go_wp2_with fail
          clear f0 f1 f2 f3 f4 f5 f6 f7 f8 f9 f10 f11 f12 f13 f14 f15 f16 r4 hG hA cO e1 e2 cv hn0 hcb
          · by_cases hlast : k + 1 < b0.size
            · have hl1 : (k : Int) + 1 < (b0.size : Int) := by omega
              by_cases heq : b0[k] = b0[k + 1]
              · have hb1 : ((b0[k].toNat : Int) != (b0[k + 1].toNat : Int)) = false := by rw [heq]; simp
                clear heq D1 D2
                go_quiet (fail)
                go_wp2_with fail
                refine (alive_any _).mono ?_; rintro e w5 ⟨rfl, b5⟩
                go_wp2_with fail
                go_ret
                exact ⟨rfl, stepB (below_drew' hb3 nq) b5⟩
              · have hb1 : ((b0[k].toNat : Int) != (b0[k + 1].toNat : Int)) = true := bne_iff_ne.2 (fun h => heq (UInt8.toNat_inj.1 (Int.ofNat.inj h)))
                have n2 := Lib.hid (D2.out hlast heq)
                have g0 := ext_le T 0 k
                have g1 := ext_le T (k + 1) (k + 2)
                have g2 := ext_le T k (k + 1)
                have g3 := ext_le T (k + 2) T.size
                have f1 : ∀ W : World, (Op.stringOp .add (T.extract 0 k) (T.extract (k + 1) (k + 2))).run Try.prog W = .ok (.string (T.extract 0 k ++ T.extract (k + 1) (k + 2))) W := fun W => run_string_add_sum W _ _ (by omega)
                obtain ⟨S1, hS1⟩ : ∃ S, T.extract 0 k ++ T.extract (k + 1) (k + 2) = S := ⟨_, rfl⟩
                have s1 : S1.size ≤ 134 := by rw [← hS1, ByteArray.size_append]; omega
                have f2 : ∀ W : World, (Op.stringOp .add S1 (T.extract k (k + 1))).run Try.prog W = .ok (.string (S1 ++ T.extract k (k + 1))) W := fun W => run_string_add_sum W _ _ (by omega)
                obtain ⟨S2, hS2⟩ : ∃ S, S1 ++ T.extract k (k + 1) = S := ⟨_, rfl⟩
                have s2 : S2.size ≤ 201 := by rw [← hS2, ByteArray.size_append]; omega
                have f3 : ∀ W : World, (Op.stringOp .add S2 (T.extract (k + 2) T.size)).run Try.prog W = .ok (.string (S2 ++ T.extract (k + 2) T.size)) W := fun W => run_string_add_sum W _ _ (by omega)
                obtain ⟨Y, hY⟩ : ∃ S, S2 ++ T.extract (k + 2) T.size = S := ⟨_, rfl⟩
                have s3 : Y.size ≤ 1000 := by rw [← hY, ByteArray.size_append]; omega
                rw [hS1] at f1 n2
                rw [hS2] at f2 n2
                rw [hY] at f3 n2
                have cY := Lib.hid (fun w => open_any Y w s3)
                unfold OpenEnd at cY
                obtain ⟨m, hm⟩ : ∃ n, openE Y = n := ⟨_, rfl⟩
                obtain ⟨O', hO'⟩ : ∃ O, openS Y = O := ⟨_, rfl⟩
                rw [hm] at cY n2
                rw [hO'] at cY
                have hm0 : (m == 0) = false := beq_false_of_ne n2.out
                have j1 : ((k : Int) + 1).toNat = k + 1 := by omega
                have j2 : ((k : Int) + 2).toNat = k + 2 := by omega
                have j3 : (k : Int) + 1 ≤ (k : Int) + 2 := by omega
                have j4 : (k : Int) ≤ (k : Int) + 1 := by omega
                clear heq D1 D2 g0 g1 g2 g3 hS1 s1 hS2 s2 hY s3 hm hO' n2
                go_quiet (fail)
                go_wp2_with fail
                have hbq := below_drew' hb3 nq
                refine wp_region_quiet_below (by kernel_rfl) (by kernel_rfl) ?_
                repeat (quiet_step (first | (go_at_call 25; exact Calls.regrown_of (cY.out _))))
                refine wpQuiet_nil ?_
                intro w4 hw4
                obtain ⟨⟨dq, osq⟩, hw4⟩ := hw4
                have hb4 : Below w.heap.size w w4 := by rw [hw4]; exact hbq.trans ((below_regrown _ dq osq).mono hbq.size)
                clear hw4
                go_wp2_with fail
                refine (alive_any _).mono ?_; rintro e w5 ⟨rfl, b5⟩
                go_wp2_with fail
                go_ret
                exact ⟨rfl, stepB hb4 b5⟩
            · have hl1 : decide ((k : Int) + 1 < (b0.size : Int)) = false := decide_eq_false (by omega)
              clear D1 D2
              go_quiet (fail)
              go_wp2_with fail
              refine (alive_any _).mono ?_; rintro e w5 ⟨rfl, b5⟩
              go_wp2_with fail
              go_ret
              exact ⟨rfl, stepB (below_drew' hb3 nq) b5⟩

/-! ### The row's step -/
set_option maxRecDepth 100000 in
theorem lifted (os : Os) (started : os.Started) (H : Type) (enc : TypeId × Value → H) :
    ReturnsInHanded {} Try.checked os 10 .any (Rows.identDetectsSpec.pre6 enc Try.prog Try.f10 Rows.identDetectsRow.domain false) (Rows.identDetectsSpec.post enc Try.prog Try.f10 false true false false) := by
  refine returnsInHanded_of_change (C := Try.checked) own started (by kernel_rfl) Try.func10
    (ChangeSpec.witness6 (enc := enc) (C := Try.checked) false ⟨#[], #[.string ByteArray.empty, .int .i64 0, .int .u8 0], []⟩ 8 (by kernel_rfl) (by kernel_rfl) (by kernel_rfl) (by kernel_rfl)) ?_
  intro W base args ds gs before hval0 hW hcnd _
  have hval : ∀ (j : Nat) t v, Try.f10.params[j]? = some t → args[j]? = some v → Value.okWide Try.prog W .any base t v := hval0
  have hW' := hW
  obtain ⟨p, q, hA0, hV, rfl, hfz, hnd⟩ := hW
  have hA : DataW.TrodAll enc Try.prog W 0 (fun _ => true) true Try.f10.params.toList args.toList ds p := hA0
  rw [Try.params10] at hA hval
  obtain ⟨v0, vs0, d0, ds0, p0, q0, hargs, rfl, rfl, h0, r0⟩ := trodAll_cons hA
  obtain ⟨v1, vs1, d1, ds1, p1, q1, rfl, rfl, rfl, h1, r1⟩ := trodAll_cons r0
  obtain ⟨v2, vs2, d2, ds2, p2, q2, rfl, rfl, rfl, h2, r2⟩ := trodAll_cons r1
  obtain ⟨rfl, rfl, rfl⟩ := trodAll_nil r2
  obtain rfl : args = #[v0, v1, v2] := by cases args; simp_all
  obtain ⟨rfl, rfl⟩ := trodVars_none hV
  obtain ⟨b0, rfl, rfl, rfl, w0⟩ := open_string Try.underlying9 (hval 0 9 v0 rfl rfl) h0
  obtain ⟨a1, rfl, rfl, rfl, w1⟩ := open_int Try.underlying3 (hval 1 3 v1 rfl rfl) h1
  obtain ⟨a2, rfl, rfl, rfl, w2⟩ := open_int Try.underlying5 (hval 2 5 v2 rfl rfl) h2
  clear hA0 hval0
  simp only [List.append_nil] at hW'
  refine (walk b0 w0 a1 w1 a2 w2 W).mono fun e W' ⟨he, hg⟩ => ?_
  subst he
  exact ⟨_, rfl, _, _, _, [], [], [], hW', (trodAll_cons_mk (shut_bool Try.underlying4 _) trodAll_mk0), (trodAll_cons_mk (shut_string Try.underlying9 w0) (trodAll_cons_mk (shut_int Try.underlying3 w1) (trodAll_cons_mk (shut_int Try.underlying5 w2) trodAll_mk0))), rfl, hg.frame _, fun h => by cases h⟩

theorem over : Rows.identDetectsRow.holds Try.pinned (OpenSpec.ofChange Rows.identDetectsSpec) :=
  OpenClaim.holds_of_wide 10 Try.f10 rfl rfl rfl rfl rfl rfl rfl ⟨rfl, rfl, rfl, rfl, rfl⟩ rfl rfl rfl rfl rfl (by kernel_rfl) Try.func10 (by kernel_rfl)
    (of_decide_eq_true (by kernel_rfl)) (by unfold Func.isWrapper; first | (rw [if_pos (by decide +kernel)]; kernel_rfl) | (rw [if_neg (by decide +kernel)]; exact ⟨rfl, rfl⟩))
    (fun os started H enc _ => lifted os started H enc)

/-- The statement. -/
theorem proved : Rows.IdentDetectsSaid :=
  over
#print axioms proved
end Go.Proofs.Ythfchgifkalfdaa.identDetects
