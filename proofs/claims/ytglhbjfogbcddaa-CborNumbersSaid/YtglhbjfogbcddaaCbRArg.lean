/-
  Contract of the reference's argument of layer 5.
-/
import Derived.Test.YtglhbjfogbcddaaCbRPut
import Derived.Laws.DeepStrings4
import Derived.Lib.QuietBelow
namespace Go.Proofs.Ytglhbjfogbcddaa.Cb
open Go.RowKit

theorem below_drewN (w : World) (n : Nat) : Below w.heap.size w (w.drewN n) := ⟨rfl, rfl, rfl, Nat.le_refl _, fun _ _ => rfl⟩
theorem below_drew2 (w : World) (n m : Nat) : Below w.heap.size w (w.drewN (n + m)) := ⟨rfl, rfl, rfl, Nat.le_refl _, fun _ _ => rfl⟩
theorem below_drew' {B : Nat} {a w : World} (h : Below B a w) (q : Nat) : Below B a (w.drewN q) := ⟨h.os, h.tape, h.output, h.size, h.block⟩
theorem drop_cons (s : ByteArray) (k : Nat) (h : k < s.size) : s.data.toList.drop k = s[k] :: s.data.toList.drop (k + 1) := by
  rw [List.drop_eq_getElem_cons (by rw [← Lib.size_eq]; exact h)]; rfl
/-- What 'argument' hands back. -/
def ArgEnd (one two : Nat) (l : List UInt8) (w : World) (e : Ending) (w' : World) : Prop :=
  e = .returned (.tuple #[.int .i64 ((argF one two l).1 : Int), .int .u64 ((argF one two l).2.1 : Int), .int .i64 ((argF one two l).2.2.1 : Int), .int .i64 (argF one two l).2.2.2]) ∧ Below w.heap.size w w'
theorem arg_end {one two k v n : Nat} {x : Int} {l : List UInt8} {w w' : World} (h : argF one two l = (k, v, n, x)) (hb : Below w.heap.size w w') : ArgEnd one two l w (.returned (.tuple #[.int .i64 (k : Int), .int .u64 (v : Int), .int .i64 (n : Int), .int .i64 x])) w' := by
  unfold ArgEnd
  rw [h]; exact ⟨rfl, hb⟩
theorem arg_e0 (one two : Nat) : argF one two [] = (0, 0, 0, 3) := rfl
theorem arg_e1 {one two : Nat} {c : UInt8} {r : List UInt8} (h : (c.toNat / 32 ≠ one ∧ c.toNat / 32 ≠ two) ∨ 27 < c.toNat % 32) : argF one two (c :: r) = (0, 0, 0, 5) := by rw [argF, if_pos h]
theorem arg_e2 {one two : Nat} {c : UInt8} {r : List UInt8} (h : ¬ ((c.toNat / 32 ≠ one ∧ c.toNat / 32 ≠ two) ∨ 27 < c.toNat % 32)) (h2 : c.toNat % 32 < 24) : argF one two (c :: r) = (c.toNat / 32, c.toNat % 32, 1, 0) := by rw [argF, if_neg h, if_pos h2]
theorem arg_e3 {one two : Nat} {c : UInt8} {r : List UInt8} (h : ¬ ((c.toNat / 32 ≠ one ∧ c.toNat / 32 ≠ two) ∨ 27 < c.toNat % 32)) (h2 : ¬ c.toNat % 32 < 24) (h3 : r.length < 2 ^ (c.toNat % 32 - 24)) : argF one two (c :: r) = (0, 0, 0, 3) := by rw [argF, if_neg h, if_neg h2, if_pos h3]
theorem arg_e4 {one two : Nat} {c : UInt8} {r : List UInt8} (h : ¬ ((c.toNat / 32 ≠ one ∧ c.toNat / 32 ≠ two) ∨ 27 < c.toNat % 32)) (h2 : ¬ c.toNat % 32 < 24) (h3 : ¬ r.length < 2 ^ (c.toNat % 32 - 24))
    (h4 : headL (c.toNat / 32) (valB (r.take (2 ^ (c.toNat % 32 - 24)))) ≠ c :: r.take (2 ^ (c.toNat % 32 - 24))) : argF one two (c :: r) = (0, 0, 0, 5) := by rw [argF, if_neg h, if_neg h2, if_neg h3, if_pos h4]
theorem arg_e5 {one two : Nat} {c : UInt8} {r : List UInt8} (h : ¬ ((c.toNat / 32 ≠ one ∧ c.toNat / 32 ≠ two) ∨ 27 < c.toNat % 32)) (h2 : ¬ c.toNat % 32 < 24) (h3 : ¬ r.length < 2 ^ (c.toNat % 32 - 24))
    (h4 : ¬ headL (c.toNat / 32) (valB (r.take (2 ^ (c.toNat % 32 - 24)))) ≠ c :: r.take (2 ^ (c.toNat % 32 - 24))) : argF one two (c :: r) = (c.toNat / 32, valB (r.take (2 ^ (c.toNat % 32 - 24))), 1 + 2 ^ (c.toNat % 32 - 24), 0) := by rw [argF, if_neg h, if_neg h2, if_neg h3, if_neg h4]

theorem results_tmp4 {fn : Func} {t u v x : Tmp} (h : fn.results = #[.tmp t, .tmp u, .tmp v, .tmp x]) (tmps : Array Value) (P : Program) (w : World) :
    (results fn tmps).run P w = .ok (.tuple #[tmps.getD t undef, tmps.getD u undef, tmps.getD v undef, tmps.getD x undef]) w := by
  simp [results, h]

set_option maxHeartbeats 2000000 in
set_option maxRecDepth 100000 in
theorem rarg_any (one two b at_ : Nat) (s : ByteArray) (w : World) (hb : b < w.heap.size) (hs : s.size ≤ 100000) (hat : at_ ≤ s.size)
    (hc0 : w.cell? ⟨b, 0, none⟩ = some (.string s)) (hc1 : w.cell? ⟨b, 1, none⟩ = some (.int .i64 (at_ : Int))) :
    Calls Try.prog 43 #[.pointer (some ⟨b, 0, none⟩), .int .i64 (one : Int), .int .i64 (two : Int)] w (ArgEnd one two (s.data.toList.drop at_) w) := by
  have hs' : (s.size : Int) ≤ 100000 := by omega
  have hat' : (at_ : Int) ≤ (s.size : Int) := by omega
  by_cases h0 : at_ < s.size
  · have h0' : (at_ : Int) < (s.size : Int) := by omega
    have h0n : ¬ (s.size : Int) ≤ (at_ : Int) := by omega
    have hd := Lib.hid (drop_cons s at_ h0)
    obtain ⟨c, hc⟩ : ∃ c, s[at_] = c := ⟨_, rfl⟩
    obtain ⟨r, hr⟩ : ∃ r, s.data.toList.drop (at_ + 1) = r := ⟨_, rfl⟩
    have hcn : s[at_].toNat = c.toNat := by rw [hc]
    rw [hc, hr] at hd
    rw [hd.out]
    have hR := Lib.hid hr
    have hC := Lib.hid hc
    clear hc hr
    have h256 := c.toNat_lt
    have E1 := Lib.hid (fun h => arg_e1 (one := one) (two := two) (c := c) (r := r) h)
    have E2 := Lib.hid (fun h h2 => arg_e2 (one := one) (two := two) (c := c) (r := r) h h2)
    have E3 := Lib.hid (fun h h2 h3 => arg_e3 (one := one) (two := two) (c := c) (r := r) h h2 h3)
    have E4 := Lib.hid (fun h h2 h3 h4 => arg_e4 (one := one) (two := two) (c := c) (r := r) h h2 h3 h4)
    have E5 := Lib.hid (fun h h2 h3 h4 => arg_e5 (one := one) (two := two) (c := c) (r := r) h h2 h3 h4)
    obtain ⟨C, hCn⟩ : ∃ C, c.toNat = C := ⟨_, rfl⟩
    have hK : (C : Int) / 32 = ((C / 32 : Nat) : Int) := rfl
    have hL : (C : Int) % 32 = ((C % 32 : Nat) : Int) := rfl
    rw [hCn] at hcn E1 E2 E3 E4 E5 h256
    obtain ⟨K, hKd⟩ : ∃ K, C / 32 = K := ⟨_, rfl⟩
    obtain ⟨L, hLd⟩ : ∃ L, C % 32 = L := ⟨_, rfl⟩
    rw [hKd] at hK E1 E2 E3 E4 E5
    rw [hLd] at hL E1 E2 E3 E4 E5
    have hK7 : K ≤ 7 := by omega
    have hL31 : L ≤ 31 := by omega
    have hCi : (C : Int) ≤ 255 := by omega
    go_enter Try.func43, Try.ntmps43
    go_wp2_with fail
    go_quiet (fail)
    revert nq; intro nq0
    go_wp2_with fail
    go_quiet (fail)
    -- MIDDLE
    by_cases hbad : (K ≠ one ∧ K ≠ two) ∨ 27 < L
    · by_cases k1 : K = one
      · have k1' : ((K : Int) != (one : Int)) = false := by rw [k1]; simp
        have l27 : (27 : Int) < (L : Int) := by omega
        have E := Lib.hid (E1.out hbad)
        clear E1 E2 E3 E4 E5 hbad
        go_wp2_with fail
        (try simp only [Exit.inBlock, Exit.then]); refine bodyPost_ret (results_tmp4 rfl _ _ _) rfl ?_
        exact arg_end (k := 0) (v := 0) (n := 0) E.out (below_drew2 _ _ _)
      · have k1' : ((K : Int) != (one : Int)) = true := bne_iff_ne.2 (by omega)
        by_cases k2 : K = two
        · have k2' : ((K : Int) != (two : Int)) = false := by rw [k2]; simp
          have l27 : (27 : Int) < (L : Int) := by omega
          have E := Lib.hid (E1.out hbad)
          clear E1 E2 E3 E4 E5 hbad
          go_wp2_with fail
          (try simp only [Exit.inBlock, Exit.then]); refine bodyPost_ret (results_tmp4 rfl _ _ _) rfl ?_
          exact arg_end (k := 0) (v := 0) (n := 0) E.out (below_drew2 _ _ _)
        · have k2' : ((K : Int) != (two : Int)) = true := bne_iff_ne.2 (by omega)
          have E := Lib.hid (E1.out hbad)
          clear E1 E2 E3 E4 E5 hbad
          go_wp2_with fail
          (try simp only [Exit.inBlock, Exit.then]); refine bodyPost_ret (results_tmp4 rfl _ _ _) rfl ?_
          exact arg_end (k := 0) (v := 0) (n := 0) E.out (below_drew2 _ _ _)
    · by_cases k1 : K = one
      · have k1' : ((K : Int) != (one : Int)) = false := by rw [k1]; simp
        clear k1
        have hl27 : ¬ (27 : Int) < (L : Int) := by omega
        by_cases h24 : L < 24
        · have h24' : (L : Int) < 24 := by omega
          have E := Lib.hid (E2.out hbad h24)
          have eu : IntKind.u64.wrap (L : Int) = (L : Int) := IntWalk.u64_in _ (by omega)
          clear E1 E2 E3 E4 E5 hbad h24
          go_wp2_with fail
          (try simp only [Exit.inBlock, Exit.then]); refine bodyPost_ret (results_tmp4 rfl _ _ _) rfl ?_
          exact arg_end (k := K) (v := L) (n := 1) E.out (below_drew2 _ _ _)
        · have h24' : ¬ (L : Int) < 24 := by omega
          have hL24 : (24 : Int) ≤ (L : Int) := by omega
          have E3' := Lib.hid (E3.out hbad h24)
          have E4' := Lib.hid (E4.out hbad h24)
          have E5' := Lib.hid (E5.out hbad h24)
          clear E1 E2 E3 E4 E5 hbad
          have hB0 := below_drew' (below_drewN w nq0) nq
          obtain ⟨W0, hW0⟩ : ∃ W0, (w.drewN nq0).drewN nq = W0 := ⟨_, rfl⟩
          rw [hW0] at hB0 ⊢
          clear hW0
          have hL3 : L ≤ 27 := by omega
          have hc0' := Lib.hid hc0
          have hc1' := Lib.hid hc1
          clear hc0 hc1
          go_wp2_with fail
          go_loopw [13, 14] (fun x i wr => ∃ j p : Nat, x = .int .i64 (p : Int) ∧ i = .int .i64 (24 + (j : Int)) ∧ 24 + j ≤ L ∧ p ≤ 8 ∧ Hid (p = 2 ^ j) ∧ wr = W0) (fun _ i _ => L - (intOf i).toNat)
          case atStart => exact ⟨0, 1, rfl, rfl, by omega, by decide, rfl, by trivial⟩
          case round =>
            obtain ⟨j, p, rfl, rfl, hj, hp8, hp, rfl⟩ := hrel
            by_cases hlt : 24 + j < L
            · have hlt' : (24 : Int) + (j : Int) < (L : Int) := by omega
              have hp4 : p ≤ 4 := by
                have := hp.out
                have hj2 : j = 0 ∨ j = 1 ∨ j = 2 := by omega
                rcases hj2 with rfl | rfl | rfl <;> (rw [this]; decide)
              have hq := Lib.hid (show 2 * p = 2 ^ (j + 1) by rw [Nat.pow_succ, ← hp.out]; omega)
              clear hp
              go_wp2_with fail
              exact ⟨⟨j + 1, 2 * p, rfl, by congr 1, hlt, by omega, hq.out, by trivial⟩, by simp [intOf]; omega⟩
            · have hjl : j = L - 24 := by omega
              have hlt' : ¬ (24 : Int) + (j : Int) < (L : Int) := by omega
              rw [← hjl, ← hp.out] at E3' E4' E5'
              clear hlt hj hjl hp
              have hk0 : wr.cell? ⟨b, 0, none⟩ = some (.string s) := (hB0.cell hb).trans hc0'.out
              have hk1 : wr.cell? ⟨b, 1, none⟩ = some (.int .i64 (at_ : Int)) := (hB0.cell hb).trans hc1'.out
              have hrl : r.length = s.size - (at_ + 1) := by rw [← hR.out, List.length_drop, ← Lib.size_eq]
              have w1 : IntKind.i64.wrap ((s.size : Int) - (at_ : Int)) = (s.size : Int) - (at_ : Int) := IntWalk.i64_in _ (by omega)
              have w2 : IntKind.i64.wrap ((s.size : Int) - (at_ : Int) - 1) = (s.size : Int) - (at_ : Int) - 1 := IntWalk.i64_in _ (by omega)
              go_wp2_with fail
              go_quiet (fail)
              have hB1 := below_drew' hB0 nq
              obtain ⟨W1, hW1⟩ : ∃ W1, wr.drewN nq = W1 := ⟨_, rfl⟩
              rw [hW1] at hB1 ⊢
              clear hW1 hk0 hk1
              by_cases hsh : r.length < p
              · have hsh' : (s.size : Int) - (at_ : Int) - 1 < (p : Int) := by omega
                have E := Lib.hid (E3'.out hsh)
                clear E3' E4' E5' hsh
                go_wp2_with fail
                (try simp only [Exit.inBlock, Exit.then]); refine bodyPost_ret (results_tmp4 rfl _ _ _) rfl ?_
                exact arg_end (k := 0) (v := 0) (n := 0) E.out hB1
              · have hsh' : ¬ (s.size : Int) - (at_ : Int) - 1 < (p : Int) := by omega
                have E4'' := E4'.out hsh
                have E5'' := E5'.out hsh
                have hpr : p ≤ r.length := by omega
                clear E3' E4' E5' hsh
                go_wp2_with fail
                go_loopw [15, 16] (fun x i wx => ∃ j u : Nat, x = .int .u64 (u : Int) ∧ i = .int .i64 (j : Int) ∧ j ≤ p ∧ Below w.heap.size w wx ∧ Hid (u = valB (r.take j))) (fun _ i _ => p - (intOf i).toNat)
                case atStart => exact ⟨0, 0, rfl, rfl, Nat.zero_le _, hB1, rfl⟩
                case round =>
                  obtain ⟨i, u, rfl, rfl, hi, hbw, hu⟩ := hrel
                  have hk0 : wr.cell? ⟨b, 0, none⟩ = some (.string s) := (hbw.cell hb).trans hc0'.out
                  have hk1 : wr.cell? ⟨b, 1, none⟩ = some (.int .i64 (at_ : Int)) := (hbw.cell hb).trans hc1'.out
                  by_cases hlt2 : i < p
                  · have hlt2' : (i : Int) < (p : Int) := by omega
                    have hix : at_ + 1 + i < s.size := by omega
                    obtain ⟨d, hd2⟩ : ∃ d, s[at_ + 1 + i] = d := ⟨_, rfl⟩
                    have hdn : s[at_ + 1 + i].toNat = d.toNat := by rw [hd2]
                    have hri : r[i]? = some d := by
                      rw [← hR.out, List.getElem?_drop, ← hd2, List.getElem?_eq_getElem (by rw [← Lib.size_eq]; exact hix)]; rfl
                    have hv := Lib.hid (show 256 * u + d.toNat = valB (r.take (i + 1)) by
                      rw [List.take_add_one, hri]
                      show _ = valB (r.take i ++ [d])
                      rw [valB_snoc, ← hu.out])
                    have hlt256 := valB_lt (r.take (i + 1))
                    have hl8 : (r.take (i + 1)).length ≤ 8 := by rw [List.length_take]; omega
                    have hpw := Nat.pow_le_pow_right (n := 256) (by decide) hl8
                    rw [← hv.out] at hlt256
                    have h64 : 256 * u + d.toNat < 18446744073709551616 := Nat.lt_of_lt_of_le hlt256 hpw
                    clear hlt256 hpw hl8 hri hd2
                    obtain ⟨D, hD⟩ : ∃ D, d.toNat = D := ⟨_, rfl⟩
                    rw [hD] at hdn hv h64
                    have q1 : IntKind.u64.wrap (256 * (u : Int)) = 256 * (u : Int) := IntWalk.u64_in _ (by omega)
                    have q2 : IntKind.u64.wrap (256 * (u : Int) + (D : Int)) = 256 * (u : Int) + (D : Int) := IntWalk.u64_in _ (by omega)
                    have q3 : IntKind.i64.wrap ((at_ : Int) + 1) = (at_ : Int) + 1 := IntWalk.i64_in _ (by omega)
                    have q4 : IntKind.i64.wrap ((at_ : Int) + 1 + (i : Int)) = (at_ : Int) + 1 + (i : Int) := IntWalk.i64_in _ (by omega)
                    have q5 : (0 : Int) ≤ (at_ : Int) + 1 + (i : Int) := by omega
                    have q6 : (at_ : Int) + 1 + (i : Int) < (s.size : Int) := by omega
                    have q7 : ((at_ : Int) + 1 + (i : Int)).toNat = at_ + 1 + i := by omega
                    have q8 : IntKind.u64.wrap (D : Int) = (D : Int) := IntWalk.u64_in _ (by omega)
                    clear h64 hu hD
                    go_wp2_with fail
                    go_quiet (fail)
                    go_wp2_with fail
                    exact ⟨⟨i + 1, 256 * u + D, rfl, rfl, hlt2, below_drew' hbw _, hv.out⟩, by simp [intOf]; omega⟩
                  · obtain rfl : i = p := by omega
                    have hlt2' : ¬ (i : Int) < (i : Int) := by omega
                    have hv2 : u < 18446744073709551616 := by
                      have hlt256 := valB_lt (r.take i)
                      have hl8 : (r.take i).length ≤ 8 := by rw [List.length_take]; omega
                      have hpw := Nat.pow_le_pow_right (n := 256) (by decide) hl8
                      rw [← hu.out] at hlt256
                      exact Nat.lt_of_lt_of_le hlt256 hpw
                    have cH := Lib.hid (fun w => rhead_any K u w hK7 hv2)
                    rw [← hu.out] at E4'' E5''
                    have hxt := Lib.hid (show (s.extract at_ (at_ + 1 + i)).data.toList = c :: r.take i by
                      rw [Lib.extract_data, hd.out, show at_ + 1 + i - at_ = i + 1 by omega, List.take_succ_cons])
                    have hk0' := cell_regrown hk0
                    have hk1' := cell_regrown hk1
                    have q3 : IntKind.i64.wrap ((at_ : Int) + 1) = (at_ : Int) + 1 := IntWalk.i64_in _ (by omega)
                    have q4 : IntKind.i64.wrap ((at_ : Int) + 1 + (i : Int)) = (at_ : Int) + 1 + (i : Int) := IntWalk.i64_in _ (by omega)
                    have q5 : (0 : Int) ≤ (at_ : Int) + 1 + (i : Int) := by omega
                    have q6 : (at_ : Int) + 1 + (i : Int) ≤ (s.size : Int) := by omega
                    have q7 : ((at_ : Int) + 1 + (i : Int)).toNat = at_ + 1 + i := by omega
                    have q8 : (at_ : Int) ≤ (at_ : Int) + 1 + (i : Int) := by omega
                    have q9 : IntKind.i64.wrap (1 + (i : Int)) = 1 + (i : Int) := IntWalk.i64_in _ (by omega)
                    obtain ⟨Y, hY⟩ : ∃ Y, s.extract at_ (at_ + 1 + i) = Y := ⟨_, rfl⟩
                    rw [hY] at hxt
                    obtain ⟨X, hX⟩ : ∃ X, toS (headL K u) = X := ⟨_, rfl⟩
                    rw [hX] at cH
                    by_cases hh : headL K u ≠ c :: r.take i
                    · have E := Lib.hid (E4'' hh)
                      have hq : (X.toList == Y.toList) = false := beq_false_of_ne (fun e => hh (by rw [← hxt.out, ← Lib.toList_data, ← e, ← hX, Lib.toList_data]; rfl))
                      clear E4'' E5'' hu hv2 hh hX
                      go_wp2_with fail
                      refine wp_region_quiet_below (by kernel_rfl) (by kernel_rfl) ?_
                      repeat (quiet_step (first | (go_at_call 38; exact Calls.regrown_of (cH.out _))))
                      refine wpQuiet_nil ?_
                      intro w4 hw4
                      obtain ⟨⟨dq, osq⟩, hw4⟩ := hw4
                      have hb4 : Below w.heap.size w w4 := by rw [hw4]; exact hbw.trans ((below_regrown _ dq osq).mono hbw.size)
                      clear hw4
                      go_wp2_with fail
                      (try simp only [Exit.inBlock, Exit.then]); refine bodyPost_ret (results_tmp4 rfl _ _ _) rfl ?_
                      exact arg_end (k := 0) (v := 0) (n := 0) E.out hb4
                    · have E := Lib.hid (E5'' hh)
                      have hq : (X.toList == Y.toList) = true := by
                        have hh : headL K u = c :: r.take i := Decidable.not_not.1 hh
                        rw [← hX, Lib.toList_data, Lib.toList_data, hxt.out, data_toS, hh]
                        exact beq_self_eq_true _
                      clear E4'' E5'' hu hv2 hh hX
                      go_wp2_with fail
                      refine wp_region_quiet_below (by kernel_rfl) (by kernel_rfl) ?_
                      repeat (quiet_step (first | (go_at_call 38; exact Calls.regrown_of (cH.out _))))
                      refine wpQuiet_nil ?_
                      intro w4 hw4
                      obtain ⟨⟨dq, osq⟩, hw4⟩ := hw4
                      have hb4 : Below w.heap.size w w4 := by rw [hw4]; exact hbw.trans ((below_regrown _ dq osq).mono hbw.size)
                      clear hw4
                      go_wp2_with fail
                      (try simp only [Exit.inBlock, Exit.then]); refine bodyPost_ret (results_tmp4 rfl _ _ _) rfl ?_
                      exact arg_end (k := K) (v := u) (n := 1 + i) E.out hb4
      · have k1' : ((K : Int) != (one : Int)) = true := bne_iff_ne.2 (by omega)
        have k2' : ((K : Int) != (two : Int)) = false := by rw [show K = two by omega]; simp
        clear k1
        have hl27 : ¬ (27 : Int) < (L : Int) := by omega
        by_cases h24 : L < 24
        · have h24' : (L : Int) < 24 := by omega
          have E := Lib.hid (E2.out hbad h24)
          have eu : IntKind.u64.wrap (L : Int) = (L : Int) := IntWalk.u64_in _ (by omega)
          clear E1 E2 E3 E4 E5 hbad h24
          go_wp2_with fail
          (try simp only [Exit.inBlock, Exit.then]); refine bodyPost_ret (results_tmp4 rfl _ _ _) rfl ?_
          exact arg_end (k := K) (v := L) (n := 1) E.out (below_drew2 _ _ _)
        · have h24' : ¬ (L : Int) < 24 := by omega
          have hL24 : (24 : Int) ≤ (L : Int) := by omega
          have E3' := Lib.hid (E3.out hbad h24)
          have E4' := Lib.hid (E4.out hbad h24)
          have E5' := Lib.hid (E5.out hbad h24)
          clear E1 E2 E3 E4 E5 hbad
          have hB0 := below_drew' (below_drewN w nq0) nq
          obtain ⟨W0, hW0⟩ : ∃ W0, (w.drewN nq0).drewN nq = W0 := ⟨_, rfl⟩
          rw [hW0] at hB0 ⊢
          clear hW0
          have hL3 : L ≤ 27 := by omega
          have hc0' := Lib.hid hc0
          have hc1' := Lib.hid hc1
          clear hc0 hc1
          go_wp2_with fail
          go_loopw [13, 14] (fun x i wr => ∃ j p : Nat, x = .int .i64 (p : Int) ∧ i = .int .i64 (24 + (j : Int)) ∧ 24 + j ≤ L ∧ p ≤ 8 ∧ Hid (p = 2 ^ j) ∧ wr = W0) (fun _ i _ => L - (intOf i).toNat)
          case atStart => exact ⟨0, 1, rfl, rfl, by omega, by decide, rfl, by trivial⟩
          case round =>
            obtain ⟨j, p, rfl, rfl, hj, hp8, hp, rfl⟩ := hrel
            by_cases hlt : 24 + j < L
            · have hlt' : (24 : Int) + (j : Int) < (L : Int) := by omega
              have hp4 : p ≤ 4 := by
                have := hp.out
                have hj2 : j = 0 ∨ j = 1 ∨ j = 2 := by omega
                rcases hj2 with rfl | rfl | rfl <;> (rw [this]; decide)
              have hq := Lib.hid (show 2 * p = 2 ^ (j + 1) by rw [Nat.pow_succ, ← hp.out]; omega)
              clear hp
              go_wp2_with fail
              exact ⟨⟨j + 1, 2 * p, rfl, by congr 1, hlt, by omega, hq.out, by trivial⟩, by simp [intOf]; omega⟩
            · have hjl : j = L - 24 := by omega
              have hlt' : ¬ (24 : Int) + (j : Int) < (L : Int) := by omega
              rw [← hjl, ← hp.out] at E3' E4' E5'
              clear hlt hj hjl hp
              have hk0 : wr.cell? ⟨b, 0, none⟩ = some (.string s) := (hB0.cell hb).trans hc0'.out
              have hk1 : wr.cell? ⟨b, 1, none⟩ = some (.int .i64 (at_ : Int)) := (hB0.cell hb).trans hc1'.out
              have hrl : r.length = s.size - (at_ + 1) := by rw [← hR.out, List.length_drop, ← Lib.size_eq]
              have w1 : IntKind.i64.wrap ((s.size : Int) - (at_ : Int)) = (s.size : Int) - (at_ : Int) := IntWalk.i64_in _ (by omega)
              have w2 : IntKind.i64.wrap ((s.size : Int) - (at_ : Int) - 1) = (s.size : Int) - (at_ : Int) - 1 := IntWalk.i64_in _ (by omega)
              go_wp2_with fail
              go_quiet (fail)
              have hB1 := below_drew' hB0 nq
              obtain ⟨W1, hW1⟩ : ∃ W1, wr.drewN nq = W1 := ⟨_, rfl⟩
              rw [hW1] at hB1 ⊢
              clear hW1 hk0 hk1
              by_cases hsh : r.length < p
              · have hsh' : (s.size : Int) - (at_ : Int) - 1 < (p : Int) := by omega
                have E := Lib.hid (E3'.out hsh)
                clear E3' E4' E5' hsh
                go_wp2_with fail
                (try simp only [Exit.inBlock, Exit.then]); refine bodyPost_ret (results_tmp4 rfl _ _ _) rfl ?_
                exact arg_end (k := 0) (v := 0) (n := 0) E.out hB1
              · have hsh' : ¬ (s.size : Int) - (at_ : Int) - 1 < (p : Int) := by omega
                have E4'' := E4'.out hsh
                have E5'' := E5'.out hsh
                have hpr : p ≤ r.length := by omega
                clear E3' E4' E5' hsh
                go_wp2_with fail
                go_loopw [15, 16] (fun x i wx => ∃ j u : Nat, x = .int .u64 (u : Int) ∧ i = .int .i64 (j : Int) ∧ j ≤ p ∧ Below w.heap.size w wx ∧ Hid (u = valB (r.take j))) (fun _ i _ => p - (intOf i).toNat)
                case atStart => exact ⟨0, 0, rfl, rfl, Nat.zero_le _, hB1, rfl⟩
                case round =>
                  obtain ⟨i, u, rfl, rfl, hi, hbw, hu⟩ := hrel
                  have hk0 : wr.cell? ⟨b, 0, none⟩ = some (.string s) := (hbw.cell hb).trans hc0'.out
                  have hk1 : wr.cell? ⟨b, 1, none⟩ = some (.int .i64 (at_ : Int)) := (hbw.cell hb).trans hc1'.out
                  by_cases hlt2 : i < p
                  · have hlt2' : (i : Int) < (p : Int) := by omega
                    have hix : at_ + 1 + i < s.size := by omega
                    obtain ⟨d, hd2⟩ : ∃ d, s[at_ + 1 + i] = d := ⟨_, rfl⟩
                    have hdn : s[at_ + 1 + i].toNat = d.toNat := by rw [hd2]
                    have hri : r[i]? = some d := by
                      rw [← hR.out, List.getElem?_drop, ← hd2, List.getElem?_eq_getElem (by rw [← Lib.size_eq]; exact hix)]; rfl
                    have hv := Lib.hid (show 256 * u + d.toNat = valB (r.take (i + 1)) by
                      rw [List.take_add_one, hri]
                      show _ = valB (r.take i ++ [d])
                      rw [valB_snoc, ← hu.out])
                    have hlt256 := valB_lt (r.take (i + 1))
                    have hl8 : (r.take (i + 1)).length ≤ 8 := by rw [List.length_take]; omega
                    have hpw := Nat.pow_le_pow_right (n := 256) (by decide) hl8
                    rw [← hv.out] at hlt256
                    have h64 : 256 * u + d.toNat < 18446744073709551616 := Nat.lt_of_lt_of_le hlt256 hpw
                    clear hlt256 hpw hl8 hri hd2
                    obtain ⟨D, hD⟩ : ∃ D, d.toNat = D := ⟨_, rfl⟩
                    rw [hD] at hdn hv h64
                    have q1 : IntKind.u64.wrap (256 * (u : Int)) = 256 * (u : Int) := IntWalk.u64_in _ (by omega)
                    have q2 : IntKind.u64.wrap (256 * (u : Int) + (D : Int)) = 256 * (u : Int) + (D : Int) := IntWalk.u64_in _ (by omega)
                    have q3 : IntKind.i64.wrap ((at_ : Int) + 1) = (at_ : Int) + 1 := IntWalk.i64_in _ (by omega)
                    have q4 : IntKind.i64.wrap ((at_ : Int) + 1 + (i : Int)) = (at_ : Int) + 1 + (i : Int) := IntWalk.i64_in _ (by omega)
                    have q5 : (0 : Int) ≤ (at_ : Int) + 1 + (i : Int) := by omega
                    have q6 : (at_ : Int) + 1 + (i : Int) < (s.size : Int) := by omega
                    have q7 : ((at_ : Int) + 1 + (i : Int)).toNat = at_ + 1 + i := by omega
                    have q8 : IntKind.u64.wrap (D : Int) = (D : Int) := IntWalk.u64_in _ (by omega)
                    clear h64 hu hD
                    go_wp2_with fail
                    go_quiet (fail)
                    go_wp2_with fail
                    exact ⟨⟨i + 1, 256 * u + D, rfl, rfl, hlt2, below_drew' hbw _, hv.out⟩, by simp [intOf]; omega⟩
                  · obtain rfl : i = p := by omega
                    have hlt2' : ¬ (i : Int) < (i : Int) := by omega
                    have hv2 : u < 18446744073709551616 := by
                      have hlt256 := valB_lt (r.take i)
                      have hl8 : (r.take i).length ≤ 8 := by rw [List.length_take]; omega
                      have hpw := Nat.pow_le_pow_right (n := 256) (by decide) hl8
                      rw [← hu.out] at hlt256
                      exact Nat.lt_of_lt_of_le hlt256 hpw
                    have cH := Lib.hid (fun w => rhead_any K u w hK7 hv2)
                    rw [← hu.out] at E4'' E5''
                    have hxt := Lib.hid (show (s.extract at_ (at_ + 1 + i)).data.toList = c :: r.take i by
                      rw [Lib.extract_data, hd.out, show at_ + 1 + i - at_ = i + 1 by omega, List.take_succ_cons])
                    have hk0' := cell_regrown hk0
                    have hk1' := cell_regrown hk1
                    have q3 : IntKind.i64.wrap ((at_ : Int) + 1) = (at_ : Int) + 1 := IntWalk.i64_in _ (by omega)
                    have q4 : IntKind.i64.wrap ((at_ : Int) + 1 + (i : Int)) = (at_ : Int) + 1 + (i : Int) := IntWalk.i64_in _ (by omega)
                    have q5 : (0 : Int) ≤ (at_ : Int) + 1 + (i : Int) := by omega
                    have q6 : (at_ : Int) + 1 + (i : Int) ≤ (s.size : Int) := by omega
                    have q7 : ((at_ : Int) + 1 + (i : Int)).toNat = at_ + 1 + i := by omega
                    have q8 : (at_ : Int) ≤ (at_ : Int) + 1 + (i : Int) := by omega
                    have q9 : IntKind.i64.wrap (1 + (i : Int)) = 1 + (i : Int) := IntWalk.i64_in _ (by omega)
                    obtain ⟨Y, hY⟩ : ∃ Y, s.extract at_ (at_ + 1 + i) = Y := ⟨_, rfl⟩
                    rw [hY] at hxt
                    obtain ⟨X, hX⟩ : ∃ X, toS (headL K u) = X := ⟨_, rfl⟩
                    rw [hX] at cH
                    by_cases hh : headL K u ≠ c :: r.take i
                    · have E := Lib.hid (E4'' hh)
                      have hq : (X.toList == Y.toList) = false := beq_false_of_ne (fun e => hh (by rw [← hxt.out, ← Lib.toList_data, ← e, ← hX, Lib.toList_data]; rfl))
                      clear E4'' E5'' hu hv2 hh hX
                      go_wp2_with fail
                      refine wp_region_quiet_below (by kernel_rfl) (by kernel_rfl) ?_
                      repeat (quiet_step (first | (go_at_call 38; exact Calls.regrown_of (cH.out _))))
                      refine wpQuiet_nil ?_
                      intro w4 hw4
                      obtain ⟨⟨dq, osq⟩, hw4⟩ := hw4
                      have hb4 : Below w.heap.size w w4 := by rw [hw4]; exact hbw.trans ((below_regrown _ dq osq).mono hbw.size)
                      clear hw4
                      go_wp2_with fail
                      (try simp only [Exit.inBlock, Exit.then]); refine bodyPost_ret (results_tmp4 rfl _ _ _) rfl ?_
                      exact arg_end (k := 0) (v := 0) (n := 0) E.out hb4
                    · have E := Lib.hid (E5'' hh)
                      have hq : (X.toList == Y.toList) = true := by
                        have hh : headL K u = c :: r.take i := Decidable.not_not.1 hh
                        rw [← hX, Lib.toList_data, Lib.toList_data, hxt.out, data_toS, hh]
                        exact beq_self_eq_true _
                      clear E4'' E5'' hu hv2 hh hX
                      go_wp2_with fail
                      refine wp_region_quiet_below (by kernel_rfl) (by kernel_rfl) ?_
                      repeat (quiet_step (first | (go_at_call 38; exact Calls.regrown_of (cH.out _))))
                      refine wpQuiet_nil ?_
                      intro w4 hw4
                      obtain ⟨⟨dq, osq⟩, hw4⟩ := hw4
                      have hb4 : Below w.heap.size w w4 := by rw [hw4]; exact hbw.trans ((below_regrown _ dq osq).mono hbw.size)
                      clear hw4
                      go_wp2_with fail
                      (try simp only [Exit.inBlock, Exit.then]); refine bodyPost_ret (results_tmp4 rfl _ _ _) rfl ?_
                      exact arg_end (k := K) (v := u) (n := 1 + i) E.out hb4
    -- END
  · have h0' : ¬ (at_ : Int) < (s.size : Int) := by omega
    have h0n : (s.size : Int) ≤ (at_ : Int) := by omega
    rw [List.drop_eq_nil_of_le (by rw [← Lib.size_eq]; omega)]
    go_enter Try.func43, Try.ntmps43
    go_wp2_with fail
    go_quiet (fail)
    go_wp2_with fail
    (try simp only [Exit.inBlock, Exit.then]); refine bodyPost_ret (results_tmp4 rfl _ _ _) rfl ?_
    exact arg_end (k := 0) (v := 0) (n := 0) (arg_e0 _ _) (below_drewN _ _)
end Go.Proofs.Ytglhbjfogbcddaa.Cb
