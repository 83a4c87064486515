/-
  Contracts of the program of layer 8: Has, Total, Fit.
-/
import Derived.Test.YtmfhjgddpkecfaaSpP7
namespace Go.Proofs.Ytmfhjgddpkecfaa.Sp
open Go.RowKit

theorem ret_int {k : IntKind} {a b : Int} (h : a = b) : Ending.returned (.int k a) = .returned (.int k b) := by rw [h]
theorem has_end {l : List Spn} {n : Int} {R : Bool} (h : hasB l n = R) (e : hasB (l.take l.length) n = false) : R = false := by
  rw [List.take_length] at e
  rw [← h, e]
set_option maxHeartbeats 2000000 in
set_option maxRecDepth 100000 in
theorem qHas_any (l : List Spn) (v : Value) (n : Int) (w : World) (hl : Spns w v l) (hll : l.length ≤ 10000) :
    Calls Try.prog 17 #[v, .int .i64 n] w fun e w' => e = .returned (.bool (hasB l n)) ∧ Below w.heap.size w w' := by
  have HA := Lib.hid hl
  obtain ⟨pa, ca, rfl⟩ := hl.nil
  clear hl
  obtain ⟨R, hR⟩ : ∃ R, hasB l n = R := ⟨_, rfl⟩
  have HL := Lib.hid (fun e => has_end hR e)
  obtain ⟨N, hN⟩ : ∃ N, l.length = N := ⟨_, rfl⟩
  rw [hR]
  rw [hN] at hll HA HL ⊢
  have HN := Lib.hid hN
  have HR := Lib.hid hR
  clear hN hR
  go_enter Try.func17, Try.ntmps17
  go_wp2_with fail
  go_loopw [9] (fun i wr => ∃ (j : Nat), i = .int .i64 (j : Int) ∧ j ≤ N ∧ Below w.heap.size w wr ∧ Hid (hasB (l.take j) n = false)) (fun i _ => N - (intOf i).toNat)
  case atStart => exact ⟨0, rfl, Nat.zero_le _, Below.refl _ _, rfl⟩
  case round =>
    obtain ⟨j, rfl, hj, hB, hu⟩ := hrel
    by_cases hlt : j < N
    · have hlt' : (j : Int) < (N : Int) := by omega
      obtain ⟨x, hx⟩ : ∃ x, l[j]? = some x := ⟨_, List.getElem?_eq_getElem (by rw [HN.out]; exact hlt)⟩
      obtain ⟨ba, oa, c1, e1, a1⟩ := HA.out.open (by rw [HN.out]; omega)
      rw [HN.out] at e1
      simp only [Value.slice.injEq] at e1
      obtain ⟨rfl, -, rfl⟩ := e1
      obtain ⟨x0, x1⟩ := a1.at_ j x hx
      have la := a1.lt
      replace x0 := (hB.cell la).trans x0
      replace x1 := (hB.cell la).trans x1
      have nx := Lib.hid (fun h => has_next hx hu.out h)
      have ye : Hid (x.1 ≤ n ∧ n < x.2 → R = true) := fun h => by rw [← HR.out]; exact has_yes hx h
      obtain ⟨p, q⟩ := x
      simp only at x0 x1 nx ye
      clear hx a1 la HA hu HL
      by_cases h1 : p ≤ n
      · by_cases h2 : n < q
        · have hn := Lib.hid (ye.out ⟨h1, h2⟩)
          clear nx ye
          go_wp2_with fail
          go_ret
          exact ⟨ret_bool hn.out.symm, hB.alloc hB.size _⟩
        · have hn := Lib.hid (nx.out (fun h => h2 h.2))
          clear nx ye
          go_wp2_with fail
          exact ⟨⟨j + 1, rfl, hlt, hB.alloc hB.size _, hn.out⟩, by simp [intOf]; omega⟩
      · have hn := Lib.hid (nx.out (fun h => h1 h.1))
        clear nx ye
        go_wp2_with fail
        exact ⟨⟨j + 1, rfl, hlt, hB.alloc hB.size _, hn.out⟩, by simp [intOf]; omega⟩
    · obtain rfl : j = N := by omega
      have hlt' : ¬ (j : Int) < (j : Int) := by omega
      have hn := Lib.hid (HL.out hu.out)
      clear hu
      go_wp2_with fail
      go_ret
      exact ⟨ret_bool hn.out.symm, hB⟩
set_option maxHeartbeats 2000000 in
set_option maxRecDepth 100000 in
theorem qTotal_any (l : List Spn) (v : Value) (w : World) (hl : Spns w v l) (hll : l.length ≤ 10000) (he : I64 l) :
    Calls Try.prog 15 #[v] w fun e w' => e = .returned (.int .i64 (totV l)) ∧ Below w.heap.size w w' := by
  have c1 := Lib.hid (pnormal_rec l.length l v w rfl (by omega) hl)
  have HE := Lib.hid (i64_norm he)
  have hcl := norm_len l
  have hsz := size_64 he
  have hcan := norm_canon l
  obtain ⟨V, hV⟩ : ∃ V, totV l = V := ⟨_, rfl⟩
  obtain ⟨T, hT⟩ : ∃ T, sizeL l = T := ⟨_, rfl⟩
  have F : Hid ((9223372036854775807 < T → V = 9223372036854775807) ∧ (¬ 9223372036854775807 < T → V = T)) := by
    unfold Hid
    rw [← hV, ← hT]
    unfold totV
    exact ⟨fun h => by rw [if_pos h], fun h => by rw [if_neg h]⟩
  rw [hT] at hsz
  obtain ⟨C, hC⟩ : ∃ C, normL l = C := ⟨_, rfl⟩
  have HT : Hid (0 + sumL C = T) := by show _ = _; rw [← hC, ← hT]; unfold sizeL; omega
  rw [hC] at c1 HE hcl hcan
  rw [hV]
  obtain ⟨pa, ca, rfl⟩ := hl.nil
  obtain ⟨N, hN⟩ : ∃ N, l.length = N := ⟨_, rfl⟩
  rw [hN] at c1 hcl hll ⊢
  have hcl2 : (C.length : Int) ≤ 100000 := by omega
  have hsz := Lib.hid hsz
  have hcan := Lib.hid hcan
  clear he hl hC hN hV hT
  go_enter Try.func15, Try.ntmps15
  go_wp2_with fail
  refine c1.out.mono ?_; rintro e w1 ⟨v1, rfl, own1, k1⟩
  obtain ⟨p1, cc1, rfl⟩ := own1.nil
  have own1 := Lib.hid own1
  have k1 := Lib.hid k1
  clear c1
  go_wp2_with fail
  go_loopw [3, 9] (fun sv iv wr => ∃ (n : Int) (i : Nat), sv = .int .u64 n ∧ iv = .int .i64 (i : Int) ∧ i ≤ C.length ∧ Hid (Below w1.heap.size w1 wr) ∧ Hid (0 ≤ n) ∧ Hid (n + sumL (C.drop i) = T)) (fun _ iv _ => C.length - (intOf iv).toNat)
  case atStart => exact ⟨0, 0, rfl, rfl, Nat.zero_le _, Below.refl _ _, Int.le_refl _, HT.out⟩
  case round =>
    obtain ⟨n, i, rfl, rfl, hi, hB, hn0, hf⟩ := hrel
    by_cases hlt : i < C.length
    · have hlt' : (i : Int) < (C.length : Int) := by omega
      obtain ⟨x, hx⟩ : ∃ x, C[i]? = some x := ⟨_, List.getElem?_eq_getElem hlt⟩
      obtain ⟨g, og, c4, e1, a1⟩ := own1.out.open (by omega)
      simp only [Value.slice.injEq] at e1
      obtain ⟨rfl, -, rfl⟩ := e1
      obtain ⟨x0, x1⟩ := a1.at_ i x hx
      have hgl := a1.lt
      replace x0 := (hB.out.cell hgl).trans x0
      replace x1 := (hB.out.cell hgl).trans x1
      have bx := HE.out x (List.mem_of_getElem? hx)
      have hxx := canon_all hcan.out x (List.mem_of_getElem? hx)
      have hnx := Lib.hid (sum_next hx hf.out)
      have hnn := sum_nonneg _ (canon_drop C (i + 1) hcan.out)
      obtain ⟨p, q⟩ := x
      simp only at x0 x1 bx hxx hnx
      have cs := Lib.hid (fun W => psize_any p q W bx.1 bx.2 hxx)
      have hn1 : Hid (0 ≤ n + (q - p)) := by have := hn0.out; show _ ≤ _; omega
      have e1 : IntKind.u64.wrap (n + (q - p)) = n + (q - p) := IntWalk.u64_in _ (by have := hn1.out; have := hnx.out; have := hsz.out; omega)
      have hB2 := Lib.hid (hB.out.alloc hB.out.size (.cells #[.int .i64 p, .int .i64 q] 38))
      generalize hD : q - p = D at e1 hnx hn1 cs
      generalize hM : n + D = M at e1 hnx hn1
      clear hx hf bx hxx hnn hn0 hD hB a1
      go_wp2_with fail
      refine (cs.out _).mono ?_; rintro e w2 ⟨rfl, k2⟩
      have B2 := Lib.hid (stepB hB2.out k2)
      clear hB2 cs k2
      go_wp2_with fail
      exact ⟨⟨M, i + 1, rfl, rfl, hlt, B2.out, hn1.out, hnx.out⟩, by simp [intOf]; omega⟩
    · obtain rfl : i = C.length := by omega
      have hlt' : ¬ (C.length : Int) < (C.length : Int) := by omega
      have hT : Hid (n = T) := by
        have := hf.out
        rw [List.drop_length, sumL] at this
        show _ = _
        omega
      have hb := Lib.hid (stepB k1.out hB.out)
      have hn0 := hn0.out
      have hn2 : n ≤ 18446744073709551615 := by have := hT.out; have := hsz.out; omega
      clear hf HT hB own1 HE hsz
      by_cases hbig : 9223372036854775807 < n
      · have hv := Lib.hid (F.out.1 (by have := hT.out; omega))
        clear F hT
        go_wp2_with fail
        go_ret
        exact ⟨ret_int hv.out.symm, hb.out⟩
      · have hv := Lib.hid (F.out.2 (by have := hT.out; omega))
        have ew : IntKind.i64.wrap n = n := IntWalk.i64_in _ (by omega)
        have hv2 := Lib.hid (hv.out.trans hT.out.symm)
        clear F hT hv
        go_wp2_with fail
        go_ret
        exact ⟨ret_int hv2.out.symm, hb.out⟩
theorem fi_step {len : Int} {G : List Spn} {i : Nat} {g : Spn} {F : Option Int} (hx : G[i]? = some g) (e : fiL len (G.drop i) = F) :
    (4611686018427387904 ≤ g.1 → F = none) ∧ (¬ 4611686018427387904 ≤ g.1 → (g.2 = 9223372036854775807 ∨ len ≤ g.2 - g.1) → F = some g.1) ∧ (¬ 4611686018427387904 ≤ g.1 → ¬ (g.2 = 9223372036854775807 ∨ len ≤ g.2 - g.1) → fiL len (G.drop (i + 1)) = F) := by
  rw [drop_at hx, fiL] at e
  refine ⟨fun h => ?_, fun h h2 => ?_, fun h h2 => ?_⟩
  · rw [if_pos h] at e; exact e.symm
  · rw [if_neg h, if_pos h2] at e; exact e.symm
  · rw [if_neg h, if_neg h2] at e; exact e
theorem fi_done {len : Int} {G : List Spn} {F : Option Int} (e : fiL len (G.drop G.length) = F) : F = none := by
  rw [List.drop_length, fiL] at e; exact e.symm
set_option maxHeartbeats 4000000 in
set_option maxRecDepth 100000 in
theorem qFit_any (l : List Spn) (v : Value) (s len : Int) (w : World) (hl : Spns w v l) (hll : l.length ≤ 10000) (he : I64 l) (hs : In64 s) (hlen : In64 len) :
    Calls Try.prog 25 #[v, .int .i64 s, .int .i64 len] w (FiEnd l s len w) := by
  by_cases h1 : len < 1
  · have F := Lib.hid (show fitV l s len = 0 ∧ fitB l s len = false by unfold fitV fitB; rw [if_pos h1, if_pos h1]; exact ⟨rfl, rfl⟩)
    clear he hs hlen
    go_enter Try.func25, Try.ntmps25
    go_wp2_with fail
    (try simp only [Exit.inBlock, Exit.then]); refine bodyPost_ret (results_tmp2 rfl _ _ _) rfl ?_
    exact ⟨fi_end ⟨F.out.1.symm, F.out.2.symm⟩, Below.refl _ _⟩
  · have F := fi_is he hs h1
    have c1 := Lib.hid ((pgaps_any l s 9223372036854775807 v w hl (by omega)).mono (fun e w' h => no_sp h))
    have hgl := ga_len 9223372036854775807 (normL l) s
    rw [ga_is] at c1 hgl
    have hnl := norm_len l
    have hcan := minus_canon [(s, 9223372036854775807)] l
    have hend : Ends (-9223372036854775808) 9223372036854775807 (minusL [(s, 9223372036854775807)] l) := minus_ends (fun x hx => by
      rw [List.mem_singleton.1 hx]
      exact ⟨hs, ⟨show (-9223372036854775808 : Int) ≤ 9223372036854775807 by decide, Int.le_refl _⟩⟩)
    obtain ⟨G, hG⟩ : ∃ G, minusL [(s, 9223372036854775807)] l = G := ⟨_, rfl⟩
    rw [hG] at c1 hgl hcan hend F
    have hgl2 : (G.length : Int) ≤ 100000 := by omega
    unfold FiEnd
    generalize fitV l s len = V at F ⊢
    generalize fitB l s len = B at F ⊢
    obtain ⟨O, hO⟩ : ∃ O, fiL len G = O := ⟨_, rfl⟩
    rw [hO] at F
    have HO := Lib.hid hO
    have F := Lib.hid F
    have HC := Lib.hid hcan
    have HE := Lib.hid hend
    have hlw := Lib.hid (u64_pos hlen (by omega))
    obtain ⟨pa, ca, rfl⟩ := hl.nil
    obtain ⟨N, hN⟩ : ∃ N, l.length = N := ⟨_, rfl⟩
    rw [hN] at c1 ⊢
    clear he hlen hl hG hN hO hcan hend hgl hnl hs hll
    go_enter Try.func25, Try.ntmps25
    go_wp2_with fail
    refine c1.out.mono ?_; rintro e w1 ⟨v1, rfl, own1, k1⟩
    obtain ⟨p1, cc1, rfl⟩ := own1.nil
    have own1 := Lib.hid own1
    have k1 := Lib.hid k1
    clear c1
    go_wp2_with fail
    go_loopw [17] (fun iv wr => ∃ (i : Nat), iv = .int .i64 (i : Int) ∧ i ≤ G.length ∧ Hid (Below w1.heap.size w1 wr) ∧ Hid (fiL len (G.drop i) = O)) (fun iv _ => G.length - (intOf iv).toNat)
    case atStart => exact ⟨0, rfl, Nat.zero_le _, Below.refl _ _, HO.out⟩
    case round =>
      obtain ⟨i, rfl, hi, hB, hf⟩ := hrel
      by_cases hlt : i < G.length
      · have hlt' : (i : Int) < (G.length : Int) := by omega
        obtain ⟨x, hx⟩ : ∃ x, G[i]? = some x := ⟨_, List.getElem?_eq_getElem hlt⟩
        obtain ⟨g, og, c4, e1, a1⟩ := own1.out.open (by omega)
        simp only [Value.slice.injEq] at e1
        obtain ⟨rfl, -, rfl⟩ := e1
        obtain ⟨x0, x1⟩ := a1.at_ i x hx
        have hgl := a1.lt
        replace x0 := (hB.out.cell hgl).trans x0
        replace x1 := (hB.out.cell hgl).trans x1
        have bx := HE.out x (List.mem_of_getElem? hx)
        have hxx := canon_all HC.out x (List.mem_of_getElem? hx)
        have st := Lib.hid (fi_step hx hf.out)
        obtain ⟨p, q⟩ := x
        simp only at x0 x1 bx hxx st
        have cs := Lib.hid (fun W => psize_any p q W bx.1 bx.2 hxx)
        have hB2 := Lib.hid (hB.out.alloc hB.out.size (.cells #[.int .i64 p, .int .i64 q] 38))
        have hb2 := Lib.hid (stepB k1.out hB2.out)
        clear hx hf bx hxx hB a1
        by_cases hb : 4611686018427387904 ≤ p
        · have hd := Lib.hid (F.out.2 (st.out.1 hb))
          clear st F cs
          go_wp2_with fail
          (try simp only [Exit.inBlock, Exit.then]); refine bodyPost_ret (results_tmp2 rfl _ _ _) rfl ?_
          exact ⟨by rw [hd.out.1, hd.out.2]; rfl, hb2.out⟩
        · by_cases hq : q = 9223372036854775807
          · have hd := Lib.hid (F.out.1 p (st.out.2.1 hb (Or.inl hq)))
            have hq1 : (q == 9223372036854775807) = true := beq_iff_eq.2 hq
            clear st F cs hq
            go_wp2_with fail
            (try simp only [Exit.inBlock, Exit.then]); refine bodyPost_ret (results_tmp2 rfl _ _ _) rfl ?_
            exact ⟨by rw [hd.out.1, hd.out.2]; rfl, hb2.out⟩
          · have hq1 : (q == 9223372036854775807) = false := beq_false_of_ne hq
            generalize hD : q - p = D at st cs
            by_cases hs : len ≤ D
            · have hd := Lib.hid (F.out.1 p (st.out.2.1 hb (Or.inr hs)))
              clear st F hq hD
              have e2 := hlw.out
              go_wp2_with fail
              refine (cs.out _).mono ?_; rintro e w2 ⟨rfl, k2⟩
              have B2 := Lib.hid (stepB k1.out (stepB hB2.out k2))
              have r0 : w2.cell? ⟨wr.heap.size, 0, none⟩ = some (.int .i64 p) := (k2.cell (by rw [size_alloc]; exact Nat.lt_succ_self _)).trans (World.cell?_alloc_mark wr #[.int .i64 p, .int .i64 q] _ (0, 0) 0)
              clear cs k2
              go_wp2_with fail
              (try simp only [Exit.inBlock, Exit.then]); refine bodyPost_ret (results_tmp2 rfl _ _ _) rfl ?_
              exact ⟨by rw [hd.out.1, hd.out.2]; rfl, B2.out⟩
            · have hd := Lib.hid (st.out.2.2 hb (by rintro (h | h) <;> contradiction))
              clear st F hq hD
              have e2 := hlw.out
              go_wp2_with fail
              refine (cs.out _).mono ?_; rintro e w2 ⟨rfl, k2⟩
              have B2 := Lib.hid (stepB hB2.out k2)
              clear cs k2
              go_wp2_with fail
              exact ⟨⟨i + 1, rfl, hlt, B2.out, hd.out⟩, by simp [intOf]; omega⟩
      · obtain rfl : i = G.length := by omega
        have hlt' : ¬ (G.length : Int) < (G.length : Int) := by omega
        have hd := Lib.hid (F.out.2 (fi_done hf.out))
        have hb := Lib.hid (stepB k1.out hB.out)
        clear hf F HO hB own1 HE HC
        go_wp2_with fail
        (try simp only [Exit.inBlock, Exit.then]); refine bodyPost_ret (results_tmp2 rfl _ _ _) rfl ?_
        exact ⟨by rw [hd.out.1, hd.out.2]; rfl, hb.out⟩
end Go.Proofs.Ytmfhjgddpkecfaa.Sp
