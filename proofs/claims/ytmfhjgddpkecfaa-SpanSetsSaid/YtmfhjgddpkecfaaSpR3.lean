/-
  Contracts of the reference of layer 8: Total, Fit.
-/
import Derived.Test.YtmfhjgddpkecfaaSpR2
namespace Go.Proofs.Ytmfhjgddpkecfaa.Sp
open Go.RowKit

/-- Ends of 64 bits. -/
theorem i64_norm {l : List Spn} (h : I64 l) : ∀ x ∈ normL l, In64 x.1 ∧ In64 x.2 := fun x hx => norm_ends h x hx
theorem size_64 {l : List Spn} (h : I64 l) : 0 ≤ sizeL l ∧ sizeL l ≤ 18446744073709551615 := by
  have := size_bounds (by decide) h
  omega
theorem u64_gap {a b : Int} (ha : In64 a) (hb : In64 b) (h : b < a) : IntKind.u64.wrap (IntKind.u64.wrap a - IntKind.u64.wrap b) = a - b := by
  obtain ⟨h1, h2⟩ := ha
  obtain ⟨h3, h4⟩ := hb
  rw [IntKind.wrap_u64, IntKind.wrap_u64, IntKind.wrap_u64]; omega
theorem u64_pos {a : Int} (ha : In64 a) (h : 1 ≤ a) : IntKind.u64.wrap a = a := by
  obtain ⟨h1, h2⟩ := ha
  rw [IntKind.wrap_u64]; omega
theorem u64_sum {n p q : Int} (hp : In64 p) (hq : In64 q) (h0 : 0 ≤ n + (q - p)) (h1 : n + (q - p) ≤ 18446744073709551615) : IntKind.u64.wrap (IntKind.u64.wrap (n + IntKind.u64.wrap q) - IntKind.u64.wrap p) = n + (q - p) := by
  obtain ⟨h2, h3⟩ := hp
  obtain ⟨h4, h5⟩ := hq
  rw [IntKind.wrap_u64, IntKind.wrap_u64, IntKind.wrap_u64, IntKind.wrap_u64]; omega
theorem fit_keep {len s : Int} {c : List Spn} {i : Nat} {x : Spn} {F : Int} (hx : c[i]? = some x) (h : x.2 ≤ s ∨ (s < x.1 ∧ len ≤ x.1 - s)) (e : fitF len s (c.drop i) = F) : fitF len s (c.drop (i + 1)) = F := by
  rw [drop_at hx, fitF, if_pos h] at e; exact e
theorem fit_move {len s : Int} {c : List Spn} {i : Nat} {x : Spn} {F : Int} (hx : c[i]? = some x) (h : ¬ (x.2 ≤ s ∨ (s < x.1 ∧ len ≤ x.1 - s))) (e : fitF len s (c.drop i) = F) : fitF len x.2 (c.drop (i + 1)) = F := by
  rw [drop_at hx, fitF, if_neg h] at e; exact e
theorem fit_done {len s : Int} {c : List Spn} {F : Int} (e : fitF len s (c.drop c.length) = F) : s = F := by
  rw [List.drop_length, fitF] at e; exact e
theorem results_tmp2 {fn : Func} {t u : Tmp} (h : fn.results = #[.tmp t, .tmp u]) (tmps : Array Value) (P : Program) (w : World) :
    (results fn tmps).run P w = .ok (.tuple #[tmps.getD t undef, tmps.getD u undef]) w := by
  simp [results, h]
def FiEnd (l : List Spn) (s len : Int) (w : World) (e : Ending) (w' : World) : Prop := e = .returned (.tuple #[.int .i64 (fitV l s len), .bool (fitB l s len)]) ∧ Below w.heap.size w w'
theorem fi_end {l : List Spn} {s len a : Int} {b : Bool} (h : a = fitV l s len ∧ b = fitB l s len) : Ending.returned (.tuple #[.int .i64 a, .bool b]) = .returned (.tuple #[.int .i64 (fitV l s len), .bool (fitB l s len)]) := by rw [h.1, h.2]
set_option maxHeartbeats 2000000 in
set_option maxRecDepth 100000 in
theorem rfit_any (l : List Spn) (v : Value) (s len : Int) (w : World) (hl : Spns w v l) (hll : l.length ≤ 100000) (he : I64 l) (hs : In64 s) (hlen : In64 len) :
    Calls Try.prog 26 #[v, .int .i64 s, .int .i64 len] w (FiEnd l s len w) := by
  by_cases h1 : len < 1
  · have F := Lib.hid (show fitV l s len = 0 ∧ fitB l s len = false by unfold fitV fitB; rw [if_pos h1, if_pos h1]; exact ⟨rfl, rfl⟩)
    clear he hs hlen
    go_enter Try.func26, Try.ntmps26
    go_wp2_with fail
    (try simp only [Exit.inBlock, Exit.then]); refine bodyPost_ret (results_tmp2 rfl _ _ _) rfl ?_
    exact ⟨fi_end ⟨F.out.1.symm, F.out.2.symm⟩, Below.refl _ _⟩
  · have F : Hid (∀ f, f = fitS l s len → (4611686018427387904 ≤ f → fitV l s len = 0 ∧ fitB l s len = false) ∧ (¬ 4611686018427387904 ≤ f → fitV l s len = f ∧ fitB l s len = true)) := fun f hf => by
      unfold fitV fitB
      rw [if_neg h1, if_neg h1, ← hf]
      exact ⟨fun h => by rw [if_pos h, if_pos h]; exact ⟨rfl, rfl⟩, fun h => by rw [if_neg h, if_neg h]; exact ⟨rfl, rfl⟩⟩
    have c1 := Lib.hid (rnormal_any l v w hl hll)
    have HE := Lib.hid (i64_norm he)
    have hcl := norm_len l
    obtain ⟨C, hC⟩ : ∃ C, normL l = C := ⟨_, rfl⟩
    have HF : Hid (fitF len s C = fitS l s len) := by rw [← hC]; rfl
    rw [hC] at c1 HE hcl
    unfold FiEnd
    generalize fitV l s len = V at F ⊢
    generalize fitB l s len = B at F ⊢
    generalize fitS l s len = FS at F HF
    obtain ⟨pa, ca, rfl⟩ := hl.nil
    have hlw := Lib.hid (u64_pos hlen (by omega))
    have hs := Lib.hid hs
    obtain ⟨N, hN⟩ : ∃ N, l.length = N := ⟨_, rfl⟩
    rw [hN] at c1 hcl hll ⊢
    have hcl2 : (C.length : Int) ≤ 100000 := by omega
    clear he hlen hl hC hN
    go_enter Try.func26, Try.ntmps26
    go_wp2_with fail
    refine c1.out.mono ?_; rintro e w1 ⟨v1, rfl, own1, k1⟩
    obtain ⟨p1, cc1, rfl, hp1⟩ := own1.shape
    have hp1 := Lib.hid hp1
    have own1 := Lib.hid own1
    have k1 := Lib.hid k1
    clear c1
    go_wp2_with fail
    go_loopw [9, 10] (fun sv iv wr => ∃ (t : Int) (i : Nat), sv = .int .i64 t ∧ iv = .int .i64 (i : Int) ∧ i ≤ C.length ∧ Hid (Below w1.heap.size w1 wr) ∧ Hid (In64 t) ∧ Hid (fitF len t (C.drop i) = FS)) (fun _ iv _ => C.length - (intOf iv).toNat)
    case atStart => exact ⟨s, 0, rfl, rfl, Nat.zero_le _, Below.refl _ _, hs.out, HF.out⟩
    case round =>
      obtain ⟨t, i, rfl, rfl, hi, hB, ht, hf⟩ := hrel
      by_cases hlt : i < C.length
      · have hlt' : (i : Int) < (C.length : Int) := by omega
        obtain ⟨x, hx⟩ : ∃ x, C[i]? = some x := ⟨_, List.getElem?_eq_getElem hlt⟩
        obtain ⟨g, rfl, -, hgl⟩ := hp1.out (by omega)
        obtain ⟨x0, x1⟩ := own1.out.at_ hx
        replace x0 := (hB.out.cell hgl).trans x0
        replace x1 := (hB.out.cell hgl).trans x1
        have bx := Lib.hid (HE.out x (List.mem_of_getElem? hx))
        have keep := Lib.hid (fun h => fit_keep hx h hf.out)
        have move := Lib.hid (fun h => fit_move hx h hf.out)
        obtain ⟨p, q⟩ := x
        simp only at x0 x1 bx keep move
        clear hx hf
        by_cases hq : q ≤ t
        · have hn := Lib.hid (keep.out (Or.inl hq))
          clear keep move
          go_wp2_with fail
          exact ⟨⟨t, i + 1, rfl, rfl, hlt, hB.out, ht.out, hn.out⟩, by simp [intOf]; omega⟩
        · by_cases hp : t < p
          · have e1 := Lib.hid (u64_gap bx.out.1 ht.out hp)
            by_cases hg : len ≤ p - t
            · have hn := Lib.hid (keep.out (Or.inr ⟨hp, hg⟩))
              clear keep move
              have e1 := e1.out
              have e2 := hlw.out
              go_wp2_with fail
              exact ⟨⟨t, i + 1, rfl, rfl, hlt, hB.out, ht.out, hn.out⟩, by simp [intOf]; omega⟩
            · have hn := Lib.hid (move.out (by omega))
              clear keep move
              have e1 := e1.out
              have e2 := hlw.out
              go_wp2_with fail
              exact ⟨⟨q, i + 1, rfl, rfl, hlt, hB.out, bx.out.2, hn.out⟩, by simp [intOf]; omega⟩
          · have hn := Lib.hid (move.out (by omega))
            clear keep move
            go_wp2_with fail
            exact ⟨⟨q, i + 1, rfl, rfl, hlt, hB.out, bx.out.2, hn.out⟩, by simp [intOf]; omega⟩
      · obtain rfl : i = C.length := by omega
        have hlt' : ¬ (C.length : Int) < (C.length : Int) := by omega
        have hd := F.out t (fit_done hf.out)
        have hb := Lib.hid (stepB k1.out hB.out)
        clear hf F HF hB ht hs hp1 own1 HE
        by_cases hbig : 4611686018427387904 ≤ t
        · have hd := Lib.hid (hd.1 (by omega))
          go_wp2_with fail
          (try simp only [Exit.inBlock, Exit.then]); refine bodyPost_ret (results_tmp2 rfl _ _ _) rfl ?_
          exact ⟨by first | rfl | (rw [hd.out.1, hd.out.2]; rfl), hb.out⟩
        · have hd := Lib.hid (hd.2 (by omega))
          go_wp2_with fail
          (try simp only [Exit.inBlock, Exit.then]); refine bodyPost_ret (results_tmp2 rfl _ _ _) rfl ?_
          exact ⟨by first | rfl | (rw [hd.out.1, hd.out.2]; rfl), hb.out⟩
theorem sum_next {c : List Spn} {i : Nat} {x : Spn} {n T : Int} (hx : c[i]? = some x) (e : n + sumL (c.drop i) = T) : n + (x.2 - x.1) + sumL (c.drop (i + 1)) = T := by
  rw [drop_at hx, sumL] at e; omega
theorem canon_drop : ∀ (c : List Spn) (i : Nat), Canon c → Canon (c.drop i)
  | c, 0, h => h
  | [], i + 1, _ => by rw [List.drop_nil]; trivial
  | x :: r, i + 1, h => canon_drop r i (canon_tail h)
set_option maxHeartbeats 2000000 in
set_option maxRecDepth 100000 in
theorem rtotal_any (l : List Spn) (v : Value) (w : World) (hl : Spns w v l) (hll : l.length ≤ 100000) (he : I64 l) :
    Calls Try.prog 16 #[v] w fun e w' => e = .returned (.int .i64 (totV l)) ∧ Below w.heap.size w w' := by
  have c1 := Lib.hid (rnormal_any l v w hl hll)
  have HE := Lib.hid (i64_norm he)
  have hcl := norm_len l
  have hsz := size_64 he
  have hcan := norm_canon l
  obtain ⟨V, hV⟩ : ∃ V, totV l = V := ⟨_, rfl⟩
  obtain ⟨T, hT⟩ : ∃ T, sizeL l = T := ⟨_, rfl⟩
  have F : Hid ((9223372036854775807 < T → V = 9223372036854775807) ∧ (¬ 9223372036854775807 < T → V = T)) := by
    unfold Hid
    rw [← hV, ← hT]
    unfold totV
    exact ⟨fun h => by rw [if_pos h], fun h => by rw [if_neg h]⟩
  rw [hT] at hsz
  obtain ⟨C, hC⟩ : ∃ C, normL l = C := ⟨_, rfl⟩
  have HT : Hid (0 + sumL C = T) := by show _ = _; rw [← hC, ← hT]; unfold sizeL; omega
  rw [hC] at c1 HE hcl hcan
  rw [hV]
  obtain ⟨pa, ca, rfl⟩ := hl.nil
  obtain ⟨N, hN⟩ : ∃ N, l.length = N := ⟨_, rfl⟩
  rw [hN] at c1 hcl hll ⊢
  have hcl2 : (C.length : Int) ≤ 100000 := by omega
  have hsz := Lib.hid hsz
  have hcan := Lib.hid hcan
  clear he hl hC hN hV hT
  go_enter Try.func16, Try.ntmps16
  go_wp2_with fail
  refine c1.out.mono ?_; rintro e w1 ⟨v1, rfl, own1, k1⟩
  obtain ⟨p1, cc1, rfl, hp1⟩ := own1.shape
  have hp1 := Lib.hid hp1
  have own1 := Lib.hid own1
  have k1 := Lib.hid k1
  clear c1
  go_wp2_with fail
  go_loopw [3, 5] (fun sv iv wr => ∃ (n : Int) (i : Nat), sv = .int .u64 n ∧ iv = .int .i64 (i : Int) ∧ i ≤ C.length ∧ Hid (Below w1.heap.size w1 wr) ∧ Hid (0 ≤ n) ∧ Hid (n + sumL (C.drop i) = T)) (fun _ iv _ => C.length - (intOf iv).toNat)
  case atStart => exact ⟨0, 0, rfl, rfl, Nat.zero_le _, Below.refl _ _, Int.le_refl _, HT.out⟩
  case round =>
    obtain ⟨n, i, rfl, rfl, hi, hB, hn0, hf⟩ := hrel
    by_cases hlt : i < C.length
    · have hlt' : (i : Int) < (C.length : Int) := by omega
      obtain ⟨x, hx⟩ : ∃ x, C[i]? = some x := ⟨_, List.getElem?_eq_getElem hlt⟩
      obtain ⟨g, rfl, -, hgl⟩ := hp1.out (by omega)
      obtain ⟨x0, x1⟩ := own1.out.at_ hx
      replace x0 := (hB.out.cell hgl).trans x0
      replace x1 := (hB.out.cell hgl).trans x1
      have bx := HE.out x (List.mem_of_getElem? hx)
      have hxx := canon_all hcan.out x (List.mem_of_getElem? hx)
      have hnx := Lib.hid (sum_next hx hf.out)
      have hnn := sum_nonneg _ (canon_drop C (i + 1) hcan.out)
      obtain ⟨p, q⟩ := x
      simp only at x0 x1 bx hxx hnx
      have hn1 : Hid (0 ≤ n + (q - p)) := by have := hn0.out; show _ ≤ _; omega
      have e1 := u64_sum bx.1 bx.2 hn1.out (by have := hnx.out; have := hsz.out; omega)
      generalize hM : n + (q - p) = M at e1 hnx hn1
      clear hx hf bx hxx hnn hM hn0
      go_wp2_with fail
      go_quiet (fail)
      go_wp2_with fail
      exact ⟨⟨M, i + 1, rfl, rfl, hlt, below_drewN hB.out _, hn1.out, hnx.out⟩, by simp [intOf]; omega⟩
    · obtain rfl : i = C.length := by omega
      have hlt' : ¬ (C.length : Int) < (C.length : Int) := by omega
      have hnT : n = T := by have := hf.out; rw [List.drop_length, sumL] at this; omega
      have hb := Lib.hid (stepB k1.out hB.out)
      have hn1 := Lib.hid (show 0 ≤ n from hn0.out)
      have hn2 := Lib.hid (show n ≤ 18446744073709551615 by have := hsz.out.2; omega)
      subst hnT
      clear hf HT hB hp1 own1 HE hn0 hcan
      by_cases hbig : 9223372036854775807 < n
      · have hd := Lib.hid (F.out.1 (by omega))
        clear F
        go_wp2_with fail
        go_ret
        exact ⟨by first | rfl | (rw [hd.out]; rfl), hb.out⟩
      · have hd := Lib.hid (F.out.2 (by omega))
        have e1 : IntKind.i64.wrap n = n := IntWalk.i64_in _ (by have := hn1.out; omega)
        have hn3 : n ≤ 9223372036854775807 := by omega
        have hn4 : 0 ≤ n := hn1.out
        clear F
        go_wp2_with fail
        go_ret
        exact ⟨by first | rfl | (rw [hd.out]; rfl), hb.out⟩
end Go.Proofs.Ytmfhjgddpkecfaa.Sp
