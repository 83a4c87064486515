/-
  Contract of the reference of layer 7: Scan.
-/
import Derived.Test.YtdpnmlgadieamaaLxLexs
namespace Go.Proofs.Ytdpnmlgadieamaa.Lx
open Go.RowKit

/-- Lexemes of the call's own, an error, its place. -/
def ScEnd (T : List Lex × Int × Nat) (w : World) (e : Ending) (w' : World) : Prop := ∃ v, e = .returned (.tuple #[v, .int .i64 T.2.1, .int .i64 (T.2.2 : Int)]) ∧ OwnL w' w.heap.size v T.1 ∧ Below w.heap.size w w'
theorem ret_sc {v : Value} {a a' b b' : Int} (h1 : a = a') (h2 : b = b') : Ending.returned (.tuple #[v, .int .i64 a, .int .i64 b]) = .returned (.tuple #[v, .int .i64 a', .int .i64 b']) := by rw [h1, h2]
theorem sc_next {s : ByteArray} {a f : Nat} {acc : List Lex} {T : List Lex × Int × Nat} {o : One} (h : a < s.size) (ho : oneR (rest s a) = o) (he : o.e = 0) (hf : s.size - a < f + 1) (hT : scR (f + 1) acc a (rest s a) = T) :
    scR f (acc ++ [⟨o.k, o.t, o.n, a⟩]) (skA s (a + o.u)) (rest s (skA s (a + o.u))) = T ∧ a + o.u ≤ s.size ∧ a + 1 ≤ skA s (a + o.u) ∧ s.size - skA s (a + o.u) < f := by
  have h0 : rest s a ≠ [] := by rw [rest_at h]; simp
  have he' : (oneR (rest s a)).e = 0 := by rw [ho]; exact he
  have hu := one_used _ he'
  have hA := nxA_eq a he'
  have hlt := nxA_lt a he'
  rw [rest_len, ho] at hu
  rw [rest_len] at hA
  have hle : a + o.u ≤ s.size := by omega
  have hr : rest s (skA s (a + o.u)) = nxL (rest s a) := by
    rw [skA_rest hle]
    unfold nxL
    rw [ho, rest_drop]
  have hn : nxA a (rest s a) = skA s (a + o.u) := by
    have h1 := congrArg List.length hr
    have h2 := skA_le s (a + o.u)
    rw [rest_len] at h1
    omega
  rw [scR_good _ _ _ h0 he', hn, ← hr] at hT
  rw [hn] at hlt
  refine ⟨?_, hle, hlt, by omega⟩
  rw [← hT]
  unfold nxX
  rw [ho]
theorem sc_bad {s : ByteArray} {a f : Nat} {acc : List Lex} {T : List Lex × Int × Nat} {o : One} (h : a < s.size) (ho : oneR (rest s a) = o) (he : o.e ≠ 0) (hT : scR (f + 1) acc a (rest s a) = T) : T = ([], o.e, a + o.u) := by
  have h0 : rest s a ≠ [] := by rw [rest_at h]; simp
  rw [scR_bad _ _ _ h0 (by rw [ho]; exact he), ho] at hT
  exact hT.symm
theorem sc_none {s : ByteArray} {f : Nat} {acc : List Lex} {T : List Lex × Int × Nat} (hf : 0 < f) (hT : scR f acc s.size (rest s s.size) = T) : T = (acc ++ [⟨0, [], 0, s.size⟩], 0, 0) := by
  rw [rest_end (Nat.le_refl _)] at hT
  obtain ⟨g, rfl⟩ : ∃ g, f = g + 1 := ⟨f - 1, by omega⟩
  exact hT.symm
theorem scan_start (s : ByteArray) (h : s.size ≤ 16384) : scR (s.size + 1) [] (skA s 0) (rest s (skA s 0)) = scanM s.data.toList := by
  unfold scanM
  rw [if_neg (by rw [len_data]; omega), len_data, skA_rest (Nat.zero_le _)]; rfl
theorem scan_long (s : ByteArray) (h : 16384 < s.size) : scanM s.data.toList = ([], 4, 16384) := by
  unfold scanM
  rw [if_pos (by rw [len_data]; exact h)]
set_option maxHeartbeats 4000000 in
set_option maxRecDepth 100000 in
theorem rscan_any (s : ByteArray) (w : World) (hs : s.size ≤ 100000) : Calls Try.prog 13 #[.string s] w (ScEnd (scanM s.data.toList) w) := by
  have hs' : (s.size : Int) ≤ 100000 := by omega
  by_cases hlong : 16384 < s.size
  · have hl' : (16384 : Int) < (s.size : Int) := by omega
    rw [scan_long s hlong]
    clear hlong
    go_enter Try.func13, Try.ntmps13
    go_wp2_with fail
    (try simp only [Exit.inBlock, Exit.then]); refine bodyPost_ret (results_tmp3 rfl _ _ _) rfl ?_
    exact ⟨_, rfl, OwnL.nil _ _, Below.refl _ _⟩
  · have hl' : ¬ (16384 : Int) < (s.size : Int) := by omega
    have hst := Lib.hid (scan_start s (by omega))
    obtain ⟨T, hT⟩ : ∃ T, scanM s.data.toList = T := ⟨_, rfl⟩
    rw [hT] at hst ⊢
    have c1 := Lib.hid (fun b hb w => rskip_any s b w (by omega) hb)
    have c2 := Lib.hid (fun b hb w => rone_any s b w hs hb)
    have c0 := Lib.hid (c1.out 0 (Nat.zero_le _))
    have hsk := skA_le s 0
    have hs16 : s.size ≤ 16384 := by omega
    obtain ⟨i0, hi0, hz0, hz1, hz2⟩ := info_parts info_lexz
    obtain ⟨A0, hA0⟩ : ∃ A, skA s 0 = A := ⟨_, rfl⟩
    rw [hA0] at hst c0 hsk
    clear hlong hT hA0
    go_enter Try.func13, Try.ntmps13
    go_wp2_with fail
    refine (c0.out _).mono ?_; rintro e w1 ⟨rfl, rfl⟩
    clear c0
    go_wp2_with fail
    go_loopw [5, 6] (fun v x wr => ∃ (acc : List Lex) (a f : Nat), x = .int .i64 (a : Int) ∧ a ≤ s.size ∧ acc.length ≤ a ∧ Hid (Below w.heap.size w wr) ∧ Hid (OwnL wr w.heap.size v acc) ∧ Hid (scR f acc a (rest s a) = T) ∧ Hid (s.size - a < f)) (fun _ x _ => s.size - (intOf x).toNat)
    case atStart => exact ⟨[], A0, s.size + 1, rfl, hsk, Nat.zero_le _, Below.refl _ _, OwnL.nil _ _, hst.out, by show _ < _; omega⟩
    case round =>
      obtain ⟨acc, a, f, rfl, ha, hal, hB, hown, hst, hf⟩ := hrel
      by_cases hlt : a < s.size
      · have hlt' : (a : Int) < (s.size : Int) := by omega
        obtain ⟨f, rfl⟩ : ∃ k, f = k + 1 := ⟨f - 1, by have := hf.out; omega⟩
        obtain ⟨o, ho⟩ : ∃ o, oneR (rest s a) = o := ⟨_, rfl⟩
        have cO := Lib.hid (c2.out a hlt)
        rw [ho] at cO
        unfold OnEnd at cO
        by_cases he : o.e = 0
        · have nx := Lib.hid (sc_next hlt ho he hf.out hst.out)
          have cK := Lib.hid (c1.out (a + o.u) nx.out.2.1)
          have hon : onA a o = (a : Int) := if_pos he
          rw [hon, he] at cO
          have hres := Lib.hid (show lexC ⟨o.k, o.t, o.n, a⟩ = [.int .i64 o.k, .string (toS o.t), .int .i64 o.n, .int .i64 (a : Int)] from rfl)
          have hnx1 := nx.out.2.2.1
          have hnx2 := skA_le s (a + o.u)
          have hnx := Lib.hid nx.out.1
          have hnf := Lib.hid nx.out.2.2.2
          generalize skA s (a + o.u) = A2 at cK hnx hnx1 hnx2 hnf
          obtain ⟨U, hU⟩ : ∃ U, a + o.u = U := ⟨_, rfl⟩
          rw [hU] at cO cK
          obtain ⟨k, t, n, u, e⟩ := o
          simp only at cO hnx hres
          generalize toS t = tS at cO hres
          clear c1 c2 hst hf ho he nx hon hU
          go_wp2_with fail
          refine (cO.out _).mono ?_; rintro e1 w2 ⟨rfl, k2⟩
          have B2 := stepB hB.out k2
          have n2 := Lib.hid (Blk.new w2 35 lx0)
          have x3 := Lib.hid (blk_row (Blk.new w2 35 lx0) (lxL k tS n (a : Int)))
          have m3 : Below w2.heap.size w2 ((w2.alloc lxO).setRow w2.heap.size (lxL k tS n (a : Int))) := below_row ((Below.refl _ w2).alloc (Nat.le_refl _) lxO) (Nat.le_refl _) _
          have B3 := stepB B2 m3
          have own3 := Lib.hid ((hown.out.below k2).below m3)
          have room := room4 (n := acc.length) (by omega)
          have hsz : Hid (((w2.alloc lxO).setRow w2.heap.size (lxL k tS n (a : Int))).heap.size = w2.heap.size + 1) := by show _ = _; simp
          clear hB hown m3
          go_wp2_with (first | (refine wpList_store_row rfl 35 (.tmp 7) (.tmp 23) rfl w2.heap.size (lxL k tS n (a : Int)) rfl rfl 35 _ n2.out (lx_size _ _ _ _) rfl (lx_ones _ _ _ _) ?_) | (refine wpList_load_row rfl 35 (.tmp 7) rfl w2.heap.size rfl 35 _ (0, 0) _ x3.out Try.underlying35 rfl (lx_size _ _ _ _) ?_) | (at_builtin; refine wpList_append_own _ rfl _ _ 23 rfl w.heap.size 35 i0 (.agg lx0) 4 40 Try.underlying23 hi0 hz0 hz1 hz2 rfl (by decide) _ _ _ rfl (OwnL.alloc own3.out _) ⟨w2.heap.size + 1, 0, none⟩ 1 1 [.int .i64 k, .string tS, .int .i64 n, .int .i64 (a : Int)] rfl rfl (news4_at _ hsz.out _ _ _ _) (ones4 _ _ _ _) room.1 room.2 (B3.alloc B3.size _).size ?_))
          intro v' w6 hown' hgrow _
          have k6 : Below w.heap.size w w6 := (B3.alloc B3.size _).grown hgrow (B3.alloc B3.size _).size (fun j hj => OwnL.lt own3.out j hj)
          have hf2 : Hid (OwnL w6 w.heap.size v' (acc ++ [⟨k, t, n, a⟩])) := OwnL.snoc (by rw [hres.out]; exact hown')
          clear hown' hgrow own3
          go_wp2_with fail
          refine (cK.out _).mono ?_; rintro e2 w7 ⟨rfl, rfl⟩
          go_wp2_with fail
          exact ⟨⟨_, A2, f, rfl, hnx2, by rw [List.length_append]; show _ + 1 ≤ _; omega, k6, hf2.out, hnx.out, hnf.out⟩, by simp [intOf]; omega⟩
        · have hT := sc_bad hlt ho he hst.out
          subst hT
          have hne : (o.e != 0) = true := bne_iff_ne.2 he
          obtain ⟨U, hU⟩ : ∃ U, a + o.u = U := ⟨_, rfl⟩
          rw [hU] at cO
          obtain ⟨k, t, n, u, e⟩ := o
          simp only at cO hne
          generalize onA a ⟨k, t, n, u, e⟩ = A3 at cO
          generalize toS t = tS at cO
          clear c1 c2 hst hf ho he hown
          go_wp2_with fail
          refine (cO.out _).mono ?_; rintro e1 w2 ⟨rfl, k2⟩
          have B2 := stepB hB.out k2
          have n2 := Lib.hid (Blk.new w2 35 lx0)
          have B3 := Lib.hid (below_row (B2.alloc B2.size lxO) B2.size (lxL k tS n A3))
          go_wp2_with (refine wpList_store_row rfl 35 (.tmp 7) (.tmp 23) rfl w2.heap.size (lxL k tS n A3) rfl rfl 35 _ n2.out (lx_size _ _ _ _) rfl (lx_ones _ _ _ _) ?_)
          (try simp only [Exit.inBlock, Exit.then]); refine bodyPost_ret (results_tmp3 rfl _ _ _) rfl ?_
          exact ⟨_, ret_sc rfl (by show (U : Int) = ((a + u : Nat) : Int); rw [← hU]), OwnL.nil _ _, B3.out⟩
      · obtain rfl : a = s.size := by omega
        have hlt' : ¬ (s.size : Int) < (s.size : Int) := by omega
        have hT := sc_none (by have := hf.out; omega) hst.out
        subst hT
        have room := room4 (n := acc.length) (by omega)
        clear c1 c2 hst hf
        go_wp2_with (at_builtin; refine wpList_append_own _ rfl _ _ 23 rfl w.heap.size 35 i0 (.agg lx0) 4 40 Try.underlying23 hi0 hz0 hz1 hz2 rfl (by decide) _ _ _ rfl (OwnL.alloc hown.out _) ⟨wr.heap.size, 0, none⟩ 1 1 [.int .i64 0, .string ⟨#[]⟩, .int .i64 0, .int .i64 (s.size : Int)] rfl rfl (news4 _ _ _ _ _) (ones4 _ _ _ _) room.1 room.2 (hB.out.alloc hB.out.size _).size ?_)
        intro v' w6 hown' hgrow _
        have k6 : Below w.heap.size w w6 := (hB.out.alloc hB.out.size _).grown hgrow (hB.out.alloc hB.out.size _).size (fun j hj => OwnL.lt hown.out j hj)
        have hf2 : Hid (OwnL w6 w.heap.size v' (acc ++ [⟨0, [], 0, s.size⟩])) := OwnL.snoc hown'
        clear hown' hgrow hown
        go_wp2_with fail
        (try simp only [Exit.inBlock, Exit.then]); refine bodyPost_ret (results_tmp3 rfl _ _ _) rfl ?_
        exact ⟨_, rfl, hf2.out, k6⟩
end Go.Proofs.Ytdpnmlgadieamaa.Lx
