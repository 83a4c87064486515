/-
  Contract of the reference of layer 7: one.
-/
import Derived.Test.YtdpnmlgadieamaaLxR4
namespace Go.Proofs.Ytdpnmlgadieamaa.Lx
open Go.RowKit

/-- One lexeme, where it ends, the error. -/
def onA (b : Nat) (o : One) : Int := if o.e = 0 then (b : Int) else 0
def OnEnd (b : Nat) (o : One) (w : World) (e : Ending) (w' : World) : Prop :=
  e = .returned (.tuple #[.agg (lxL o.k (toS o.t) o.n (onA b o)), .int .i64 ((b + o.u : Nat) : Int), .int .i64 o.e]) ∧ Below w.heap.size w w'
theorem on_ret {a : Act} {w W : World} {b : Nat} {o : One} (g : Nat) (k : Int) (t : ByteArray) (n p u x : Int) (hp : a.tmps.getD 4 undef = .pointer (some ⟨g, 0, none⟩)) (hv : a.tmps.getD 5 undef = .int .i64 u) (hx : a.tmps.getD 6 undef = .int .i64 x)
    (hg : Blk W g 35 (lxL k t n p)) (hB : Below w.heap.size w W) (hdf : a.defers = []) (ho : k = o.k ∧ t = toS o.t ∧ n = o.n ∧ p = onA b o ∧ u = ((b + o.u : Nat) : Int) ∧ x = o.e) : bodyPost Try.prog Try.f24 (OnEnd b o w) .ret a W := by
  obtain ⟨rfl, rfl, rfl, rfl, rfl, rfl⟩ := ho
  refine bodyPost_ret (v := .tuple #[.agg (lxL o.k (toS o.t) o.n (onA b o)), .int .i64 ((b + o.u : Nat) : Int), .int .i64 o.e]) ?_ hdf ⟨rfl, hB⟩
  have hl := run_loadVar_row (P := Try.prog) W g 35 35 (lxL o.k (toS o.t) o.n (onA b o)) (0, 0) _ hg Try.underlying35 rfl info_lex
  have hr : Try.f24.results = #[.cell 4 35, .tmp 5, .tmp 6] := rfl
  have hp' : a.tmps[4]?.getD undef = .pointer (some ⟨g, 0, none⟩) := by simpa using hp
  have hv' : a.tmps[5]?.getD undef = .int .i64 ((b + o.u : Nat) : Int) := by simpa using hv
  have hx' : a.tmps[6]?.getD undef = .int .i64 o.e := by simpa using hx
  simp only [results, hr]
  simp [Result.andThen, hp', hv', hx', asAddr, hl]
theorem name_is {R : List UInt8} {c : UInt8} {r : List UInt8} (hR : R = c :: r) (h : letN c.toNat = true) : Id.nameS (toS (nmL R)) = decide ((nmL R).length ≤ 16) := by
  have hl : nmL R = c :: nmL r := by rw [hR, nmL_cons h]
  have ha : (nmL R).all Id.okU = true := by
    rw [List.all_eq_true]
    intro x hx
    have := nmL_all R x hx
    unfold nmN letN digN at this
    unfold Id.okU Id.okZ Id.letZ Id.digZ
    simp at this ⊢
    omega
  have hc : Id.letU c = true := by
    unfold letN at h
    unfold Id.letU Id.letZ
    simp at h ⊢
    omega
  unfold Id.nameS Id.nameL
  rw [data_toS, ha, hl]
  simp [hc]
theorem mk_two (c d : UInt8) : mkL [c, d] = (c.toNat == 45 && d.toNat == 62) := by
  unfold mkL
  rw [Bool.or_false]
  have h : ∀ x y : UInt8, (x == y) = (x.toNat == y.toNat) := fun x y => by
    by_cases e : x = y
    · rw [e, beq_self_eq_true, beq_self_eq_true]
    · rw [beq_false_of_ne e, beq_false_of_ne (fun f => e (UInt8.toNat_inj.1 f))]
  show (c == 45 && (d == 62 && ([] == ([] : List UInt8)))) = _
  rw [h, h]
  simp
set_option maxHeartbeats 4000000 in
set_option maxRecDepth 100000 in
theorem rone_any (s : ByteArray) (b : Nat) (w : World) (hs : s.size ≤ 100000) (hb : b < s.size) : Calls Try.prog 24 #[.string s, .int .i64 (b : Int)] w (OnEnd b (oneR (rest s b)) w) := by
  have hs' : (s.size : Int) ≤ 100000 := by omega
  have hb' : (b : Int) < (s.size : Int) := by omega
  obtain ⟨c, hc⟩ : ∃ c, s[b] = c := ⟨_, rfl⟩
  obtain ⟨D, hD⟩ : ∃ D, c.toNat = D := ⟨_, rfl⟩
  have hdn : s[b].toNat = D := by rw [hc, hD]
  obtain ⟨r, hr⟩ : ∃ r, rest s (b + 1) = r := ⟨_, rfl⟩
  have hR : rest s b = c :: r := by rw [rest_at hb, hc, hr]
  have HD := Lib.hid hD
  have cl := Lib.hid (fun w => rletter_any D w)
  have cd := Lib.hid (fun w => rdigit_any D w)
  have b0 := Blk.new w 35 lx0
  have b1 := blk_old b0 lxO
  have b2 : Blk ((w.alloc lxO).alloc lxO) (w.heap.size + 1) 35 lx0 := by
    have := Blk.new (w.alloc lxO) 35 lx0
    rw [show (w.alloc lxO).heap.size = w.heap.size + 1 by simp] at this
    exact this
  have hZ := Lib.hid b2
  have hR0 := Lib.hid (blk_far b1 (by omega : w.heap.size ≠ w.heap.size + 1) lx0)
  have hN0 := Lib.hid (blk_row b2 lx0)
  have hB0 := Lib.hid (below_row (((Below.refl w.heap.size w).alloc (Nat.le_refl _) lxO).alloc ((Below.refl w.heap.size w).alloc (Nat.le_refl _) lxO).size lxO) (Nat.le_succ w.heap.size) lx0)
  obtain ⟨o, ho⟩ : ∃ o, oneR (rest s b) = o := ⟨_, rfl⟩
  rw [ho]
  have HO := Lib.hid ho
  clear b0 b1 b2 hc hD ho
  by_cases hlet : letN D = true
  · have h1 : letN c.toNat = true := by rw [HD.out]; exact hlet
    have c3 := Lib.hid (fun w => rnm_any s b w (by omega) (Nat.le_of_lt hb))
    have c4 := Lib.hid (fun w => Id.rname_any (toS (nmL (rest s b))) w)
    rw [name_is hR h1] at c4
    have hcut := nm_cut s b
    have hle := nmL_le (rest s b)
    rw [rest_len] at hle
    have hA1 : nmA s b ≤ s.size := by unfold nmA; omega
    have hA2 : b ≤ nmA s b := Nat.le_add_right _ _
    have hAe := Lib.hid (show (nmA s b : Int) = ((b + (nmL (rest s b)).length : Nat) : Int) from rfl)
    rw [hlet] at cl
    by_cases h16 : (nmL (rest s b)).length ≤ 16
    · have F : Hid ((1 : Int) = o.k ∧ toS (nmL (rest s b)) = toS o.t ∧ (0 : Int) = o.n ∧ (b : Int) = onA b o ∧ (nmA s b : Int) = ((b + o.u : Nat) : Int) ∧ (0 : Int) = o.e) := by
        have e : o = ⟨1, nmL (rest s b), 0, (nmL (rest s b)).length, 0⟩ := by rw [← HO.out, hR, oneR_cons, if_pos h1, if_pos (by rw [← hR]; exact h16)]
        rw [e]
        exact ⟨rfl, rfl, rfl, (if_pos rfl).symm, hAe.out, rfl⟩
      rw [decide_eq_true h16] at c4
      generalize nmA s b = A at c3 hcut hA1 hA2 F
      generalize toS (nmL (rest s b)) = X at c4 hcut F
      have hA1' : (A : Int) ≤ (s.size : Int) := by omega
      have hA2' : (b : Int) ≤ (A : Int) := by omega
      clear h16 hle hAe hR hr h1 hlet HO cd
      go_enter Try.func24, Try.ntmps24
      go_wp2_with (refine wpList_store_row rfl 35 (.tmp 7) (.tmp 16) rfl (w.heap.size + 1) lx0 rfl rfl 35 _ hZ.out (lx_size _ _ _ _) rfl (lx_ones _ _ _ _) ?_)
      generalize ((w.alloc lxO).alloc lxO).setRow (w.heap.size + 1) lx0 = W1 at hR0 hN0 hB0 ⊢
      refine (cl.out _).mono ?_; rintro e w1 ⟨rfl, rfl⟩
      have he := Lib.hid (blk_row hR0.out (lxL 1 X 0 (b : Int)))
      have hB := Lib.hid (below_row hB0.out (Nat.le_refl _) (lxL 1 X 0 (b : Int)))
      go_wp2_with fail
      refine (c3.out _).mono ?_; rintro e w1 ⟨rfl, rfl⟩
      go_wp2_with fail
      refine (c4.out _).mono ?_; rintro e w1 ⟨rfl, rfl⟩
      go_wp2_with (refine wpList_store_row rfl 35 (.tmp 4) (.tmp 38) rfl w.heap.size (lxL 1 X 0 (b : Int)) rfl rfl 35 _ hR0.out (lx_size _ _ _ _) rfl (lx_ones _ _ _ _) ?_)
      exact on_ret w.heap.size 1 X 0 (b : Int) (A : Int) 0 rfl rfl rfl he.out hB.out rfl F.out
    · have F : Hid ((0 : Int) = o.k ∧ (⟨#[]⟩ : ByteArray) = toS o.t ∧ (0 : Int) = o.n ∧ (0 : Int) = onA b o ∧ (b : Int) = ((b + o.u : Nat) : Int) ∧ (6 : Int) = o.e) := by
        have e : o = ⟨0, [], 0, 0, 6⟩ := by rw [← HO.out, hR, oneR_cons, if_pos h1, if_neg (by rw [← hR]; exact h16)]
        rw [e]
        exact ⟨rfl, rfl, rfl, (if_neg (by decide)).symm, rfl, rfl⟩
      rw [decide_eq_false h16] at c4
      generalize nmA s b = A at c3 hcut hA1 hA2
      generalize toS (nmL (rest s b)) = X at c4 hcut
      have hA1' : (A : Int) ≤ (s.size : Int) := by omega
      have hA2' : (b : Int) ≤ (A : Int) := by omega
      clear h16 hle hAe hR hr h1 hlet HO cd
      go_enter Try.func24, Try.ntmps24
      go_wp2_with (refine wpList_store_row rfl 35 (.tmp 7) (.tmp 16) rfl (w.heap.size + 1) lx0 rfl rfl 35 _ hZ.out (lx_size _ _ _ _) rfl (lx_ones _ _ _ _) ?_)
      generalize ((w.alloc lxO).alloc lxO).setRow (w.heap.size + 1) lx0 = W1 at hR0 hN0 hB0 ⊢
      refine (cl.out _).mono ?_; rintro e w1 ⟨rfl, rfl⟩
      have he := Lib.hid (blk_row hR0.out (lxL 0 ⟨#[]⟩ 0 0))
      have hB := Lib.hid (below_row hB0.out (Nat.le_refl _) (lxL 0 ⟨#[]⟩ 0 0))
      go_wp2_with fail
      refine (c3.out _).mono ?_; rintro e w1 ⟨rfl, rfl⟩
      go_wp2_with fail
      refine (c4.out _).mono ?_; rintro e w1 ⟨rfl, rfl⟩
      go_wp2_with (first | (refine wpList_load_row rfl 35 (.tmp 7) rfl (w.heap.size + 1) rfl 35 _ (0, 0) _ hN0.out Try.underlying35 rfl (lx_size _ _ _ _) ?_) | (refine wpList_store_row rfl 35 (.tmp 4) (.tmp 31) rfl w.heap.size (lx0) rfl rfl 35 _ hR0.out (lx_size _ _ _ _) rfl (lx_ones _ _ _ _) ?_))
      exact on_ret w.heap.size 0 ⟨#[]⟩ 0 0 (b : Int) 6 rfl rfl rfl he.out hB.out rfl F.out
  · have hlet : letN D = false := by simpa using hlet
    by_cases hdig : digN D = true
    · have h1 : letN c.toNat = false := by rw [HD.out]; exact hlet
      have h2 : digN c.toNat = true := by rw [HD.out]; exact hdig
      have c3 := Lib.hid (fun w => rnumber_any s b w (by omega) (Nat.le_of_lt hb))
      have ho1 : oneR (rest s b) = if parE (dgL (rest s b)) = 0 then ⟨2, dgL (rest s b), parQ (dgL (rest s b)), (dgL (rest s b)).length, 0⟩ else ⟨0, [], 0, 0, parE (dgL (rest s b))⟩ := by
        rw [hR, oneR_cons, if_neg (by rw [h1]; decide), if_pos h2]
      rw [HO.out] at ho1
      rw [hlet] at cl
      rw [hdig] at cd
      have hxs := toS_size (dgL (rest s b))
      have hle := dgL_le (rest s b)
      rw [rest_len] at hle
      have hb5 : b + (dgL (rest s b)).length ≤ 100000 := by omega
      obtain ⟨K, hK⟩ : ∃ K, (dgL (rest s b)).length = K := ⟨_, rfl⟩
      rw [hK] at hxs hb5 ho1
      by_cases h0 : parE (dgL (rest s b)) = 0
      · rw [if_pos h0] at ho1
        have F : Hid ((2 : Int) = o.k ∧ toS (dgL (rest s b)) = toS o.t ∧ parQ (dgL (rest s b)) = o.n ∧ (b : Int) = onA b o ∧ ((b : Int) + (K : Int)) = ((b + o.u : Nat) : Int) ∧ (0 : Int) = o.e) := by
          rw [ho1]
          exact ⟨rfl, rfl, rfl, (if_pos rfl).symm, rfl, rfl⟩
        rw [h0] at c3
        generalize toS (dgL (rest s b)) = X at c3 hxs F
        generalize parQ (dgL (rest s b)) = N at c3 F
        have e1 : IntKind.i64.wrap ((b : Int) + (K : Int)) = (b : Int) + (K : Int) := IntWalk.i64_in _ (by omega)
        have hxs' : (X.size : Int) = (K : Int) := by omega
        have HXS := Lib.hid hxs
        clear ho1 h0 hle hK hR hr h1 h2 hlet hdig HO hb5 hxs
        go_enter Try.func24, Try.ntmps24
        go_wp2_with (refine wpList_store_row rfl 35 (.tmp 7) (.tmp 16) rfl (w.heap.size + 1) lx0 rfl rfl 35 _ hZ.out (lx_size _ _ _ _) rfl (lx_ones _ _ _ _) ?_)
        generalize ((w.alloc lxO).alloc lxO).setRow (w.heap.size + 1) lx0 = W1 at hR0 hN0 hB0 ⊢
        refine (cl.out _).mono ?_; rintro e w1 ⟨rfl, rfl⟩
        go_wp2_with fail
        refine (cd.out _).mono ?_; rintro e w1 ⟨rfl, rfl⟩
        go_wp2_with fail
        refine (c3.out _).mono ?_; rintro e w2 ⟨rfl, k2⟩
        have l1 := blk_lt hN0.out
        have l2 := k2.size
        have x3 := Lib.hid (blk_row (Blk.new w2 35 lx0) (lxL 2 X N (b : Int)))
        have n2 := Lib.hid (Blk.new w2 35 lx0)
        have r3 := Lib.hid (blk_far (blk_old (blk_below hR0.out k2) lxO) (by omega : w.heap.size ≠ w2.heap.size) (lxL 2 X N (b : Int)))
        have B2 := stepB hB0.out k2
        have B3 := Lib.hid (below_row (B2.alloc B2.size lxO) B2.size (lxL 2 X N (b : Int)))
        have ne1 : ¬ w2.heap.size = w.heap.size := by omega
        have ne2 : ¬ w.heap.size = w2.heap.size := by omega
        clear l1 l2
        go_wp2_with (refine wpList_store_row rfl 35 (.tmp 10) (.tmp 46) rfl w2.heap.size (lxL 2 X N (b : Int)) rfl rfl 35 _ n2.out (lx_size _ _ _ _) rfl (lx_ones _ _ _ _) ?_)
        generalize (w2.alloc lxO).setRow w2.heap.size (lxL 2 X N (b : Int)) = W3 at x3 r3 B3 ⊢
        generalize w2.heap.size = g2 at x3 ne1 ne2 ⊢
        have y0 : W3.cell? ⟨g2, 0, none⟩ = some (.int .i64 2) := x3.out.cell 0
        have y1 : W3.cell? ⟨g2, 1, none⟩ = some (.string X) := x3.out.cell 1
        have y2 : W3.cell? ⟨g2, 2, none⟩ = some (.int .i64 N) := x3.out.cell 2
        have y3 : W3.cell? ⟨g2, 3, none⟩ = some (.int .i64 (b : Int)) := x3.out.cell 3
        have q0 : W3.cell? ⟨w.heap.size, 0, none⟩ = some (.int .i64 0) := r3.out.cell 0
        have q1 : W3.cell? ⟨w.heap.size, 1, none⟩ = some (.string ⟨#[]⟩) := r3.out.cell 1
        have q2 : W3.cell? ⟨w.heap.size, 2, none⟩ = some (.int .i64 0) := r3.out.cell 2
        have q3 : W3.cell? ⟨w.heap.size, 3, none⟩ = some (.int .i64 0) := r3.out.cell 3
        have z0 := r3.out.frozen 0
        have z1 := r3.out.frozen 1
        have z2 := r3.out.frozen 2
        have z3 := r3.out.frozen 3
        have he := Lib.hid (blk_set4 r3.out (.int .i64 2) (.string X) (.int .i64 N) (.int .i64 (b : Int)))
        have hB := Lib.hid (below4 B3.out (Nat.le_refl _) (.int .i64 2) (.string X) (.int .i64 N) (.int .i64 (b : Int)))
        go_region
        all_goals (
          go_wp2_with fail
          first | exact on_ret w.heap.size 2 X N (b : Int) ((b : Int) + (K : Int)) 0 rfl rfl rfl he.out hB.out.drew rfl F.out | exact on_ret w.heap.size 2 X N (b : Int) ((b : Int) + (K : Int)) 0 rfl rfl rfl he.out hB.out rfl F.out)
      · rw [if_neg h0] at ho1
        have F : Hid ((0 : Int) = o.k ∧ (⟨#[]⟩ : ByteArray) = toS o.t ∧ (0 : Int) = o.n ∧ (0 : Int) = onA b o ∧ (b : Int) = ((b + o.u : Nat) : Int) ∧ parE (dgL (rest s b)) = o.e) := by
          rw [ho1]
          exact ⟨rfl, rfl, rfl, (if_neg h0).symm, rfl, rfl⟩
        have hne : (parE (dgL (rest s b)) != 0) = true := bne_iff_ne.2 h0
        generalize toS (dgL (rest s b)) = X at c3
        generalize parQ (dgL (rest s b)) = N at c3
        generalize parE (dgL (rest s b)) = E at c3 F hne
        clear ho1 h0 hle hK hR hr h1 h2 hlet hdig HO hb5 hxs
        go_enter Try.func24, Try.ntmps24
        go_wp2_with (refine wpList_store_row rfl 35 (.tmp 7) (.tmp 16) rfl (w.heap.size + 1) lx0 rfl rfl 35 _ hZ.out (lx_size _ _ _ _) rfl (lx_ones _ _ _ _) ?_)
        generalize ((w.alloc lxO).alloc lxO).setRow (w.heap.size + 1) lx0 = W1 at hR0 hN0 hB0 ⊢
        refine (cl.out _).mono ?_; rintro e w1 ⟨rfl, rfl⟩
        go_wp2_with fail
        refine (cd.out _).mono ?_; rintro e w1 ⟨rfl, rfl⟩
        go_wp2_with fail
        refine (c3.out _).mono ?_; rintro e w2 ⟨rfl, k2⟩
        have l1 := blk_lt hN0.out
        have l2 := k2.size
        have n2 := Lib.hid (Blk.new w2 35 lx0)
        have r3 := Lib.hid (blk_far (blk_old (blk_below hR0.out k2) lxO) (by omega : w.heap.size ≠ w2.heap.size) (lxL 2 X N (b : Int)))
        have n3 := Lib.hid (blk_far (blk_old (blk_below hN0.out k2) lxO) (by omega : w.heap.size + 1 ≠ w2.heap.size) (lxL 2 X N (b : Int)))
        have B2 := stepB hB0.out k2
        have B3 := Lib.hid (below_row (B2.alloc B2.size lxO) B2.size (lxL 2 X N (b : Int)))
        clear l1 l2
        have he := Lib.hid (blk_row r3.out lx0)
        have hB := Lib.hid (below_row B3.out (Nat.le_refl _) lx0)
        go_wp2_with (first | (refine wpList_store_row rfl 35 (.tmp 10) (.tmp 46) rfl w2.heap.size (lxL 2 X N (b : Int)) rfl rfl 35 _ n2.out (lx_size _ _ _ _) rfl (lx_ones _ _ _ _) ?_) | (refine wpList_load_row rfl 35 (.tmp 7) rfl (w.heap.size + 1) rfl 35 _ (0, 0) _ n3.out Try.underlying35 rfl (lx_size _ _ _ _) ?_) | (refine wpList_store_row rfl 35 (.tmp 4) (.tmp 50) rfl w.heap.size (lx0) rfl rfl 35 _ r3.out (lx_size _ _ _ _) rfl (lx_ones _ _ _ _) ?_))
        exact on_ret w.heap.size 0 ⟨#[]⟩ 0 0 (b : Int) E rfl rfl rfl he.out hB.out rfl F.out
    · have hdig : digN D = false := by simpa using hdig
      by_cases h34 : D = 34
      · have h1 : letN c.toNat = false := by rw [HD.out]; exact hlet
        have h2 : digN c.toNat = false := by rw [HD.out]; exact hdig
        have h3 : c.toNat = 34 := by rw [HD.out]; exact h34
        have c3 := Lib.hid (fun w => rtext_any s b w (by omega) hb)
        have hV : txV s b = tx [] 1 r := by unfold txV; rw [hr]
        have ho1 : oneR (rest s b) = if (tx [] 1 r).2.2 = true then ⟨3, (tx [] 1 r).1, 0, (tx [] 1 r).2.1, 0⟩ else ⟨0, [], 0, (tx [] 1 r).2.1, 5⟩ := by
          rw [hR, oneR_cons, if_neg (by rw [h1]; decide), if_neg (by rw [h2]; decide), if_pos h3]
        rw [HO.out, ← hV] at ho1
        unfold TxEnd at c3
        rw [hlet] at cl
        rw [hdig] at cd
        by_cases h0 : (txV s b).2.2 = true
        · have hE : txE s b = 0 := if_pos h0
          rw [if_pos h0] at ho1
          have F : Hid ((3 : Int) = o.k ∧ toS (txV s b).1 = toS o.t ∧ (0 : Int) = o.n ∧ (b : Int) = onA b o ∧ ((b + (txV s b).2.1 : Nat) : Int) = ((b + o.u : Nat) : Int) ∧ (0 : Int) = o.e) := by
            rw [ho1]
            exact ⟨rfl, rfl, rfl, (if_pos rfl).symm, rfl, rfl⟩
          rw [hE] at c3
          generalize toS (txV s b).1 = X at c3 F
          obtain ⟨P, hP⟩ : ∃ P, b + (txV s b).2.1 = P := ⟨_, rfl⟩
          rw [hP] at c3 F
          subst h34
          clear ho1 h0 hE hV hP hR hr h1 h2 h3 hlet hdig HO HD
          go_enter Try.func24, Try.ntmps24
          go_wp2_with (refine wpList_store_row rfl 35 (.tmp 7) (.tmp 16) rfl (w.heap.size + 1) lx0 rfl rfl 35 _ hZ.out (lx_size _ _ _ _) rfl (lx_ones _ _ _ _) ?_)
          generalize ((w.alloc lxO).alloc lxO).setRow (w.heap.size + 1) lx0 = W1 at hR0 hN0 hB0 ⊢
          refine (cl.out _).mono ?_; rintro e w1 ⟨rfl, rfl⟩
          go_wp2_with fail
          refine (cd.out _).mono ?_; rintro e w1 ⟨rfl, rfl⟩
          have he := Lib.hid (fun W (k : Below W1.heap.size W1 W) => blk_row (blk_below hR0.out k) (lxL 3 X 0 (b : Int)))
          have hB := Lib.hid (fun W (k : Below W1.heap.size W1 W) => below_row (stepB hB0.out k) (Nat.le_refl _) (lxL 3 X 0 (b : Int)))
          go_wp2_with fail
          refine (c3.out _).mono ?_; rintro e w2 ⟨rfl, k2⟩
          have r3 := Lib.hid (blk_below hR0.out k2)
          go_wp2_with (refine wpList_store_row rfl 35 (.tmp 4) (.tmp 75) rfl w.heap.size (lxL 3 X 0 (b : Int)) rfl rfl 35 _ r3.out (lx_size _ _ _ _) rfl (lx_ones _ _ _ _) ?_)
          exact on_ret w.heap.size 3 X 0 (b : Int) (P : Int) 0 rfl rfl rfl (he.out _ k2) (hB.out _ k2) rfl F.out
        · have hE : txE s b = 5 := if_neg h0
          rw [if_neg h0] at ho1
          have F : Hid ((0 : Int) = o.k ∧ (⟨#[]⟩ : ByteArray) = toS o.t ∧ (0 : Int) = o.n ∧ (0 : Int) = onA b o ∧ ((b + (txV s b).2.1 : Nat) : Int) = ((b + o.u : Nat) : Int) ∧ (5 : Int) = o.e) := by
            rw [ho1]
            exact ⟨rfl, rfl, rfl, (if_neg (by show ¬ (5 : Int) = 0; decide)).symm, rfl, rfl⟩
          rw [hE] at c3
          generalize toS (txV s b).1 = X at c3
          obtain ⟨P, hP⟩ : ∃ P, b + (txV s b).2.1 = P := ⟨_, rfl⟩
          rw [hP] at c3 F
          subst h34
          clear ho1 h0 hE hV hP hR hr h1 h2 h3 hlet hdig HO HD
          go_enter Try.func24, Try.ntmps24
          go_wp2_with (refine wpList_store_row rfl 35 (.tmp 7) (.tmp 16) rfl (w.heap.size + 1) lx0 rfl rfl 35 _ hZ.out (lx_size _ _ _ _) rfl (lx_ones _ _ _ _) ?_)
          generalize ((w.alloc lxO).alloc lxO).setRow (w.heap.size + 1) lx0 = W1 at hR0 hN0 hB0 ⊢
          refine (cl.out _).mono ?_; rintro e w1 ⟨rfl, rfl⟩
          go_wp2_with fail
          refine (cd.out _).mono ?_; rintro e w1 ⟨rfl, rfl⟩
          have he := Lib.hid (fun W (k : Below W1.heap.size W1 W) => blk_row (blk_below hR0.out k) lx0)
          have hB := Lib.hid (fun W (k : Below W1.heap.size W1 W) => below_row (stepB hB0.out k) (Nat.le_refl _) lx0)
          go_wp2_with fail
          refine (c3.out _).mono ?_; rintro e w2 ⟨rfl, k2⟩
          have r3 := Lib.hid (blk_below hR0.out k2)
          have n3 := Lib.hid (blk_below hN0.out k2)
          go_wp2_with (first | (refine wpList_load_row rfl 35 (.tmp 7) rfl (w.heap.size + 1) rfl 35 _ (0, 0) _ n3.out Try.underlying35 rfl (lx_size _ _ _ _) ?_) | (refine wpList_store_row rfl 35 (.tmp 4) (.tmp 70) rfl w.heap.size (lx0) rfl rfl 35 _ r3.out (lx_size _ _ _ _) rfl (lx_ones _ _ _ _) ?_))
          exact on_ret w.heap.size 0 ⟨#[]⟩ 0 0 (P : Int) 5 rfl rfl rfl (he.out _ k2) (hB.out _ k2) rfl F.out
      · have hb34 : ((D : Int) == 34) = false := beq_false_of_ne (by omega)
        have h1 : letN c.toNat = false := by rw [HD.out]; exact hlet
        have h2 : digN c.toNat = false := by rw [HD.out]; exact hdig
        have h3 : ¬ c.toNat = 34 := by rw [HD.out]; exact h34
        have ho1 : oneR (rest s b) = if c.toNat = 45 ∧ gtB r = true then ⟨4, [45, 62], 0, 2, 0⟩ else if markN c.toNat = true then ⟨4, [c], 0, 1, 0⟩ else ⟨0, [], 0, 0, 5⟩ := by
          rw [hR, oneR_cons, if_neg (by rw [h1]; decide), if_neg (by rw [h2]; decide), if_neg h3]
        rw [HO.out] at ho1
        rw [hlet] at cl
        rw [hdig] at cd
        have cM := Lib.hid (fun t w => rmark_any t w)
        have cut1 : s.extract b (b + 1) = toS [c] := by rw [cut_is, hR]; rfl
        have cut2 : b + 2 ≤ s.size → s.extract b (b + 2) = toS ((c :: r).take 2) := fun _ => by rw [cut_is, hR]
        have hrl : r.length = s.size - (b + 1) := by rw [← hr, rest_len]
        have two : Hid (b + 2 ≤ s.size → mkL ((c :: r).take 2) = decide (c.toNat = 45 ∧ gtB r = true)) := fun h => by
          cases r with
          | nil => simp at hrl; omega
          | cons d q =>
            show mkL [c, d] = _
            rw [mk_two]
            show _ = decide (c.toNat = 45 ∧ (d.toNat == 62) = true)
            by_cases x : c.toNat = 45
            · simp [x, Bool.beq_eq_decide_eq]
            · simp [x]
        have one : Hid (mkL [c] = markN c.toNat) := by show _ = _; rw [mk_one, markN_is]
        have non : Hid (¬ b + 2 ≤ s.size → ¬ (c.toNat = 45 ∧ gtB r = true)) := fun h x => by
          cases r with
          | nil => exact absurd x.2 (by decide)
          | cons d q => simp at hrl; omega
        have F2 : Hid ((c.toNat = 45 ∧ gtB r = true) → ((4 : Int) = o.k ∧ toS ((c :: r).take 2) = toS o.t ∧ (0 : Int) = o.n ∧ (b : Int) = onA b o ∧ ((b : Int) + 2) = ((b + o.u : Nat) : Int) ∧ (0 : Int) = o.e)) := fun h => by
          rw [if_pos h] at ho1
          have e : (c :: r).take 2 = [45, 62] := by
            cases r with
            | nil => exact absurd h.2 (by decide)
            | cons d q =>
              rw [show c = 45 from UInt8.toNat_inj.1 h.1, show d = 62 from UInt8.toNat_inj.1 (beq_iff_eq.1 h.2)]; rfl
          rw [ho1, e]
          exact ⟨rfl, rfl, rfl, (if_pos rfl).symm, rfl, rfl⟩
        have F1 : Hid (¬ (c.toNat = 45 ∧ gtB r = true) → markN c.toNat = true → ((4 : Int) = o.k ∧ toS [c] = toS o.t ∧ (0 : Int) = o.n ∧ (b : Int) = onA b o ∧ ((b : Int) + 1) = ((b + o.u : Nat) : Int) ∧ (0 : Int) = o.e)) := fun h h' => by
          rw [if_neg h, if_pos h'] at ho1
          rw [ho1]
          exact ⟨rfl, rfl, rfl, (if_pos rfl).symm, rfl, rfl⟩
        have F0 : Hid (¬ (c.toNat = 45 ∧ gtB r = true) → ¬ markN c.toNat = true → ((0 : Int) = o.k ∧ (⟨#[]⟩ : ByteArray) = toS o.t ∧ (0 : Int) = o.n ∧ (0 : Int) = onA b o ∧ (b : Int) = ((b + o.u : Nat) : Int) ∧ (5 : Int) = o.e)) := fun h h' => by
          rw [if_neg h, if_neg h'] at ho1
          rw [ho1]
          exact ⟨rfl, rfl, rfl, (if_neg (by show ¬ (5 : Int) = 0; decide)).symm, rfl, rfl⟩
        obtain ⟨T2, hT2⟩ : ∃ T2 : Prop, (c.toNat = 45 ∧ gtB r = true) = T2 := ⟨_, rfl⟩
        obtain ⟨T1, hT1⟩ : ∃ T1, markN c.toNat = T1 := ⟨_, rfl⟩
        have c2 : Hid (b + 2 ≤ s.size → T2 → ∀ W, Calls Try.prog 20 #[.string (toS ((c :: r).take 2))] W fun e w' => e = .returned (.bool true) ∧ Below W.heap.size W w') := fun h h' W => by
          have := cM.out (toS ((c :: r).take 2)) W
          rw [data_toS, two.out h, decide_eq_true (by rw [hT2]; exact h')] at this
          exact this
        have c2n : Hid (b + 2 ≤ s.size → ¬ T2 → ∀ W, Calls Try.prog 20 #[.string (toS ((c :: r).take 2))] W fun e w' => e = .returned (.bool false) ∧ Below W.heap.size W w') := fun h h' W => by
          have := cM.out (toS ((c :: r).take 2)) W
          rw [data_toS, two.out h, decide_eq_false (by rw [hT2]; exact h')] at this
          exact this
        have c1 : Hid (∀ W, Calls Try.prog 20 #[.string (toS [c])] W fun e w' => e = .returned (.bool T1) ∧ Below W.heap.size W w') := fun W => by
          have := cM.out (toS [c]) W
          rw [data_toS, one.out, hT1] at this
          exact this
        rw [hT2] at F2 F1 F0 non
        rw [hT1] at F1 F0
        generalize toS ((c :: r).take 2) = X2 at cut2 c2 c2n F2
        generalize toS [c] = X1 at cut1 c1 F1
        have cut2 := Lib.hid cut2
        have HP2 := Lib.hid hT2
        clear ho1 hrl two one cM h1 h2 h3 hR hr hT2 hT1 hlet hdig HO HD h34
        go_enter Try.func24, Try.ntmps24
        go_wp2_with (refine wpList_store_row rfl 35 (.tmp 7) (.tmp 16) rfl (w.heap.size + 1) lx0 rfl rfl 35 _ hZ.out (lx_size _ _ _ _) rfl (lx_ones _ _ _ _) ?_)
        generalize ((w.alloc lxO).alloc lxO).setRow (w.heap.size + 1) lx0 = W1 at hR0 hN0 hB0 ⊢
        refine (cl.out _).mono ?_; rintro e w1 ⟨rfl, rfl⟩
        go_wp2_with fail
        refine (cd.out _).mono ?_; rintro e w1 ⟨rfl, rfl⟩
        go_wp2_with fail
        go_loopw [15] (fun x wr => ∃ n : Nat, x = .int .i64 (n : Int) ∧ n ≤ 2 ∧ Hid (Below W1.heap.size W1 wr) ∧ Hid (n ≤ 1 → ¬ T2) ∧ Hid (n = 0 → T1 = false)) (fun x _ => (intOf x).toNat)
        case atStart => exact ⟨2, rfl, Nat.le_refl _, Below.refl _ _, fun h => absurd h (by decide), fun h => absurd h (by decide)⟩
        case round =>
          obtain ⟨n, rfl, hn, hk, hn2, hn1⟩ := hrel
          have r3 := Lib.hid (blk_below hR0.out hk.out)
          have n3 := Lib.hid (blk_below hN0.out hk.out)
          have B3 := stepB hB0.out hk.out
          by_cases e2 : n = 2
          · subst e2
            clear hn hn2 hn1 c1 cut1
            by_cases h2 : b + 2 ≤ s.size
            · have h2' : (b : Int) + 2 ≤ (s.size : Int) := by omega
              have q1 : (0 : Int) ≤ (b : Int) + 2 := by omega
              have q2 : ((b : Int) + 2).toNat = b + 2 := by omega
              have q3 : (b : Int) ≤ (b : Int) + 2 := by omega
              have cx := cut2.out h2
              by_cases hT : T2
              · have c3 := Lib.hid (c2.out h2 hT)
                have F := Lib.hid (F2.out hT)
                clear c2 c2n F2 F1 F0 non h2 n3
                go_wp2_with fail
                refine (c3.out _).mono ?_; rintro e w2 ⟨rfl, k2⟩
                have r3 := Lib.hid (blk_below r3.out k2)
                have B4 := Lib.hid (below_row (stepB B3 k2) (Nat.le_refl _) (lxL 4 X2 0 (b : Int)))
                have he := Lib.hid (blk_row r3.out (lxL 4 X2 0 (b : Int)))
                go_wp2_with (refine wpList_store_row rfl 35 (.tmp 4) (.tmp 103) rfl w.heap.size (lxL 4 X2 0 (b : Int)) rfl rfl 35 _ r3.out (lx_size _ _ _ _) rfl (lx_ones _ _ _ _) ?_)
                exact on_ret w.heap.size 4 X2 0 (b : Int) ((b : Int) + 2) 0 rfl rfl rfl he.out B4.out rfl F.out
              · have c3 := Lib.hid (c2n.out h2 hT)
                clear c2 c2n F2 F1 F0 non h2 n3 r3
                go_wp2_with fail
                refine (c3.out _).mono ?_; rintro e w2 ⟨rfl, k2⟩
                have hk2 := stepB hk.out k2
                go_wp2_with fail
                exact ⟨⟨1, rfl, by decide, hk2, fun _ => hT, fun h => absurd h (by decide)⟩, by simp [intOf]⟩
            · have h2' : ¬ (b : Int) + 2 ≤ (s.size : Int) := by omega
              have hT := Lib.hid (show ¬ T2 by rw [← HP2.out]; exact fun x => non.out h2 (by rw [← HP2.out]; exact x))
              clear c2 c2n F2 F1 F0 non h2 n3 r3
              go_wp2_with fail
              exact ⟨⟨1, rfl, by decide, hk.out, fun _ => hT.out, fun h => absurd h (by decide)⟩, by simp [intOf]⟩
          · by_cases e1 : n = 1
            · subst e1
              have hT := Lib.hid (hn2.out (Nat.le_refl 1))
              have h2' : (b : Int) + 1 ≤ (s.size : Int) := by omega
              have q1 : (0 : Int) ≤ (b : Int) + 1 := by omega
              have q2 : ((b : Int) + 1).toNat = b + 1 := by omega
              have q3 : (b : Int) ≤ (b : Int) + 1 := by omega
              clear hn hn2 hn1 c2 c2n cut2 F2 non e2 n3
              cases T1 with
              | true =>
                have F := Lib.hid (F1.out hT.out rfl)
                clear F1 F0 hT
                go_wp2_with fail
                refine (c1.out _).mono ?_; rintro e w2 ⟨rfl, k2⟩
                have r3 := Lib.hid (blk_below r3.out k2)
                have B4 := Lib.hid (below_row (stepB B3 k2) (Nat.le_refl _) (lxL 4 X1 0 (b : Int)))
                have he := Lib.hid (blk_row r3.out (lxL 4 X1 0 (b : Int)))
                go_wp2_with (refine wpList_store_row rfl 35 (.tmp 4) (.tmp 103) rfl w.heap.size (lxL 4 X1 0 (b : Int)) rfl rfl 35 _ r3.out (lx_size _ _ _ _) rfl (lx_ones _ _ _ _) ?_)
                exact on_ret w.heap.size 4 X1 0 (b : Int) ((b : Int) + 1) 0 rfl rfl rfl he.out B4.out rfl F.out
              | false =>
                clear F1 F0 r3
                go_wp2_with fail
                refine (c1.out _).mono ?_; rintro e w2 ⟨rfl, k2⟩
                have hk2 := stepB hk.out k2
                go_wp2_with fail
                exact ⟨⟨0, rfl, by decide, hk2, fun _ => hT.out, fun _ => trivial⟩, by simp [intOf]⟩
            · obtain rfl : n = 0 := by omega
              have F := Lib.hid (F0.out (hn2.out (Nat.zero_le _)) (by rw [hn1.out rfl]; decide))
              have B4 := Lib.hid (below_row B3 (Nat.le_refl _) lx0)
              have he := Lib.hid (blk_row r3.out lx0)
              clear hn hn2 hn1 c1 c2 c2n cut1 cut2 F2 F1 F0 non e1 e2
              go_wp2_with (first | (refine wpList_load_row rfl 35 (.tmp 7) rfl (w.heap.size + 1) rfl 35 _ (0, 0) _ n3.out Try.underlying35 rfl (lx_size _ _ _ _) ?_) | (refine wpList_store_row rfl 35 (.tmp 4) (.tmp 107) rfl w.heap.size (lx0) rfl rfl 35 _ r3.out (lx_size _ _ _ _) rfl (lx_ones _ _ _ _) ?_))
              exact on_ret w.heap.size 0 ⟨#[]⟩ 0 0 (b : Int) 5 rfl rfl rfl he.out B4.out rfl F.out
end Go.Proofs.Ytdpnmlgadieamaa.Lx
