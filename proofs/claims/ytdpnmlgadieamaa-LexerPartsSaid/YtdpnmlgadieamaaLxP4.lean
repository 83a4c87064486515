/-
  Contracts of the program of layer 7: readString, read.
-/
import Derived.Test.YtdpnmlgadieamaaLxP3
namespace Go.Proofs.Ytdpnmlgadieamaa.Lx
open Go.RowKit

theorem str_end {s : ByteArray} {b p k : Nat} {o : One} {t : List UInt8} (hb : b < s.size) (h34 : s[b].toNat = 34) (ho : oneR (rest s b) = o) (hp : p = b + k) (hT : tx t k (rest s p) = txV s b) (hs : ∀ o k, tx o k (rest s p) = if chA s p = 34 then (o, k + 1, true) else ([], k, false)) :
    (chA s p = 34 → (3 : Int) = o.k ∧ toS t = toS o.t ∧ (0 : Int) = o.n ∧ (b : Int) = onA b o ∧ ((p + 1 : Nat) : Int) = ((b + o.u : Nat) : Int) ∧ (0 : Int) = o.e) ∧
    (¬ chA s p = 34 → (0 : Int) = o.k ∧ (⟨#[]⟩ : ByteArray) = toS o.t ∧ (0 : Int) = o.n ∧ (0 : Int) = onA b o ∧ (p : Int) = ((b + o.u : Nat) : Int) ∧ (5 : Int) = o.e) := by
  have h1 : letN s[b].toNat = false := by rw [h34]; rfl
  have h2 : digN s[b].toNat = false := by rw [h34]; rfl
  have ho1 : oneR (rest s b) = if (txV s b).2.2 = true then ⟨3, (txV s b).1, 0, (txV s b).2.1, 0⟩ else ⟨0, [], 0, (txV s b).2.1, 5⟩ := by
    rw [rest_at hb, oneR_cons, if_neg (by rw [h1]; decide), if_neg (by rw [h2]; decide), if_pos h34]; rfl
  rw [ho, ← hT, hs] at ho1
  refine ⟨fun h => ?_, fun h => ?_⟩
  · rw [if_pos h, if_pos rfl] at ho1
    rw [ho1]
    exact ⟨rfl, rfl, rfl, (if_pos rfl).symm, by show ((p + 1 : Nat) : Int) = ((b + (k + 1) : Nat) : Int); rw [hp]; rfl, rfl⟩
  · rw [if_neg h, if_neg (fun e => Bool.noConfusion e)] at ho1
    rw [ho1]
    exact ⟨rfl, rfl, rfl, (if_neg (fun e => absurd (show (5 : Int) = 0 from e) (by decide))).symm, by show (p : Int) = ((b + k : Nat) : Int); rw [hp], rfl⟩
set_option maxHeartbeats 4000000 in
set_option maxRecDepth 100000 in
theorem preadString_any (s : ByteArray) (b : Nat) (w : World) (hs : s.size ≤ 100000) (hb : b < s.size) (h34 : chA s b = 34) : Calls Try.prog 37 #[.string s, .int .i64 (b : Int)] w (OnEnd b (oneR (rest s b)) w) := by
  have hs' : (s.size : Int) ≤ 100000 := by omega
  have h34 : s[b].toNat = 34 := by rw [chA_in hb] at h34; omega
  have cc := Lib.hid (fun a w => charAt_any s a w)
  have cs := Lib.hid (fun a ha w => pstr_any s a w ha)
  obtain ⟨i0, hi0, hz0, hz1, hz2⟩ := info_parts info_u8
  obtain ⟨o, ho⟩ : ∃ o, oneR (rest s b) = o := ⟨_, rfl⟩
  rw [ho]
  have fin := Lib.hid (fun t p k hp hT hs => str_end (t := t) (p := p) (k := k) hb h34 ho hp hT hs)
  have hz := Lib.hid (Blk.new w 35 lx0)
  have hB0 := Lib.hid ((Below.refl w.heap.size w).alloc (Nat.le_refl _) lxO)
  have c0 := Lib.hid (cs.out (b + 1) (by omega))
  have HT0 := Lib.hid (show tx [] 1 (rest s (b + 1)) = txV s b from rfl)
  obtain ⟨T, hT0⟩ : ∃ T, txV s b = T := ⟨_, rfl⟩
  rw [hT0] at HT0 fin
  clear ho h34 hT0
  go_enter Try.func37, Try.ntmps37
  go_wp2_with fail
  generalize w.alloc lxO = W1 at hz hB0 ⊢
  have hlt0 := Lib.hid (blk_lt hz.out)
  refine (c0.out _).mono ?_; rintro e w1 ⟨rfl, rfl⟩
  go_wp2_with fail
  go_loopw [5, 7, 8, 9] (fun x v y z wr => ∃ (o : List UInt8) (p k : Nat), x = .int .i64 (p : Int) ∧ y = .int .i32 (stR s p).1 ∧ z = .int .i64 (stR s p).2 ∧ p ≤ s.size ∧ o.length ≤ p ∧ Hid (p = b + k) ∧ Below W1.heap.size W1 wr ∧ Hid (OwnB wr W1.heap.size v o) ∧ Hid (tx o k (rest s p) = T)) (fun x _ _ _ _ => s.size - (intOf x).toNat)
  case atStart => exact ⟨[], b + 1, 1, rfl, rfl, rfl, hb, Nat.zero_le _, rfl, Below.refl _ _, OwnB.nil _ _, HT0.out⟩
  case round =>
    obtain ⟨o1, p, k, rfl, rfl, rfl, hp, hop, hpk, hB, hown, hT⟩ := hrel
    rcases st_step s p with ⟨d, n, hst, n1, n2, n3, hx⟩ | ⟨hst, hx⟩
    · rw [hst]
      have hT2 := Lib.hid ((hx o1 k).symm.trans hT.out)
      have c1 := Lib.hid (cs.out (p + n) (by omega))
      obtain ⟨D, hD⟩ : ∃ D, d.toNat = D := ⟨_, rfl⟩
      have hDl : D ≤ 255 := by have := d.toNat_lt; omega
      rw [hD]
      have HD := Lib.hid hD
      have g0 : (0 : Int) < (n : Int) := by omega
      have room := room1 (n := o1.length) (by omega)
      clear hst hx hT hD fin
      go_wp2_with (at_builtin; refine wpList_append_own _ rfl _ _ 30 rfl W1.heap.size 5 i0 (.int .u8 0) 1 1 Try.underlying30 hi0 hz0 hz1 hz2 rfl (by decide) _ _ _ rfl (OwnB.alloc hown.out _) ⟨wr.heap.size, 0, none⟩ 1 1 [.int .u8 (D : Int)] rfl rfl (news1 _ _) (ones1 _) room.1 room.2 (hB.alloc hB.size _).size ?_)
      intro v' w6 hown' hgrow _
      have k6 : Below W1.heap.size W1 w6 := (hB.alloc hB.size _).grown hgrow (by have := hB.size; simp; omega) (fun j hj => OwnB.lt hown.out j hj)
      have hf : Hid (OwnB w6 W1.heap.size v' (o1 ++ [d])) := step_own (by rw [HD.out]; exact hown') rfl
      clear hown' hgrow room
      go_wp2_with fail
      refine (c1.out _).mono ?_; rintro e w1 ⟨rfl, rfl⟩
      go_wp2_with fail
      exact ⟨⟨o1 ++ [d], p + n, k + n, rfl, rfl, rfl, n3, by rw [List.length_append]; show _ + 1 ≤ _; omega, by show p + n = b + (k + n); rw [hpk.out]; omega, k6, hf.out, hT2.out⟩, by simp [intOf]; omega⟩
    · rw [hst]
      have E := Lib.hid (fin.out o1 p k hpk.out hT.out hx)
      have c1 := Lib.hid (cc.out p)
      have hz2 := Lib.hid (blk_below hz.out hB)
      have hBB := Lib.hid (stepB hB0.out hB)
      have hcv := OwnB.conv hown.out
      clear hst hx hT fin
      obtain ⟨D, hD⟩ : ∃ D, chA s p = D := ⟨_, rfl⟩
      rw [hD] at c1 E
      clear hD
      by_cases h34 : D = 34
      · have F := Lib.hid (E.out.1 h34)
        generalize toS o1 = X at hcv F
        have he := Lib.hid (blk_row hz2.out (lxL 3 X 0 (b : Int)))
        have hB3 := Lib.hid (below_row hBB.out (Nat.le_refl _) (lxL 3 X 0 (b : Int)))
        subst h34
        clear E
        go_wp2_with fail
        refine (c1.out _).mono ?_; rintro e w1 ⟨rfl, rfl⟩
        go_wp2_with (refine wpList_store_row rfl 35 (.tmp 4) (.tmp 43) rfl w.heap.size (lxL 3 X 0 (b : Int)) rfl rfl 35 _ hz2.out (lx_size _ _ _ _) rfl (lx_ones _ _ _ _) ?_)
        exact on_retF rfl w.heap.size 3 X 0 (b : Int) ((p : Int) + 1) 0 rfl rfl rfl he.out hB3.out rfl F.out
      · have F := Lib.hid (E.out.2 h34)
        have b34 : (D != 34) = true := bne_iff_ne.2 h34
        have he := Lib.hid (blk_row hz2.out (lxL 0 ⟨#[]⟩ 0 0))
        have hB3 := Lib.hid (below_row hBB.out (Nat.le_refl _) (lxL 0 ⟨#[]⟩ 0 0))
        clear E hcv h34
        go_wp2_with fail
        refine (c1.out _).mono ?_; rintro e w1 ⟨rfl, rfl⟩
        go_wp2_with (refine wpList_store_row rfl 35 (.tmp 4) (.tmp 38) rfl w.heap.size (lxL 0 ⟨#[]⟩ 0 0) rfl rfl 35 _ hz2.out (lx_size _ _ _ _) rfl (lx_ones _ _ _ _) ?_)
        exact on_retF rfl w.heap.size 0 ⟨#[]⟩ 0 0 (p : Int) 5 rfl rfl rfl he.out hB3.out rfl F.out
theorem mark_end {s : ByteArray} {b : Nat} {o : One} (hb : b < s.size) (h1 : letN s[b].toNat = false) (h2 : digN s[b].toNat = false) (h3 : s[b].toNat ≠ 34) (ho : oneR (rest s b) = o) :
    (mkA s b = [] → (0 : Int) = o.k ∧ (⟨#[]⟩ : ByteArray) = toS o.t ∧ (0 : Int) = o.n ∧ (0 : Int) = onA b o ∧ (b : Int) = ((b + o.u : Nat) : Int) ∧ (5 : Int) = o.e) ∧
    (mkA s b ≠ [] → (4 : Int) = o.k ∧ toS (mkA s b) = toS o.t ∧ (0 : Int) = o.n ∧ (b : Int) = onA b o ∧ ((b + (mkA s b).length : Nat) : Int) = ((b + o.u : Nat) : Int) ∧ (0 : Int) = o.e) := by
  have hg := arB_gt hb
  rw [rest_at hb, oneR_cons, if_neg (by rw [h1]; decide), if_neg (by rw [h2]; decide), if_neg h3] at ho
  unfold mkA
  by_cases har : arB s b = true
  · rw [har] at hg
    have hg2 := hg.symm
    simp at hg2
    rw [if_pos hg2] at ho
    rw [if_pos har, ← ho]
    exact ⟨fun h => absurd h (by decide), fun _ => ⟨rfl, rfl, rfl, (if_pos rfl).symm, rfl, rfl⟩⟩
  · have har' : arB s b = false := by simpa using har
    rw [har'] at hg
    rw [if_neg (by intro h; rw [h.1, h.2] at hg; exact absurd hg (by decide))] at ho
    rw [if_neg har, dif_pos hb]
    by_cases hm : markN s[b].toNat = true
    · rw [if_pos hm] at ho ⊢
      rw [← ho]
      exact ⟨fun h => by simp at h, fun _ => ⟨rfl, rfl, rfl, (if_pos rfl).symm, rfl, rfl⟩⟩
    · rw [if_neg hm] at ho ⊢
      rw [← ho]
      exact ⟨fun _ => ⟨rfl, rfl, rfl, (if_neg (by decide)).symm, rfl, rfl⟩, fun h => absurd rfl h⟩
set_option maxHeartbeats 4000000 in
set_option maxRecDepth 100000 in
theorem pread_any (s : ByteArray) (b : Nat) (w : World) (hs : s.size ≤ 100000) (hb : b < s.size) : Calls Try.prog 22 #[.string s, .int .i64 (b : Int)] w (OnEnd b (oneR (rest s b)) w) := by
  have hs' : (s.size : Int) ≤ 100000 := by omega
  have cc := Lib.hid (fun w => charAt_any s b w)
  have hv := chA_in hb
  obtain ⟨D, hD⟩ : ∃ D, s[b].toNat = D := ⟨_, rfl⟩
  rw [hD] at hv
  rw [hv] at cc
  have cl := Lib.hid (fun w => pletter_any (D : Int) w)
  have cd := Lib.hid (fun w => pdigit_any (D : Int) w)
  rw [ltI_nat] at cl
  rw [digI_nat] at cd
  have rn := Lib.hid (fun h w => preadName_any s b w hs hb h)
  have rd := Lib.hid (fun h w => preadNumber_any s b w hs hb h)
  have rs := Lib.hid (fun h w => preadString_any s b w hs hb h)
  have cm := Lib.hid (fun w => pmarkAt_any s b w (by omega))
  obtain ⟨o, ho⟩ : ∃ o, oneR (rest s b) = o := ⟨_, rfl⟩
  have me := Lib.hid (fun h1 h2 h3 => mark_end hb h1 h2 h3 ho)
  rw [ho] at rn rd rs ⊢
  rw [hD] at me
  have hz := Lib.hid (Blk.new w 35 lx0)
  have hB0 := Lib.hid ((Below.refl w.heap.size w).alloc (Nat.le_refl _) lxO)
  have g1 := Lib.hid (fun h => show ltN_ s b = true by unfold ltN_; rw [dif_pos hb, hD]; exact h)
  have g2 := Lib.hid (fun h => show dgN_ s b = true by unfold dgN_; rw [dif_pos hb, hD]; exact h)
  clear ho
  by_cases hl : letN D = true
  · have c3 := Lib.hid (rn.out (g1.out hl))
    rw [hl] at cl
    unfold OnEnd at c3
    clear rn rd rs cm me g1 g2 cd hl hv hD
    go_enter Try.func22, Try.ntmps22
    go_wp2_with fail
    generalize w.alloc lxO = W1 at hz hB0 ⊢
    refine (cc.out _).mono ?_; rintro e w1 ⟨rfl, rfl⟩
    go_wp2_with fail
    refine (cl.out _).mono ?_; rintro e w1 ⟨rfl, rfl⟩
    go_wp2_with fail
    refine (c3.out _).mono ?_; rintro e w2 ⟨rfl, k2⟩
    have hz2 := Lib.hid (blk_below hz.out k2)
    have he := Lib.hid (blk_row hz2.out (lxL o.k (toS o.t) o.n (onA b o)))
    have hB3 := Lib.hid (below_row (stepB hB0.out k2) (Nat.le_refl _) (lxL o.k (toS o.t) o.n (onA b o)))
    go_wp2_with (refine wpList_store_row rfl 35 (.tmp 4) (.tmp 18) rfl w.heap.size (lxL o.k (toS o.t) o.n (onA b o)) rfl rfl 35 _ hz2.out (lx_size _ _ _ _) rfl (lx_ones _ _ _ _) ?_)
    exact on_retF rfl w.heap.size o.k (toS o.t) o.n (onA b o) _ o.e rfl rfl rfl he.out hB3.out rfl ⟨rfl, rfl, rfl, rfl, rfl, rfl⟩
  · have hl : letN D = false := by simpa using hl
    rw [hl] at cl
    by_cases hd : digN D = true
    · have c3 := Lib.hid (rd.out (g2.out hd))
      rw [hd] at cd
      unfold OnEnd at c3
      clear rn rd rs cm me g1 g2 hl hd hv hD
      go_enter Try.func22, Try.ntmps22
      go_wp2_with fail
      generalize w.alloc lxO = W1 at hz hB0 ⊢
      refine (cc.out _).mono ?_; rintro e w1 ⟨rfl, rfl⟩
      go_wp2_with fail
      refine (cl.out _).mono ?_; rintro e w1 ⟨rfl, rfl⟩
      go_wp2_with fail
      refine (cd.out _).mono ?_; rintro e w1 ⟨rfl, rfl⟩
      go_wp2_with fail
      refine (c3.out _).mono ?_; rintro e w2 ⟨rfl, k2⟩
      have hz2 := Lib.hid (blk_below hz.out k2)
      have he := Lib.hid (blk_row hz2.out (lxL o.k (toS o.t) o.n (onA b o)))
      have hB3 := Lib.hid (below_row (stepB hB0.out k2) (Nat.le_refl _) (lxL o.k (toS o.t) o.n (onA b o)))
      go_wp2_with (refine wpList_store_row rfl 35 (.tmp 4) (.tmp 27) rfl w.heap.size (lxL o.k (toS o.t) o.n (onA b o)) rfl rfl 35 _ hz2.out (lx_size _ _ _ _) rfl (lx_ones _ _ _ _) ?_)
      exact on_retF rfl w.heap.size o.k (toS o.t) o.n (onA b o) _ o.e rfl rfl rfl he.out hB3.out rfl ⟨rfl, rfl, rfl, rfl, rfl, rfl⟩
    · have hd : digN D = false := by simpa using hd
      rw [hd] at cd
      by_cases h34 : D = 34
      · have c3 := Lib.hid (rs.out (by rw [hv, h34]; rfl))
        subst h34
        unfold OnEnd at c3
        clear rn rd rs cm me g1 g2 hl hd hv hD
        go_enter Try.func22, Try.ntmps22
        go_wp2_with fail
        generalize w.alloc lxO = W1 at hz hB0 ⊢
        refine (cc.out _).mono ?_; rintro e w1 ⟨rfl, rfl⟩
        go_wp2_with fail
        refine (cl.out _).mono ?_; rintro e w1 ⟨rfl, rfl⟩
        go_wp2_with fail
        refine (cd.out _).mono ?_; rintro e w1 ⟨rfl, rfl⟩
        go_wp2_with fail
        refine (c3.out _).mono ?_; rintro e w2 ⟨rfl, k2⟩
        have hz2 := Lib.hid (blk_below hz.out k2)
        have he := Lib.hid (blk_row hz2.out (lxL o.k (toS o.t) o.n (onA b o)))
        have hB3 := Lib.hid (below_row (stepB hB0.out k2) (Nat.le_refl _) (lxL o.k (toS o.t) o.n (onA b o)))
        go_wp2_with (refine wpList_store_row rfl 35 (.tmp 4) (.tmp 36) rfl w.heap.size (lxL o.k (toS o.t) o.n (onA b o)) rfl rfl 35 _ hz2.out (lx_size _ _ _ _) rfl (lx_ones _ _ _ _) ?_)
        exact on_retF rfl w.heap.size o.k (toS o.t) o.n (onA b o) _ o.e rfl rfl rfl he.out hB3.out rfl ⟨rfl, rfl, rfl, rfl, rfl, rfl⟩
      · have b34 : ((D : Int) == 34) = false := beq_false_of_ne (by omega)
        have E := Lib.hid (me.out hl hd h34)
        by_cases hm : mkA s b = []
        · have F := Lib.hid (E.out.1 hm)
          rw [hm] at cm
          have he := Lib.hid (blk_row hz.out (lxL 0 ⟨#[]⟩ 0 0))
          have hB3 := Lib.hid (below_row hB0.out (Nat.le_refl _) (lxL 0 ⟨#[]⟩ 0 0))
          have hX : (toS []).toList.isEmpty = true := by rw [toS_list]; rfl
          generalize toS [] = X at cm hX
          clear rn rd rs me g1 g2 hl hd hv hD E hm h34
          go_enter Try.func22, Try.ntmps22
          go_wp2_with fail
          generalize w.alloc lxO = W1 at hz hB0 he hB3 ⊢
          refine (cc.out _).mono ?_; rintro e w1 ⟨rfl, rfl⟩
          go_wp2_with fail
          refine (cl.out _).mono ?_; rintro e w1 ⟨rfl, rfl⟩
          go_wp2_with fail
          refine (cd.out _).mono ?_; rintro e w1 ⟨rfl, rfl⟩
          go_wp2_with fail
          refine (cm.out _).mono ?_; rintro e w1 ⟨rfl, rfl⟩
          go_wp2_with (refine wpList_store_row rfl 35 (.tmp 4) (.tmp 44) rfl w.heap.size (lxL 0 ⟨#[]⟩ 0 0) rfl rfl 35 _ hz.out (lx_size _ _ _ _) rfl (lx_ones _ _ _ _) ?_)
          exact on_retF rfl w.heap.size 0 ⟨#[]⟩ 0 0 (b : Int) 5 rfl rfl rfl he.out hB3.out rfl F.out
        · have F := Lib.hid (E.out.2 hm)
          have hsz := toS_size (mkA s b)
          have hX : (toS (mkA s b)).toList.isEmpty = false := by
            rw [toS_list]
            cases hh : mkA s b with
            | nil => exact absurd hh hm
            | cons _ _ => rfl
          have hl2 : (mkA s b).length ≤ 2 := by
            unfold mkA
            split
            · exact Nat.le_refl _
            · split
              · exact Nat.le_succ 1
              · exact Nat.zero_le _
          generalize (mkA s b).length = L at hsz F hl2
          generalize toS (mkA s b) = X at cm hX hsz F
          have he := Lib.hid (blk_row hz.out (lxL 4 X 0 (b : Int)))
          have hB3 := Lib.hid (below_row hB0.out (Nat.le_refl _) (lxL 4 X 0 (b : Int)))
          have hsz' : (X.size : Int) = (L : Int) := by omega
          have hXL := Lib.hid hsz
          clear rn rd rs me g1 g2 hl hd hv hD E hm h34 hsz
          go_enter Try.func22, Try.ntmps22
          go_wp2_with fail
          generalize w.alloc lxO = W1 at hz hB0 he hB3 ⊢
          refine (cc.out _).mono ?_; rintro e w1 ⟨rfl, rfl⟩
          go_wp2_with fail
          refine (cl.out _).mono ?_; rintro e w1 ⟨rfl, rfl⟩
          go_wp2_with fail
          refine (cd.out _).mono ?_; rintro e w1 ⟨rfl, rfl⟩
          go_wp2_with fail
          refine (cm.out _).mono ?_; rintro e w1 ⟨rfl, rfl⟩
          go_wp2_with (refine wpList_store_row rfl 35 (.tmp 4) (.tmp 48) rfl w.heap.size (lxL 4 X 0 (b : Int)) rfl rfl 35 _ hz.out (lx_size _ _ _ _) rfl (lx_ones _ _ _ _) ?_)
          exact on_retF rfl w.heap.size 4 X 0 (b : Int) ((b : Int) + (L : Int)) 0 rfl rfl rfl he.out hB3.out rfl F.out
end Go.Proofs.Ytdpnmlgadieamaa.Lx
