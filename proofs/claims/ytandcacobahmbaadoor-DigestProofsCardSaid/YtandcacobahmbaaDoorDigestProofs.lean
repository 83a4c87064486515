/-
  For every list of strings and every hash the law DigestProofs (P6.7) returns true and leaves its arguments alone: every element of a list is verified by its Proof, and not with another root, nor with a path that is longer or shorter (the law itself asks this of at most 100 strings with at most 3000 bytes in all). No condition.
-/
import Derived.Test.YtandcacobahmbaaDoorRows
import Derived.WalkKit
import Derived.ProofKit
import Derived.OpenShut
import Derived.ShutString
import Derived.ChangeOld
import Derived.Below
import Derived.Carry
import Derived.SizedLaws
import Derived.Test.YtandcacobahmbaaDoorDgCard
import Derived.Test.YtandcacobahmbaaDoorCards
import Derived.Test.YtandcacobahmbaaDoorTie
import Derived.SevenTiedAt
import Derived.Test.YtandcacobahmbaaDoorDgBytes
import Derived.Deep.RegionHeld3
import Derived.Lib.QuietBelow
namespace Go.Proofs.YtandcacobahmbaaDoor.digestProofs
open Go.ChangeShapes Go.WideShapes Go.ChangeAt Go.RowKit Go.Proofs.YtandcacobahmbaaDoor.Dg
open Go.ChangeMaps (open_string shut_string)
set_option linter.unusedVariables false

theorem own : ownKnob Tryd.prog.godebug = none := by kernel_rfl
theorem laidOut : laidOutB Tryd.prog = true := by kernel_rfl

open Go.RowKit
theorem ver_ok {l : List (List UInt8)} {k : Nat} (h : k < l.length) : verV (rootN l) (l.getD k []) (k : Int) (l.length : Int) (pathN l k) = true := by
  unfold verV
  rw [if_neg (by omega), show ((k : Int)).toNat = k from rfl, show ((l.length : Int)).toNat = l.length from rfl, given_path l.length l k rfl h]
  simp
theorem ver_other {l : List (List UInt8)} {k r : Nat} (h : k < l.length) (hr : r ≠ rootN l) : verV r (l.getD k []) (k : Int) (l.length : Int) (pathN l k) = false := by
  unfold verV
  rw [if_neg (by omega), show ((k : Int)).toNat = k from rfl, show ((l.length : Int)).toNat = l.length from rfl, given_path l.length l k rfl h]
  simp only [Bool.true_and]
  exact beq_false_of_ne (fun e => hr e.symm)
theorem ver_len {r k n : Nat} {s : List UInt8} {p : List Nat} (h : k < n) (hp : p.length ≠ deep k n) : verV r s (k : Int) (n : Int) p = false := by
  unfold verV
  rw [if_neg (by omega), show ((k : Int)).toNat = k from rfl, show ((n : Int)).toNat = n from rfl]
  have : (givenN s k n p).2 = false := by
    cases hg : (givenN s k n p).2 with
    | false => rfl
    | true => exact absurd (given_len s n k p (by omega) hg) hp
  rw [this]; rfl
theorem H64_drop {l : List Nat} (h : H64 l) (k : Nat) : H64 (l.drop k) := fun x hx => h x (List.mem_of_mem_drop hx)
theorem H64_take {l : List Nat} (h : H64 l) (k : Nat) : H64 (l.take k) := fun x hx => h x (List.mem_of_mem_take hx)
theorem H64_snoc {l : List Nat} {x : Nat} (h : H64 l) (hx : x < 18446744073709551616) : H64 (l ++ [x]) := fun y hy => by
  rcases List.mem_append.1 hy with e | e
  · exact h y e
  · rw [List.mem_singleton.1 e]; exact hx
/-- A path of the call's own, at its block. -/
theorem own_at {w : World} {B g c n : Nat} {l : List Nat} (h : w.ownsRow B 26 1 (.slice (some ⟨g, 0, none⟩) n c) n (natC l)) (hn : l.length = n) : NatAt w g 0 c l := by
  subst hn
  have h' := h
  rcases h.2 with ⟨h0, _⟩ | ⟨g', cap, cur, e, hb, hg, hcap, hrest⟩
  · cases h0
  · cases e
    refine ⟨(Array.getElem?_eq_some_iff.1 hg).1, hcap, fun j hj => ?_⟩
    rw [Nat.zero_add, h'.cellAt j (by omega)]
    unfold natC
    rw [List.getElem?_map, List.getElem?_eq_getElem hj]
    simp [List.getD, hj]
theorem natC_one (l : List Nat) : ∀ u ∈ natC l, u.oneCell' = true := fun u hu => by
  unfold natC at hu
  obtain ⟨n, _, rfl⟩ := List.mem_map.1 hu
  rfl
theorem pf_in {l : List (List UInt8)} {k : Nat} (h : k < l.length) : pfP l (k : Int) = pathN l k ∧ pfE l (k : Int) = 0 := by
  unfold pfP pfE
  rw [if_neg (by omega), if_neg (by omega)]
  exact ⟨rfl, rfl⟩
theorem nats_drop {w : World} {g c q : Nat} {l : List Nat} (h : NatAt w g 0 c l) (h64 : H64 l) (hq : l.length = q + 1) : Nats w (.slice (some ⟨g, 1, none⟩) q (c - 1)) (l.drop 1) := by
  have hl : (l.drop 1).length = q := by rw [List.length_drop]; omega
  have hn := h.drop (k := 1) (by omega)
  exact ⟨H64_drop h64 1, _, _, by rw [hl], hn.cap, fun _ => ⟨g, 1, rfl, hn⟩⟩
theorem nats_drop1 {w : World} {g : Nat} {l : List Nat} (hq : l.length = 1) : Nats w (.slice (some ⟨g, 0, none⟩) 0 0) (l.drop 1) := by
  have hl : l.drop 1 = [] := List.eq_nil_of_length_eq_zero (by rw [List.length_drop]; omega)
  rw [hl]
  exact ⟨fun x hx => by simp at hx, _, _, rfl, Nat.le_refl _, fun h => by simp at h⟩
theorem nats_take {w : World} {g c q : Nat} {l : List Nat} (h : NatAt w g 0 c l) (h64 : H64 l) (hq : l.length = q + 1) : Nats w (.slice (some ⟨g, 0, none⟩) q c) (l.take q) := by
  have hl : (l.take q).length = q := by rw [List.length_take]; omega
  have hn := h.take (k := q) (by omega)
  exact ⟨H64_take h64 q, _, _, by rw [hl], hn.cap, fun _ => ⟨g, 0, rfl, hn⟩⟩

/-! ### The walk: the law returns true, and writes nothing that was there. -/
set_option maxRecDepth 100000 in
set_option maxHeartbeats 16000000 in
theorem walk (l0 : List ByteArray) (v0 : Value) (g0 : Fits l0) (a1 : Nat) (w1 : a1 < 18446744073709551616) (w : World) (hT : Halves w) (h0 : Strs w v0 l0) :
    Calls Tryd.prog 8 #[v0, .int .u64 (a1 : Int)] w fun e w' => e = .returned (.bool true) ∧ Below w.heap.size w w' := by
  have HT := Lib.hid hT
  clear hT
  have AWK := Lib.hid (fun W (hB : Below w.heap.size w W) => awake_any W (HT.out.below hB))
  have hA64 := Lib.hid w1
  clear w1
  have cL := Lib.hid (light_any l0 v0 w h0 g0)
  have HV := Lib.hid h0
  obtain ⟨p0, c0, rfl, -, -⟩ := h0
  cases hl : lightB l0 with
  | false =>
    rw [hl] at cL
    clear hl g0
    go_enter Tryd.func8, Tryd.ntmps8
    go_wp2_with fail
    refine cL.out.mono ?_; rintro e w1 ⟨rfl, k1⟩
    go_wp2_with fail
    refine (AWK.out _ (k1)).mono ?_; rintro e w9 ⟨rfl, k9⟩
    go_wp2_with fail
    go_ret
    exact ⟨rfl, stepB k1 k9⟩
  | true =>
    rw [hl] at cL
    have hll := light_short hl
    have hsh := hll.2.2
    have hlen : l0.length ≤ 100 := hll.1
    clear hl hll g0
    have cR := Lib.hid (fun W (hB : Below w.heap.size w W) => qRoot_any l0 _ W (by omega) hsh (HV.out.below hB))
    obtain ⟨n, hn⟩ : ∃ n, l0.length = n := ⟨_, rfl⟩
    have hnb : (bytesL l0).length = n := by rw [bytesL_length]; exact hn
    obtain ⟨R, hRe⟩ : ∃ R, rootN (bytesL l0) = R := ⟨_, rfl⟩
    rw [hRe] at cR
    have HN := Lib.hid hn
    have HNB := Lib.hid hnb
    have HR := Lib.hid hRe
    have HS := Lib.hid hsh
    rw [hn] at hlen cL cR ⊢
    obtain ⟨i0, hi0, hz0, hz1, hz2⟩ := info_parts info_u64
    clear hn hnb hRe hsh
    go_enter Tryd.func8, Tryd.ntmps8
    go_wp2_with fail
    refine cL.out.mono ?_; rintro e w1 ⟨rfl, k1⟩
    go_wp2_with fail
    refine (cR.out _ k1).mono ?_; rintro e w2 ⟨rfl, k2⟩
    have m2 := stepB k1 k2
    clear k1 k2
    go_wp2_with fail
    go_loopw [6] (fun i wr => ∃ k : Nat, i = .int .i64 (k : Int) ∧ k ≤ n ∧ Below w.heap.size w wr) (fun i _ => n - (intOf i).toNat)
    case atStart => exact ⟨0, rfl, Nat.zero_le _, m2⟩
    case round =>
      obtain ⟨k, rfl, hk, hB⟩ := hrel
      by_cases hlt : k < n
      · have hlt' : (k : Int) < (n : Int) := by omega
        obtain ⟨bb, off, cc, e1, ha⟩ := HV.out.open (show 0 < l0.length by rw [HN.out]; omega)
        rw [HN.out] at e1
        simp only [Value.slice.injEq] at e1
        obtain ⟨rfl, -, rfl⟩ := e1
        have hkb : k < (bytesL l0).length := by rw [HNB.out]; exact hlt
        have cP := Lib.hid (fun W (hB : Below w.heap.size w W) => qProof_any l0 _ (k : Int) W (by rw [HN.out]; omega) HS.out (ha.below hB).strs)
        rw [HN.out, (pf_in hkb).1, (pf_in hkb).2] at cP
        have hcell := ha.at_ k (by rw [HN.out]; exact hlt)
        have lbb := ha.lt
        have vok := ver_ok hkb
        have vot := fun r (h : r ≠ rootN (bytesL l0)) => ver_other hkb h
        have hP64 : H64 (pathN (bytesL l0) k) := path_lt _ _ _ rfl
        have hPl : (pathN (bytesL l0) k).length = deep k n := by rw [path_deep n _ _ HNB.out]
        have hdl : deep k n ≤ n := deep_le n k
        rw [bytesL_getD, HNB.out, HR.out] at vok
        rw [bytesL_getD, HNB.out, HR.out] at vot
        have sk : (l0.getD k ⟨#[]⟩).size ≤ 100000 := by
          have : l0.getD k ⟨#[]⟩ ∈ l0 := by
            have e : l0.getD k ⟨#[]⟩ = l0[k]'(by rw [HN.out]; exact hlt) := by simp [List.getD, show k < l0.length by rw [HN.out]; exact hlt]
            rw [e]; exact List.getElem_mem _
          exact HS.out _ this
        generalize pathN (bytesL l0) k = P at cP vok vot hP64 hPl
        generalize l0.getD k ⟨#[]⟩ = s at hcell vok vot sk
        have cV := Lib.hid (fun (r : Nat) (p : List Nat) (v : Value) (W : World) (hp : p.length ≤ 1000000) (h : Nats W v p) => qVerify_any r p v s (k : Int) (n : Int) W hp (by omega) sk h)
        have vlen := Lib.hid (fun (r : Nat) (p : List Nat) (hp : p.length ≠ deep k n) => ver_len (r := r) (s := s.data.toList) hlt hp)
        obtain ⟨M, hM⟩ : ∃ M, P.length = M := ⟨_, rfl⟩
        have hM100 : M ≤ 100 := by omega
        have lenP := Lib.hid (show (natC P).length = M * 1 by rw [natC_length, hM, Nat.mul_one])
        have HPl := Lib.hid hPl
        have HP64 := Lib.hid hP64
        have HM := Lib.hid hM
        have hPl0 : True := trivial
        unfold PfEnd at cP
        rw [hM] at cP
        clear hkb ha sk hPl hM hP64 hdl
        have hcr := (hB.cell lbb).trans hcell
        go_wp2_with fail
        refine (cP.out _ hB).mono ?_; rintro e w7 ⟨v7, rfl, own7, k7⟩
        have m7 := stepB hB k7
        have n7 := Lib.hid (own_nats (l := P) (by rw [HM.out]; exact own7) HP64.out)
        have hc7 := (m7.cell lbb).trans hcell
        have c1 := Lib.hid (cV.out R P v7 w7 (by rw [HM.out]; omega) n7.out)
        rw [vok] at c1
        go_wp2_with fail
        refine c1.out.mono ?_; rintro e w8 ⟨rfl, k8⟩
        have m8 := stepB m7 k8
        have hc8 := (m8.cell lbb).trans hcell
        have n8 := Lib.hid (n7.out.below k8)
        have ownv := own_below own7 k8
        clear own7 n7 c1 vok cP hcr hc7
        by_cases hor : a1 = R
        · have hor1 : ((a1 : Int) != (R : Int)) = false := by rw [hor]; simp
          clear n8 vot hor
          have ownE := World.ownsRow_lit (base := w8.heap.size) (e := 26) (size := 1) w8 #[] 0 (Nat.le_refl _) (by decide) rfl
          rcases Joins.ownsRow_forms ownv with ⟨rfl, hP0⟩ | ⟨gp, cp, rfl⟩
          · obtain rfl : M = 0 := hP0
            have b10 := (Below.refl _ w8).alloc (Nat.le_refl _) (.cells #[] 26)
            go_wp2_with (at_builtin; refine wpList_append_own _ rfl _ _ 33 rfl w8.heap.size 26 i0 (.int .u64 0) 1 8 Tryd.underlying33 hi0 hz0 hz1 hz2 rfl (by decide) _ _ _ rfl (ownE.alloc _) ⟨w8.heap.size + 1, 0, none⟩ 1 1 [.int .u64 (a1 : Int)] rfl rfl ?c1 ?c2 ?c3 ?c4 ?c5 ?_)
            case c1 =>
              intro j u hj
              match j, hj with
              | 0, hj => simp at hj; subst hj; simp [Addr.add]
            case c2 => intro u hu; simp at hu; subst hu; rfl
            case c3 => unfold maxLen; omega
            case c4 => omega
            case c5 => have := b10.size; simp; omega
            intro v11 w11 own11 grow11 _
            have b11 : Below w8.heap.size w8 w11 := (b10.alloc b10.size _).grown grow11 (by have := b10.size; simp; omega) (fun j hj => (ownE.lt j hj).1)
            have own11 : Hid (w11.ownsRow w8.heap.size 26 1 v11 (P ++ [a1]).length (natC (P ++ [a1]))) := by
              have e : P = [] := List.eq_nil_of_length_eq_zero HM.out
              show World.ownsRow _ _ _ _ _ _ _
              rw [e]; exact own11
            clear grow11 b10 ownE
            have n11 := Lib.hid (own_nats own11.out (H64_snoc HP64.out hA64.out))
            have mz := stepB m8 b11
            have lz : bb < w11.heap.size := Nat.lt_of_lt_of_le lbb mz.size
            have hz := (mz.cell lbb).trans hcell
            have KS := Lib.hid (fun W (h : Below w11.heap.size w11 W) => (⟨h, (h.cell lz).trans hz⟩ : Below w11.heap.size w11 W ∧ W.cell? ⟨bb, off + k, none⟩ = some (.string s)))
            have cM : Hid (∀ W, Below w11.heap.size w11 W → Calls Tryd.prog 24 #[.int .u64 (R : Int), .string s, .int .i64 (k : Int), .int .i64 (n : Int), v11] W fun e w' => e = .returned (.bool false) ∧ Below W.heap.size W w') := fun W hB => by
              have := cV.out R (P ++ [a1]) v11 W (by rw [List.length_append, HM.out]; show _ + 1 ≤ 1000000; omega) (n11.out.below hB)
              rw [vlen.out R (P ++ [a1]) (by rw [List.length_append, ← HPl.out]; simp)] at this
              exact this
            have B0 := (Below.refl w11.heap.size w11).drew
            have hzq := cell_regrown hz
            clear cV vlen n11 hPl0
            go_wp2_with fail
            refine wp_region_quiet_below (by kernel_rfl) (by kernel_rfl) ?_
            repeat (go_big_quiet_step (first | (go_at_call 24; exact Calls.regrown_of (cM.out _ (below_regrown _ _ _)))))
            refine wpQuiet_nil ?_
            intro x1 hx1
            obtain ⟨⟨dq, osq⟩, hx1⟩ := hx1
            have B1 : Below w11.heap.size w11 x1 := by rw [hx1]; exact below_regrown _ dq osq
            clear hx1
            go_wp2_with fail
            exact ⟨⟨k + 1, rfl, hlt, mz.trans (B1.mono mz.size)⟩, by simp [intOf]; omega⟩
          · by_cases hM0 : M = 0
            · obtain rfl : M = 0 := hM0
              have srcP := Lib.hid ((ownv.alloc (.cells #[] 26)).cells (g := gp) rfl)
              have pAt := Lib.hid (own_at ownv HM.out)
              go_wp2_with (at_builtin; refine wpList_append_own _ rfl _ _ 33 rfl w8.heap.size 26 i0 (.int .u64 0) 1 8 Tryd.underlying33 hi0 hz0 hz1 hz2 rfl (by decide) _ _ _ rfl ownE ⟨gp, 0, none⟩ 0 cp (natC P) rfl lenP.out ?c1 ?c2 ?c3 ?c4 ?c5 ?_)
              case c1 => exact srcP.out
              case c2 => exact natC_one P
              case c3 => unfold maxLen; omega
              case c4 => omega
              case c5 => exact Nat.le_of_lt (by show _ < (w8.heap.push _).size; rw [Array.size_push]; exact Nat.lt_succ_self _)
              intro v10 w10 own10 grow10 _
              have b10 : Below w8.heap.size w8 w10 := ((Below.refl _ w8).alloc (Nat.le_refl _) _).grown grow10 (Nat.le_of_lt (by show _ < (w8.heap.push _).size; rw [Array.size_push]; exact Nat.lt_succ_self _)) (fun j hj => by cases hj; exact Nat.le_refl _)
              clear grow10 ownE srcP
              go_wp2_with (at_builtin; refine wpList_append_own _ rfl _ _ 33 rfl w8.heap.size 26 i0 (.int .u64 0) 1 8 Tryd.underlying33 hi0 hz0 hz1 hz2 rfl (by decide) _ _ _ rfl (own10.alloc _) ⟨w10.heap.size, 0, none⟩ 1 1 [.int .u64 (a1 : Int)] rfl rfl ?d1 ?d2 ?d3 ?d4 ?d5 ?_)
              case d1 =>
                intro j u hj
                match j, hj with
                | 0, hj => simp at hj; subst hj; simp [Addr.add]
              case d2 => intro u hu; simp at hu; subst hu; rfl
              case d3 => unfold maxLen; omega
              case d4 => omega
              case d5 => have := b10.size; simp; omega
              intro v11 w11 own11 grow11 _
              have b11 : Below w8.heap.size w8 w11 := (b10.alloc b10.size _).grown grow11 (by have := b10.size; simp; omega) (fun j hj => (own10.lt j hj).1)
              have own11 : Hid (w11.ownsRow w8.heap.size 26 1 v11 (P ++ [a1]).length (natC (P ++ [a1]))) := by
                show World.ownsRow _ _ _ _ _ _ _
                rw [List.length_append, HM.out, natC_snoc]
                exact own11
              clear grow11 b10 own10
              have n11 := Lib.hid (own_nats own11.out (H64_snoc HP64.out hA64.out))
              have mz := stepB m8 b11
              have lz : bb < w11.heap.size := Nat.lt_of_lt_of_le lbb mz.size
              have hz := (mz.cell lbb).trans hcell
              have KS := Lib.hid (fun W (h : Below w11.heap.size w11 W) => (⟨h, (h.cell lz).trans hz⟩ : Below w11.heap.size w11 W ∧ W.cell? ⟨bb, off + k, none⟩ = some (.string s)))
              have cM : Hid (∀ W, Below w11.heap.size w11 W → Calls Tryd.prog 24 #[.int .u64 (R : Int), .string s, .int .i64 (k : Int), .int .i64 (n : Int), v11] W fun e w' => e = .returned (.bool false) ∧ Below W.heap.size W w') := fun W hB => by
                have := cV.out R (P ++ [a1]) v11 W (by rw [List.length_append, HM.out]; show _ + 1 ≤ 1000000; omega) (n11.out.below hB)
                rw [vlen.out R (P ++ [a1]) (by rw [List.length_append, ← HPl.out]; simp)] at this
                exact this
              have B0 := (Below.refl w11.heap.size w11).drew
              have hzq := cell_regrown hz
              clear cV vlen n11 hPl0
              go_wp2_with fail
              refine wp_region_quiet_below (by kernel_rfl) (by kernel_rfl) ?_
              repeat (go_big_quiet_step (first | (go_at_call 24; exact Calls.regrown_of (cM.out _ (below_regrown _ _ _)))))
              refine wpQuiet_nil ?_
              intro x1 hx1
              obtain ⟨⟨dq, osq⟩, hx1⟩ := hx1
              have B1 : Below w11.heap.size w11 x1 := by rw [hx1]; exact below_regrown _ dq osq
              clear hx1
              go_wp2_with fail
              exact ⟨⟨k + 1, rfl, hlt, mz.trans (B1.mono mz.size)⟩, by simp [intOf]; omega⟩
            · by_cases hc1 : cp = 1
              · subst hc1
                have srcP := Lib.hid ((ownv.alloc (.cells #[] 26)).cells (g := gp) rfl)
                have pAt := Lib.hid (own_at ownv HM.out)
                go_wp2_with (at_builtin; refine wpList_append_own _ rfl _ _ 33 rfl w8.heap.size 26 i0 (.int .u64 0) 1 8 Tryd.underlying33 hi0 hz0 hz1 hz2 rfl (by decide) _ _ _ rfl ownE ⟨gp, 0, none⟩ M 1 (natC P) rfl lenP.out ?c1 ?c2 ?c3 ?c4 ?c5 ?_)
                case c1 => exact srcP.out
                case c2 => exact natC_one P
                case c3 => unfold maxLen; omega
                case c4 => omega
                case c5 => exact Nat.le_of_lt (by show _ < (w8.heap.push _).size; rw [Array.size_push]; exact Nat.lt_succ_self _)
                intro v10 w10 own10 grow10 _
                have b10 : Below w8.heap.size w8 w10 := ((Below.refl _ w8).alloc (Nat.le_refl _) _).grown grow10 (Nat.le_of_lt (by show _ < (w8.heap.push _).size; rw [Array.size_push]; exact Nat.lt_succ_self _)) (fun j hj => by cases hj; exact Nat.le_refl _)
                clear grow10 ownE srcP
                go_wp2_with (at_builtin; refine wpList_append_own _ rfl _ _ 33 rfl w8.heap.size 26 i0 (.int .u64 0) 1 8 Tryd.underlying33 hi0 hz0 hz1 hz2 rfl (by decide) _ _ _ rfl (own10.alloc _) ⟨w10.heap.size, 0, none⟩ 1 1 [.int .u64 (a1 : Int)] rfl rfl ?d1 ?d2 ?d3 ?d4 ?d5 ?_)
                case d1 =>
                  intro j u hj
                  match j, hj with
                  | 0, hj => simp at hj; subst hj; simp [Addr.add]
                case d2 => intro u hu; simp at hu; subst hu; rfl
                case d3 => unfold maxLen; omega
                case d4 => omega
                case d5 => have := b10.size; simp; omega
                intro v11 w11 own11 grow11 _
                have b11 : Below w8.heap.size w8 w11 := (b10.alloc b10.size _).grown grow11 (by have := b10.size; simp; omega) (fun j hj => (own10.lt j hj).1)
                have own11 : Hid (w11.ownsRow w8.heap.size 26 1 v11 (P ++ [a1]).length (natC (P ++ [a1]))) := by
                  show World.ownsRow _ _ _ _ _ _ _
                  rw [List.length_append, HM.out, natC_snoc]
                  exact own11
                clear grow11 b10 own10
                have n11 := Lib.hid (own_nats own11.out (H64_snoc HP64.out hA64.out))
                have mz := stepB m8 b11
                have lz : bb < w11.heap.size := Nat.lt_of_lt_of_le lbb mz.size
                have hz := (mz.cell lbb).trans hcell
                have KS := Lib.hid (fun W (h : Below w11.heap.size w11 W) => (⟨h, (h.cell lz).trans hz⟩ : Below w11.heap.size w11 W ∧ W.cell? ⟨bb, off + k, none⟩ = some (.string s)))
                have cM : Hid (∀ W, Below w11.heap.size w11 W → Calls Tryd.prog 24 #[.int .u64 (R : Int), .string s, .int .i64 (k : Int), .int .i64 (n : Int), v11] W fun e w' => e = .returned (.bool false) ∧ Below W.heap.size W w') := fun W hB => by
                  have := cV.out R (P ++ [a1]) v11 W (by rw [List.length_append, HM.out]; show _ + 1 ≤ 1000000; omega) (n11.out.below hB)
                  rw [vlen.out R (P ++ [a1]) (by rw [List.length_append, ← HPl.out]; simp)] at this
                  exact this
                have B0 := (Below.refl w11.heap.size w11).drew
                obtain ⟨q, rfl⟩ : ∃ q, M = q + 1 := ⟨M - 1, by omega⟩
                have pAt := Lib.hid (pAt.out.below b11)
                have hcap := pAt.out.cap
                rw [HM.out] at hcap
                obtain rfl : q = 0 := by omega
                clear hcap
                have cT : Hid (∀ W, Below w11.heap.size w11 W → Calls Tryd.prog 24 #[.int .u64 (R : Int), .string s, .int .i64 (k : Int), .int .i64 (n : Int), .slice (some ⟨gp, 0, none⟩) 0 0] W fun e w' => e = .returned (.bool false) ∧ Below W.heap.size W w') := fun W hB => by
                  have := cV.out R (P.drop 1) (.slice (some ⟨gp, 0, none⟩) 0 0) W (by rw [List.length_drop, HM.out]; decide) (nats_drop1 HM.out)
                  rw [vlen.out R (P.drop 1) (by rw [List.length_drop, ← HPl.out, HM.out]; decide)] at this
                  exact this
                have cI : Hid (∀ W, Below w11.heap.size w11 W → Calls Tryd.prog 24 #[.int .u64 (R : Int), .string s, .int .i64 (k : Int), .int .i64 (n : Int), .slice (some ⟨gp, 0, none⟩) 0 1] W fun e w' => e = .returned (.bool false) ∧ Below W.heap.size W w') := fun W hB => by
                  have := cV.out R (P.take 0) (.slice (some ⟨gp, 0, none⟩) 0 1) W (by simp) (nats_take (pAt.out.below hB) HP64.out HM.out)
                  rw [vlen.out R (P.take 0) (by rw [← HPl.out, HM.out]; simp)] at this
                  exact this
                have hzq := cell_regrown hz
                clear cV vlen n11 pAt hPl0
                go_wp2_with fail
                refine wp_region_quiet_below (by kernel_rfl) (by kernel_rfl) ?_
                repeat (go_big_quiet_step (first | (go_at_call 24; with_reducible exact Calls.regrown_of (cM.out _ (below_regrown _ _ _))) | (go_at_call 24; with_reducible exact Calls.regrown_of (cT.out _ (below_regrown _ _ _))) | (go_at_call 24; with_reducible exact Calls.regrown_of (cI.out _ (below_regrown _ _ _)))))
                refine wpQuiet_nil ?_
                intro x1 hx1
                obtain ⟨⟨dq, osq⟩, hx1⟩ := hx1
                have B1 : Below w11.heap.size w11 x1 := by rw [hx1]; exact below_regrown _ dq osq
                clear hx1
                go_wp2_with fail
                exact ⟨⟨k + 1, rfl, hlt, mz.trans (B1.mono mz.size)⟩, by simp [intOf]; omega⟩
              · have srcP := Lib.hid ((ownv.alloc (.cells #[] 26)).cells (g := gp) rfl)
                have pAt := Lib.hid (own_at ownv HM.out)
                go_wp2_with (at_builtin; refine wpList_append_own _ rfl _ _ 33 rfl w8.heap.size 26 i0 (.int .u64 0) 1 8 Tryd.underlying33 hi0 hz0 hz1 hz2 rfl (by decide) _ _ _ rfl ownE ⟨gp, 0, none⟩ M cp (natC P) rfl lenP.out ?c1 ?c2 ?c3 ?c4 ?c5 ?_)
                case c1 => exact srcP.out
                case c2 => exact natC_one P
                case c3 => unfold maxLen; omega
                case c4 => omega
                case c5 => exact Nat.le_of_lt (by show _ < (w8.heap.push _).size; rw [Array.size_push]; exact Nat.lt_succ_self _)
                intro v10 w10 own10 grow10 _
                have b10 : Below w8.heap.size w8 w10 := ((Below.refl _ w8).alloc (Nat.le_refl _) _).grown grow10 (Nat.le_of_lt (by show _ < (w8.heap.push _).size; rw [Array.size_push]; exact Nat.lt_succ_self _)) (fun j hj => by cases hj; exact Nat.le_refl _)
                clear grow10 ownE srcP
                go_wp2_with (at_builtin; refine wpList_append_own _ rfl _ _ 33 rfl w8.heap.size 26 i0 (.int .u64 0) 1 8 Tryd.underlying33 hi0 hz0 hz1 hz2 rfl (by decide) _ _ _ rfl (own10.alloc _) ⟨w10.heap.size, 0, none⟩ 1 1 [.int .u64 (a1 : Int)] rfl rfl ?d1 ?d2 ?d3 ?d4 ?d5 ?_)
                case d1 =>
                  intro j u hj
                  match j, hj with
                  | 0, hj => simp at hj; subst hj; simp [Addr.add]
                case d2 => intro u hu; simp at hu; subst hu; rfl
                case d3 => unfold maxLen; omega
                case d4 => omega
                case d5 => have := b10.size; simp; omega
                intro v11 w11 own11 grow11 _
                have b11 : Below w8.heap.size w8 w11 := (b10.alloc b10.size _).grown grow11 (by have := b10.size; simp; omega) (fun j hj => (own10.lt j hj).1)
                have own11 : Hid (w11.ownsRow w8.heap.size 26 1 v11 (P ++ [a1]).length (natC (P ++ [a1]))) := by
                  show World.ownsRow _ _ _ _ _ _ _
                  rw [List.length_append, HM.out, natC_snoc]
                  exact own11
                clear grow11 b10 own10
                have n11 := Lib.hid (own_nats own11.out (H64_snoc HP64.out hA64.out))
                have mz := stepB m8 b11
                have lz : bb < w11.heap.size := Nat.lt_of_lt_of_le lbb mz.size
                have hz := (mz.cell lbb).trans hcell
                have KS := Lib.hid (fun W (h : Below w11.heap.size w11 W) => (⟨h, (h.cell lz).trans hz⟩ : Below w11.heap.size w11 W ∧ W.cell? ⟨bb, off + k, none⟩ = some (.string s)))
                have cM : Hid (∀ W, Below w11.heap.size w11 W → Calls Tryd.prog 24 #[.int .u64 (R : Int), .string s, .int .i64 (k : Int), .int .i64 (n : Int), v11] W fun e w' => e = .returned (.bool false) ∧ Below W.heap.size W w') := fun W hB => by
                  have := cV.out R (P ++ [a1]) v11 W (by rw [List.length_append, HM.out]; show _ + 1 ≤ 1000000; omega) (n11.out.below hB)
                  rw [vlen.out R (P ++ [a1]) (by rw [List.length_append, ← HPl.out]; simp)] at this
                  exact this
                have B0 := (Below.refl w11.heap.size w11).drew
                obtain ⟨q, rfl⟩ : ∃ q, M = q + 1 := ⟨M - 1, by omega⟩
                have pAt := Lib.hid (pAt.out.below b11)
                have hc1' : ¬ cp = 1 := hc1
                have hcap := pAt.out.cap
                rw [HM.out] at hcap
                have cT : Hid (∀ W, Below w11.heap.size w11 W → Calls Tryd.prog 24 #[.int .u64 (R : Int), .string s, .int .i64 (k : Int), .int .i64 (n : Int), .slice (some ⟨gp, 1, none⟩) q (cp - 1)] W fun e w' => e = .returned (.bool false) ∧ Below W.heap.size W w') := fun W hB => by
                  have := cV.out R (P.drop 1) (.slice (some ⟨gp, 1, none⟩) q (cp - 1)) W (by rw [List.length_drop, HM.out]; omega) (nats_drop (pAt.out.below hB) HP64.out HM.out)
                  rw [vlen.out R (P.drop 1) (by rw [List.length_drop, ← HPl.out, HM.out]; omega)] at this
                  exact this
                have cI : Hid (∀ W, Below w11.heap.size w11 W → Calls Tryd.prog 24 #[.int .u64 (R : Int), .string s, .int .i64 (k : Int), .int .i64 (n : Int), .slice (some ⟨gp, 0, none⟩) q cp] W fun e w' => e = .returned (.bool false) ∧ Below W.heap.size W w') := fun W hB => by
                  have := cV.out R (P.take q) (.slice (some ⟨gp, 0, none⟩) q cp) W (by rw [List.length_take, HM.out]; omega) (nats_take (pAt.out.below hB) HP64.out HM.out)
                  rw [vlen.out R (P.take q) (by rw [List.length_take, ← HPl.out, HM.out]; omega)] at this
                  exact this
                have e2 : (0 : Int) < (q : Int) + 1 := by omega
                have e3 : (q : Int) ≤ (cp : Int) := by omega
                have e4 : (q : Int) + 1 ≤ (cp : Int) := by omega
                have e5 : (1 : Int) ≤ (q : Int) + 1 := by omega
                have e6 : 0 < q + 1 := by omega
                have e7 : 1 ≤ cp := by omega
                have e8 : q ≤ cp := by omega
                have e9 : q + 1 ≤ cp := by omega
                have e1 : IntKind.i64.wrap (q : Int) = (q : Int) := IntWalk.i64_in _ (by omega)
                have e1' : wrap64 (q : Int) = (q : Int) := by rw [← IntWalk.i64_left]; exact e1
                clear hcap
                have hzq := cell_regrown hz
                clear cV vlen n11 pAt hPl0
                go_wp2_with fail
                refine wp_region_quiet_below (by kernel_rfl) (by kernel_rfl) ?_
                repeat (go_big_quiet_step (first | (go_at_call 24; with_reducible exact Calls.regrown_of (cM.out _ (below_regrown _ _ _))) | (go_at_call 24; with_reducible exact Calls.regrown_of (cT.out _ (below_regrown _ _ _))) | (go_at_call 24; with_reducible exact Calls.regrown_of (cI.out _ (below_regrown _ _ _)))))
                refine wpQuiet_nil ?_
                intro x1 hx1
                obtain ⟨⟨dq, osq⟩, hx1⟩ := hx1
                have B1 : Below w11.heap.size w11 x1 := by rw [hx1]; exact below_regrown _ dq osq
                clear hx1
                go_wp2_with fail
                exact ⟨⟨k + 1, rfl, hlt, mz.trans (B1.mono mz.size)⟩, by simp [intOf]; omega⟩
        · have hor1 : ((a1 : Int) != (R : Int)) = true := bne_iff_ne.2 (by omega)
          have c2 := Lib.hid (cV.out a1 P v7 w8 (by rw [HM.out]; omega) n8.out)
          rw [vot a1 hor] at c2
          clear vot hor
          go_wp2_with fail
          refine c2.out.mono ?_; rintro e wv ⟨rfl, kv⟩
          have mv := stepB m8 kv
          have hcv := (mv.cell lbb).trans hcell
          have ownv := own_below ownv kv
          clear n8 c2 hc8
          have ownE := World.ownsRow_lit (base := wv.heap.size) (e := 26) (size := 1) wv #[] 0 (Nat.le_refl _) (by decide) rfl
          rcases Joins.ownsRow_forms ownv with ⟨rfl, hP0⟩ | ⟨gp, cp, rfl⟩
          · obtain rfl : M = 0 := hP0
            have b10 := (Below.refl _ wv).alloc (Nat.le_refl _) (.cells #[] 26)
            go_wp2_with (at_builtin; refine wpList_append_own _ rfl _ _ 33 rfl wv.heap.size 26 i0 (.int .u64 0) 1 8 Tryd.underlying33 hi0 hz0 hz1 hz2 rfl (by decide) _ _ _ rfl (ownE.alloc _) ⟨wv.heap.size + 1, 0, none⟩ 1 1 [.int .u64 (a1 : Int)] rfl rfl ?c1 ?c2 ?c3 ?c4 ?c5 ?_)
            case c1 =>
              intro j u hj
              match j, hj with
              | 0, hj => simp at hj; subst hj; simp [Addr.add]
            case c2 => intro u hu; simp at hu; subst hu; rfl
            case c3 => unfold maxLen; omega
            case c4 => omega
            case c5 => have := b10.size; simp; omega
            intro v11 w11 own11 grow11 _
            have b11 : Below wv.heap.size wv w11 := (b10.alloc b10.size _).grown grow11 (by have := b10.size; simp; omega) (fun j hj => (ownE.lt j hj).1)
            have own11 : Hid (w11.ownsRow wv.heap.size 26 1 v11 (P ++ [a1]).length (natC (P ++ [a1]))) := by
              have e : P = [] := List.eq_nil_of_length_eq_zero HM.out
              show World.ownsRow _ _ _ _ _ _ _
              rw [e]; exact own11
            clear grow11 b10 ownE
            have n11 := Lib.hid (own_nats own11.out (H64_snoc HP64.out hA64.out))
            have mz := stepB mv b11
            have lz : bb < w11.heap.size := Nat.lt_of_lt_of_le lbb mz.size
            have hz := (mz.cell lbb).trans hcell
            have KS := Lib.hid (fun W (h : Below w11.heap.size w11 W) => (⟨h, (h.cell lz).trans hz⟩ : Below w11.heap.size w11 W ∧ W.cell? ⟨bb, off + k, none⟩ = some (.string s)))
            have cM : Hid (∀ W, Below w11.heap.size w11 W → Calls Tryd.prog 24 #[.int .u64 (R : Int), .string s, .int .i64 (k : Int), .int .i64 (n : Int), v11] W fun e w' => e = .returned (.bool false) ∧ Below W.heap.size W w') := fun W hB => by
              have := cV.out R (P ++ [a1]) v11 W (by rw [List.length_append, HM.out]; show _ + 1 ≤ 1000000; omega) (n11.out.below hB)
              rw [vlen.out R (P ++ [a1]) (by rw [List.length_append, ← HPl.out]; simp)] at this
              exact this
            have B0 := (Below.refl w11.heap.size w11).drew
            have hzq := cell_regrown hz
            clear cV vlen n11 hPl0
            go_wp2_with fail
            refine wp_region_quiet_below (by kernel_rfl) (by kernel_rfl) ?_
            repeat (go_big_quiet_step (first | (go_at_call 24; exact Calls.regrown_of (cM.out _ (below_regrown _ _ _)))))
            refine wpQuiet_nil ?_
            intro x1 hx1
            obtain ⟨⟨dq, osq⟩, hx1⟩ := hx1
            have B1 : Below w11.heap.size w11 x1 := by rw [hx1]; exact below_regrown _ dq osq
            clear hx1
            go_wp2_with fail
            exact ⟨⟨k + 1, rfl, hlt, mz.trans (B1.mono mz.size)⟩, by simp [intOf]; omega⟩
          · by_cases hM0 : M = 0
            · obtain rfl : M = 0 := hM0
              have srcP := Lib.hid ((ownv.alloc (.cells #[] 26)).cells (g := gp) rfl)
              have pAt := Lib.hid (own_at ownv HM.out)
              go_wp2_with (at_builtin; refine wpList_append_own _ rfl _ _ 33 rfl wv.heap.size 26 i0 (.int .u64 0) 1 8 Tryd.underlying33 hi0 hz0 hz1 hz2 rfl (by decide) _ _ _ rfl ownE ⟨gp, 0, none⟩ 0 cp (natC P) rfl lenP.out ?c1 ?c2 ?c3 ?c4 ?c5 ?_)
              case c1 => exact srcP.out
              case c2 => exact natC_one P
              case c3 => unfold maxLen; omega
              case c4 => omega
              case c5 => exact Nat.le_of_lt (by show _ < (wv.heap.push _).size; rw [Array.size_push]; exact Nat.lt_succ_self _)
              intro v10 w10 own10 grow10 _
              have b10 : Below wv.heap.size wv w10 := ((Below.refl _ wv).alloc (Nat.le_refl _) _).grown grow10 (Nat.le_of_lt (by show _ < (wv.heap.push _).size; rw [Array.size_push]; exact Nat.lt_succ_self _)) (fun j hj => by cases hj; exact Nat.le_refl _)
              clear grow10 ownE srcP
              go_wp2_with (at_builtin; refine wpList_append_own _ rfl _ _ 33 rfl wv.heap.size 26 i0 (.int .u64 0) 1 8 Tryd.underlying33 hi0 hz0 hz1 hz2 rfl (by decide) _ _ _ rfl (own10.alloc _) ⟨w10.heap.size, 0, none⟩ 1 1 [.int .u64 (a1 : Int)] rfl rfl ?d1 ?d2 ?d3 ?d4 ?d5 ?_)
              case d1 =>
                intro j u hj
                match j, hj with
                | 0, hj => simp at hj; subst hj; simp [Addr.add]
              case d2 => intro u hu; simp at hu; subst hu; rfl
              case d3 => unfold maxLen; omega
              case d4 => omega
              case d5 => have := b10.size; simp; omega
              intro v11 w11 own11 grow11 _
              have b11 : Below wv.heap.size wv w11 := (b10.alloc b10.size _).grown grow11 (by have := b10.size; simp; omega) (fun j hj => (own10.lt j hj).1)
              have own11 : Hid (w11.ownsRow wv.heap.size 26 1 v11 (P ++ [a1]).length (natC (P ++ [a1]))) := by
                show World.ownsRow _ _ _ _ _ _ _
                rw [List.length_append, HM.out, natC_snoc]
                exact own11
              clear grow11 b10 own10
              have n11 := Lib.hid (own_nats own11.out (H64_snoc HP64.out hA64.out))
              have mz := stepB mv b11
              have lz : bb < w11.heap.size := Nat.lt_of_lt_of_le lbb mz.size
              have hz := (mz.cell lbb).trans hcell
              have KS := Lib.hid (fun W (h : Below w11.heap.size w11 W) => (⟨h, (h.cell lz).trans hz⟩ : Below w11.heap.size w11 W ∧ W.cell? ⟨bb, off + k, none⟩ = some (.string s)))
              have cM : Hid (∀ W, Below w11.heap.size w11 W → Calls Tryd.prog 24 #[.int .u64 (R : Int), .string s, .int .i64 (k : Int), .int .i64 (n : Int), v11] W fun e w' => e = .returned (.bool false) ∧ Below W.heap.size W w') := fun W hB => by
                have := cV.out R (P ++ [a1]) v11 W (by rw [List.length_append, HM.out]; show _ + 1 ≤ 1000000; omega) (n11.out.below hB)
                rw [vlen.out R (P ++ [a1]) (by rw [List.length_append, ← HPl.out]; simp)] at this
                exact this
              have B0 := (Below.refl w11.heap.size w11).drew
              have hzq := cell_regrown hz
              clear cV vlen n11 hPl0
              go_wp2_with fail
              refine wp_region_quiet_below (by kernel_rfl) (by kernel_rfl) ?_
              repeat (go_big_quiet_step (first | (go_at_call 24; exact Calls.regrown_of (cM.out _ (below_regrown _ _ _)))))
              refine wpQuiet_nil ?_
              intro x1 hx1
              obtain ⟨⟨dq, osq⟩, hx1⟩ := hx1
              have B1 : Below w11.heap.size w11 x1 := by rw [hx1]; exact below_regrown _ dq osq
              clear hx1
              go_wp2_with fail
              exact ⟨⟨k + 1, rfl, hlt, mz.trans (B1.mono mz.size)⟩, by simp [intOf]; omega⟩
            · by_cases hc1 : cp = 1
              · subst hc1
                have srcP := Lib.hid ((ownv.alloc (.cells #[] 26)).cells (g := gp) rfl)
                have pAt := Lib.hid (own_at ownv HM.out)
                go_wp2_with (at_builtin; refine wpList_append_own _ rfl _ _ 33 rfl wv.heap.size 26 i0 (.int .u64 0) 1 8 Tryd.underlying33 hi0 hz0 hz1 hz2 rfl (by decide) _ _ _ rfl ownE ⟨gp, 0, none⟩ M 1 (natC P) rfl lenP.out ?c1 ?c2 ?c3 ?c4 ?c5 ?_)
                case c1 => exact srcP.out
                case c2 => exact natC_one P
                case c3 => unfold maxLen; omega
                case c4 => omega
                case c5 => exact Nat.le_of_lt (by show _ < (wv.heap.push _).size; rw [Array.size_push]; exact Nat.lt_succ_self _)
                intro v10 w10 own10 grow10 _
                have b10 : Below wv.heap.size wv w10 := ((Below.refl _ wv).alloc (Nat.le_refl _) _).grown grow10 (Nat.le_of_lt (by show _ < (wv.heap.push _).size; rw [Array.size_push]; exact Nat.lt_succ_self _)) (fun j hj => by cases hj; exact Nat.le_refl _)
                clear grow10 ownE srcP
                go_wp2_with (at_builtin; refine wpList_append_own _ rfl _ _ 33 rfl wv.heap.size 26 i0 (.int .u64 0) 1 8 Tryd.underlying33 hi0 hz0 hz1 hz2 rfl (by decide) _ _ _ rfl (own10.alloc _) ⟨w10.heap.size, 0, none⟩ 1 1 [.int .u64 (a1 : Int)] rfl rfl ?d1 ?d2 ?d3 ?d4 ?d5 ?_)
                case d1 =>
                  intro j u hj
                  match j, hj with
                  | 0, hj => simp at hj; subst hj; simp [Addr.add]
                case d2 => intro u hu; simp at hu; subst hu; rfl
                case d3 => unfold maxLen; omega
                case d4 => omega
                case d5 => have := b10.size; simp; omega
                intro v11 w11 own11 grow11 _
                have b11 : Below wv.heap.size wv w11 := (b10.alloc b10.size _).grown grow11 (by have := b10.size; simp; omega) (fun j hj => (own10.lt j hj).1)
                have own11 : Hid (w11.ownsRow wv.heap.size 26 1 v11 (P ++ [a1]).length (natC (P ++ [a1]))) := by
                  show World.ownsRow _ _ _ _ _ _ _
                  rw [List.length_append, HM.out, natC_snoc]
                  exact own11
                clear grow11 b10 own10
                have n11 := Lib.hid (own_nats own11.out (H64_snoc HP64.out hA64.out))
                have mz := stepB mv b11
                have lz : bb < w11.heap.size := Nat.lt_of_lt_of_le lbb mz.size
                have hz := (mz.cell lbb).trans hcell
                have KS := Lib.hid (fun W (h : Below w11.heap.size w11 W) => (⟨h, (h.cell lz).trans hz⟩ : Below w11.heap.size w11 W ∧ W.cell? ⟨bb, off + k, none⟩ = some (.string s)))
                have cM : Hid (∀ W, Below w11.heap.size w11 W → Calls Tryd.prog 24 #[.int .u64 (R : Int), .string s, .int .i64 (k : Int), .int .i64 (n : Int), v11] W fun e w' => e = .returned (.bool false) ∧ Below W.heap.size W w') := fun W hB => by
                  have := cV.out R (P ++ [a1]) v11 W (by rw [List.length_append, HM.out]; show _ + 1 ≤ 1000000; omega) (n11.out.below hB)
                  rw [vlen.out R (P ++ [a1]) (by rw [List.length_append, ← HPl.out]; simp)] at this
                  exact this
                have B0 := (Below.refl w11.heap.size w11).drew
                obtain ⟨q, rfl⟩ : ∃ q, M = q + 1 := ⟨M - 1, by omega⟩
                have pAt := Lib.hid (pAt.out.below b11)
                have hcap := pAt.out.cap
                rw [HM.out] at hcap
                obtain rfl : q = 0 := by omega
                clear hcap
                have cT : Hid (∀ W, Below w11.heap.size w11 W → Calls Tryd.prog 24 #[.int .u64 (R : Int), .string s, .int .i64 (k : Int), .int .i64 (n : Int), .slice (some ⟨gp, 0, none⟩) 0 0] W fun e w' => e = .returned (.bool false) ∧ Below W.heap.size W w') := fun W hB => by
                  have := cV.out R (P.drop 1) (.slice (some ⟨gp, 0, none⟩) 0 0) W (by rw [List.length_drop, HM.out]; decide) (nats_drop1 HM.out)
                  rw [vlen.out R (P.drop 1) (by rw [List.length_drop, ← HPl.out, HM.out]; decide)] at this
                  exact this
                have cI : Hid (∀ W, Below w11.heap.size w11 W → Calls Tryd.prog 24 #[.int .u64 (R : Int), .string s, .int .i64 (k : Int), .int .i64 (n : Int), .slice (some ⟨gp, 0, none⟩) 0 1] W fun e w' => e = .returned (.bool false) ∧ Below W.heap.size W w') := fun W hB => by
                  have := cV.out R (P.take 0) (.slice (some ⟨gp, 0, none⟩) 0 1) W (by simp) (nats_take (pAt.out.below hB) HP64.out HM.out)
                  rw [vlen.out R (P.take 0) (by rw [← HPl.out, HM.out]; simp)] at this
                  exact this
                have hzq := cell_regrown hz
                clear cV vlen n11 pAt hPl0
                go_wp2_with fail
                refine wp_region_quiet_below (by kernel_rfl) (by kernel_rfl) ?_
                repeat (go_big_quiet_step (first | (go_at_call 24; with_reducible exact Calls.regrown_of (cM.out _ (below_regrown _ _ _))) | (go_at_call 24; with_reducible exact Calls.regrown_of (cT.out _ (below_regrown _ _ _))) | (go_at_call 24; with_reducible exact Calls.regrown_of (cI.out _ (below_regrown _ _ _)))))
                refine wpQuiet_nil ?_
                intro x1 hx1
                obtain ⟨⟨dq, osq⟩, hx1⟩ := hx1
                have B1 : Below w11.heap.size w11 x1 := by rw [hx1]; exact below_regrown _ dq osq
                clear hx1
                go_wp2_with fail
                exact ⟨⟨k + 1, rfl, hlt, mz.trans (B1.mono mz.size)⟩, by simp [intOf]; omega⟩
              · have srcP := Lib.hid ((ownv.alloc (.cells #[] 26)).cells (g := gp) rfl)
                have pAt := Lib.hid (own_at ownv HM.out)
                go_wp2_with (at_builtin; refine wpList_append_own _ rfl _ _ 33 rfl wv.heap.size 26 i0 (.int .u64 0) 1 8 Tryd.underlying33 hi0 hz0 hz1 hz2 rfl (by decide) _ _ _ rfl ownE ⟨gp, 0, none⟩ M cp (natC P) rfl lenP.out ?c1 ?c2 ?c3 ?c4 ?c5 ?_)
                case c1 => exact srcP.out
                case c2 => exact natC_one P
                case c3 => unfold maxLen; omega
                case c4 => omega
                case c5 => exact Nat.le_of_lt (by show _ < (wv.heap.push _).size; rw [Array.size_push]; exact Nat.lt_succ_self _)
                intro v10 w10 own10 grow10 _
                have b10 : Below wv.heap.size wv w10 := ((Below.refl _ wv).alloc (Nat.le_refl _) _).grown grow10 (Nat.le_of_lt (by show _ < (wv.heap.push _).size; rw [Array.size_push]; exact Nat.lt_succ_self _)) (fun j hj => by cases hj; exact Nat.le_refl _)
                clear grow10 ownE srcP
                go_wp2_with (at_builtin; refine wpList_append_own _ rfl _ _ 33 rfl wv.heap.size 26 i0 (.int .u64 0) 1 8 Tryd.underlying33 hi0 hz0 hz1 hz2 rfl (by decide) _ _ _ rfl (own10.alloc _) ⟨w10.heap.size, 0, none⟩ 1 1 [.int .u64 (a1 : Int)] rfl rfl ?d1 ?d2 ?d3 ?d4 ?d5 ?_)
                case d1 =>
                  intro j u hj
                  match j, hj with
                  | 0, hj => simp at hj; subst hj; simp [Addr.add]
                case d2 => intro u hu; simp at hu; subst hu; rfl
                case d3 => unfold maxLen; omega
                case d4 => omega
                case d5 => have := b10.size; simp; omega
                intro v11 w11 own11 grow11 _
                have b11 : Below wv.heap.size wv w11 := (b10.alloc b10.size _).grown grow11 (by have := b10.size; simp; omega) (fun j hj => (own10.lt j hj).1)
                have own11 : Hid (w11.ownsRow wv.heap.size 26 1 v11 (P ++ [a1]).length (natC (P ++ [a1]))) := by
                  show World.ownsRow _ _ _ _ _ _ _
                  rw [List.length_append, HM.out, natC_snoc]
                  exact own11
                clear grow11 b10 own10
                have n11 := Lib.hid (own_nats own11.out (H64_snoc HP64.out hA64.out))
                have mz := stepB mv b11
                have lz : bb < w11.heap.size := Nat.lt_of_lt_of_le lbb mz.size
                have hz := (mz.cell lbb).trans hcell
                have KS := Lib.hid (fun W (h : Below w11.heap.size w11 W) => (⟨h, (h.cell lz).trans hz⟩ : Below w11.heap.size w11 W ∧ W.cell? ⟨bb, off + k, none⟩ = some (.string s)))
                have cM : Hid (∀ W, Below w11.heap.size w11 W → Calls Tryd.prog 24 #[.int .u64 (R : Int), .string s, .int .i64 (k : Int), .int .i64 (n : Int), v11] W fun e w' => e = .returned (.bool false) ∧ Below W.heap.size W w') := fun W hB => by
                  have := cV.out R (P ++ [a1]) v11 W (by rw [List.length_append, HM.out]; show _ + 1 ≤ 1000000; omega) (n11.out.below hB)
                  rw [vlen.out R (P ++ [a1]) (by rw [List.length_append, ← HPl.out]; simp)] at this
                  exact this
                have B0 := (Below.refl w11.heap.size w11).drew
                obtain ⟨q, rfl⟩ : ∃ q, M = q + 1 := ⟨M - 1, by omega⟩
                have pAt := Lib.hid (pAt.out.below b11)
                have hc1' : ¬ cp = 1 := hc1
                have hcap := pAt.out.cap
                rw [HM.out] at hcap
                have cT : Hid (∀ W, Below w11.heap.size w11 W → Calls Tryd.prog 24 #[.int .u64 (R : Int), .string s, .int .i64 (k : Int), .int .i64 (n : Int), .slice (some ⟨gp, 1, none⟩) q (cp - 1)] W fun e w' => e = .returned (.bool false) ∧ Below W.heap.size W w') := fun W hB => by
                  have := cV.out R (P.drop 1) (.slice (some ⟨gp, 1, none⟩) q (cp - 1)) W (by rw [List.length_drop, HM.out]; omega) (nats_drop (pAt.out.below hB) HP64.out HM.out)
                  rw [vlen.out R (P.drop 1) (by rw [List.length_drop, ← HPl.out, HM.out]; omega)] at this
                  exact this
                have cI : Hid (∀ W, Below w11.heap.size w11 W → Calls Tryd.prog 24 #[.int .u64 (R : Int), .string s, .int .i64 (k : Int), .int .i64 (n : Int), .slice (some ⟨gp, 0, none⟩) q cp] W fun e w' => e = .returned (.bool false) ∧ Below W.heap.size W w') := fun W hB => by
                  have := cV.out R (P.take q) (.slice (some ⟨gp, 0, none⟩) q cp) W (by rw [List.length_take, HM.out]; omega) (nats_take (pAt.out.below hB) HP64.out HM.out)
                  rw [vlen.out R (P.take q) (by rw [List.length_take, ← HPl.out, HM.out]; omega)] at this
                  exact this
                have e2 : (0 : Int) < (q : Int) + 1 := by omega
                have e3 : (q : Int) ≤ (cp : Int) := by omega
                have e4 : (q : Int) + 1 ≤ (cp : Int) := by omega
                have e5 : (1 : Int) ≤ (q : Int) + 1 := by omega
                have e6 : 0 < q + 1 := by omega
                have e7 : 1 ≤ cp := by omega
                have e8 : q ≤ cp := by omega
                have e9 : q + 1 ≤ cp := by omega
                have e1 : IntKind.i64.wrap (q : Int) = (q : Int) := IntWalk.i64_in _ (by omega)
                have e1' : wrap64 (q : Int) = (q : Int) := by rw [← IntWalk.i64_left]; exact e1
                clear hcap
                have hzq := cell_regrown hz
                clear cV vlen n11 pAt hPl0
                go_wp2_with fail
                refine wp_region_quiet_below (by kernel_rfl) (by kernel_rfl) ?_
                repeat (go_big_quiet_step (first | (go_at_call 24; with_reducible exact Calls.regrown_of (cM.out _ (below_regrown _ _ _))) | (go_at_call 24; with_reducible exact Calls.regrown_of (cT.out _ (below_regrown _ _ _))) | (go_at_call 24; with_reducible exact Calls.regrown_of (cI.out _ (below_regrown _ _ _)))))
                refine wpQuiet_nil ?_
                intro x1 hx1
                obtain ⟨⟨dq, osq⟩, hx1⟩ := hx1
                have B1 : Below w11.heap.size w11 x1 := by rw [hx1]; exact below_regrown _ dq osq
                clear hx1
                go_wp2_with fail
                exact ⟨⟨k + 1, rfl, hlt, mz.trans (B1.mono mz.size)⟩, by simp [intOf]; omega⟩
      · obtain rfl : k = n := by omega
        have hlt' : ¬ (k : Int) < (k : Int) := by omega
        go_wp2_with fail
        refine (AWK.out _ hB).mono ?_; rintro e w9 ⟨rfl, k9⟩
        go_wp2_with fail
        go_ret
        exact ⟨rfl, stepB hB k9⟩

/-! ### The row's step -/
set_option maxRecDepth 100000 in
theorem lifted (os : Os) (started : os.Started) (H : Type) (enc : TypeId × Value → H) :
    ReturnsInHanded {} Tryd.checked os 8 .any (fun w args => (Rows.digestProofsSpec.pre enc Tryd.prog Tryd.f8 [] false w args ∧ laidMetH Tryd.prog Dg.laidL w) ∧ sizedMet enc Tryd.prog Tryd.f8 (OpenSpec.ofChange Rows.digestProofsSpec) false w args)
      (Rows.digestProofsSpec.post enc Tryd.prog Tryd.f8 false true false false) := by
  refine returnsInHanded_of_change_and (C := Tryd.checked) (X := fun w _ => laidMetH Tryd.prog Dg.laidL w) (fun _ _ _ hh h => h.of_heap hh) own started (by kernel_rfl) Tryd.func8
    (ChangeSpec.witness_shaped (enc := enc) (C := Tryd.checked) (os := os) (X := fun w _ => laidMetH Tryd.prog Dg.laidL w) false (World.doorLaid Tryd.prog 400 os) #[.slice none 0 0, .int .u64 0] 8 rfl (World.shaped_of_RefB (by kernel_rfl) (by kernel_rfl)) (by kernel_rfl) (by kernel_rfl) (by kernel_rfl) (Dg.door_met os _)) ?_
  intro W base args ds gs before hval0 hW hcnd hsz0 hL _
  have hT := Dg.halves_of_laid hL
  clear hL
  have hsz : (DataW.weightsEach Tryd.prog (Tryd.f8.params.toList ++ Rows.digestProofsSpec.plain.varTypes Tryd.prog) (ds ++ gs)).all (· ≤ reachBytes) = true := hsz0
  have hval : ∀ (j : Nat) t v, Tryd.f8.params[j]? = some t → args[j]? = some v → Value.okWide Tryd.prog W .any base t v := hval0
  have hW' := hW
  obtain ⟨p, q, hA0, hV, rfl, hfz, hnd⟩ := hW
  have hA : DataW.TrodAll enc Tryd.prog W 0 (fun _ => true) true Tryd.f8.params.toList args.toList ds p := hA0
  rw [Tryd.params8] at hA hval hsz
  obtain ⟨v0, vs0, d0, ds0, p0, q0, hargs, rfl, rfl, h0, r0⟩ := trodAll_cons hA
  obtain ⟨v1, vs1, d1, ds1, p1, q1, rfl, rfl, rfl, h1, r1⟩ := trodAll_cons r0
  obtain ⟨rfl, rfl, rfl⟩ := trodAll_nil r1
  obtain rfl : args = #[v0, v1] := by cases args; simp_all
  obtain ⟨rfl, rfl⟩ := trodVars_none hV
  obtain ⟨a0, len0, cap0, rfl⟩ := okWide_slice Tryd.underlying30 (hval 0 30 v0 rfl rfl)
  have k0 := h0
  have lt0 : ∀ x ∈ p0, x.block < W.heap.size := by obtain ⟨m, hm⟩ := k0; exact DataW.trod_lt m _ _ _ hm
  have hz0 : ∀ n ∈ d0.weights Tryd.prog 30, n ≤ reachBytes := fun n hn => by have := List.all_eq_true.1 hsz n (DataW.weights_mem_each (j := 0) rfl rfl n hn); simpa using this
  obtain ⟨l0, s0, g0⟩ := strs_arg h0 hz0
  obtain ⟨z1, rfl, rfl, rfl, wz1⟩ := open_int Tryd.underlying26 (hval 1 26 v1 rfl rfl) h1
  have bz1 := bounds_u64 wz1
  obtain ⟨a1, rfl⟩ : ∃ n : Nat, z1 = (n : Int) := ⟨z1.toNat, by omega⟩
  clear hA0 hval0
  simp only [List.append_nil] at hW'
  refine (walk l0 _ g0 a1 (by omega) W hT s0).mono fun e W' ⟨he, hg⟩ => ?_
  subst he
  exact ⟨_, rfl, _, _, _, [], _, [], hW', trodAll_mk1 (shut_bool Tryd.underlying4 _), (trodAll_cons_mk (Below.trod laidOut (by kernel_rfl) (of_decide_eq_true (by kernel_rfl)) k0 hg lt0) (trodAll_cons_mk (shut_int Tryd.underlying26 wz1) trodAll_mk0)), rfl, hg.frame _, fun h => by cases h⟩

theorem over : Rows.digestProofsRow.holds Tryd.pinned (OpenSpec.ofChange Rows.digestProofsSpec) :=
  OpenClaim.holds_of_wide 8 Tryd.f8 rfl rfl rfl rfl rfl rfl rfl ⟨rfl, rfl, rfl, rfl, rfl⟩ rfl rfl rfl rfl rfl (by kernel_rfl) Tryd.func8 (by kernel_rfl)
    (of_decide_eq_true (by kernel_rfl)) (by unfold Func.isWrapper; first | (rw [if_pos (by decide +kernel)]; kernel_rfl) | (rw [if_neg (by decide +kernel)]; exact ⟨rfl, rfl⟩))
    (fun os started H enc _ => lifted os started H enc)

/-- The statement: the card: the row, and what it lists tied to the program's text. -/
theorem proved : Rows.DigestProofsCardSaid :=
  Claim7.holds_tied_plain_at .later [] [.data] true _ _
    over (fun _ h => by cases h) (by kernel_rfl) (fun _ h => by cases h) digestProofs_row_tie rfl ⟨rfl, rfl⟩ (by kernel_rfl) rfl
    (fun f fn hf hfn => by
      obtain rfl : f = 8 := Option.some.inj ((show Tryd.prog.funcNamed "shipyard/shipyardlaw06.DigestProofs" = some 8 by kernel_rfl).symm.trans hf) |>.symm
      obtain rfl : fn = Tryd.f8 := (Option.some.inj (Tryd.func8.symm.trans hfn)).symm
      exact ⟨by kernel_rfl, fun j t ht => by
        rw [Tryd.params8] at ht
        have hm : t ∈ ([30, 26] : List Nat) := by simpa using Array.mem_of_getElem? ht
        have hall : (([30, 26] : List Nat).all fun u => !Tryd.prog.wantsStandIn u) = true := by kernel_rfl
        exact (show Tryd.prog.wantsStandIn t = false by simpa using List.all_eq_true.1 hall t hm)⟩)
    (by kernel_rfl)
#print axioms proved
end Go.Proofs.YtandcacobahmbaaDoor.digestProofs
