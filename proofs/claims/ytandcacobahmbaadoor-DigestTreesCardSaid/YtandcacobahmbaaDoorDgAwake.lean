/-
  The examples of the chapter hold (layer 6).
-/
import Derived.Test.YtandcacobahmbaaDoorDgLaw
namespace Go.Proofs.YtandcacobahmbaaDoor.Dg
open Go.RowKit

theorem crc_123 : crcN [49, 50, 51, 52, 53, 54, 55, 56, 57] = 3808858755 := by decide +kernel
theorem crc_empty : crcN [] = 0 := by decide +kernel
theorem fnv_empty : fnvN [] = 14695981039346656037 := by decide +kernel
theorem fnv_a : fnvN [97] = 12638187200555641996 := by decide +kernel
theorem abc_ne : (pairN (pairN (leafN [97]) (leafN [98])) (leafN [98]) == pairN (pairN (leafN [97]) (leafN [98])) (leafN [99])) = false := by decide +kernel
theorem left_2 : leftN 2 = 1 := left_is (j := 0) (by decide) (by decide)
theorem left_3 : leftN 3 = 2 := left_is (j := 1) (by decide) (by decide)
theorem left_4 : leftN 4 = 2 := left_is (j := 1) (by decide) (by decide)
theorem root_2 (a b : List UInt8) : rootN [a, b] = pairN (leafN a) (leafN b) := by
  rw [root_two (l := [a, b]) (Nat.le_refl 2)]
  show pairN (rootN ([a, b].take (leftN 2))) (rootN ([a, b].drop (leftN 2))) = _
  rw [left_2]
  show pairN (rootN [a]) (rootN [b]) = _
  rw [root_one, root_one]
theorem root_3 (a b c : List UInt8) : rootN [a, b, c] = pairN (pairN (leafN a) (leafN b)) (leafN c) := by
  rw [root_two (l := [a, b, c]) (Nat.le_succ 2)]
  show pairN (rootN ([a, b, c].take (leftN 3))) (rootN ([a, b, c].drop (leftN 3))) = _
  rw [left_3]
  show pairN (rootN [a, b]) (rootN [c]) = _
  rw [root_one, root_2]
theorem path_3 (a b c : List UInt8) : pathN [a, b, c] 2 = [pairN (leafN a) (leafN b)] := by
  rw [path_right (l := [a, b, c]) (Nat.le_succ 2) (by show ¬ 2 < leftN 3; rw [left_3]; decide)]
  show pathN ([a, b, c].drop (leftN 3)) (2 - leftN 3) ++ [rootN ([a, b, c].take (leftN 3))] = _
  rw [left_3]
  show pathN [c] 0 ++ [rootN [a, b]] = _
  rw [path_one (l := [c]) (show ¬ 2 ≤ 1 by decide), root_2]; rfl
theorem deep_3 : deep 2 3 = 1 := by
  rw [deep_right (by decide) (by rw [left_3]; decide), left_3, deep_one (by decide)]
theorem deep_4 : deep 2 4 = 2 := by
  rw [deep_right (by decide) (by rw [left_4]; decide), left_4]
  show deep 0 2 + 1 = 2
  rw [deep_left (by decide) (by rw [left_2]; decide), left_2, deep_one (by decide)]
theorem ver_c3 (a b c : List UInt8) : verV (pairN (pairN (leafN a) (leafN b)) (leafN c)) c 2 3 [pairN (leafN a) (leafN b)] = true := by
  unfold verV
  rw [if_neg (by decide)]
  have := given_path 3 [a, b, c] 2 rfl (by decide)
  rw [path_3, root_3] at this
  have h2 : givenN c (2 : Int).toNat (3 : Int).toNat [pairN (leafN a) (leafN b)] = _ := this
  rw [h2]
  simp
theorem ver_c4 (r : Nat) (c : List UInt8) (x : Nat) : verV r c 2 4 [x] = false := by
  unfold verV
  rw [if_neg (by decide)]
  have h : (givenN c (2 : Int).toNat (4 : Int).toNat [x]).2 = false := by
    cases hg : (givenN c (2 : Int).toNat (4 : Int).toNat [x]).2 with
    | false => rfl
    | true =>
      have := given_len c 4 2 [x] (by decide) hg
      rw [deep_4] at this
      simp at this
  rw [h]; rfl
theorem ver_b3 : verV (pairN (pairN (leafN [97]) (leafN [98])) (leafN [99])) [98] 2 3 [pairN (leafN [97]) (leafN [98])] = false := by
  unfold verV
  rw [if_neg (by decide)]
  have h : givenN [98] (2 : Int).toNat (3 : Int).toNat [pairN (leafN [97]) (leafN [98])] = (pairN (pairN (leafN [97]) (leafN [98])) (leafN [98]), true) := by
    show givenN [98] 2 3 ([] ++ [pairN (leafN [97]) (leafN [98])]) = _
    rw [given_right _ (by decide) _ _ (by rw [left_3]; decide), left_3]
    show (pairN _ (givenN [98] 0 1 []).1, (givenN [98] 0 1 []).2) = _
    rw [given_one]; rfl
  rw [h, abc_ne]; rfl
/-- One hash in a block just made. -/
theorem made_nats (W : World) (Y : Nat) (h : Y < 18446744073709551616) : Nats (W.alloc (.cells #[.int .u64 (Y : Int)] 26)) (.slice (some ⟨W.heap.size, 0, none⟩) 1 1) [Y] := by
  refine NatAt.nats (l := [Y]) ⟨by show _ < (W.heap.push _).size; rw [Array.size_push]; exact Nat.lt_succ_self _, Nat.le_refl _, fun j hj => ?_⟩ (fun y hy => by rw [List.mem_singleton.1 hy]; exact h)
  rw [Nat.zero_add, World.cell?_alloc_mark W #[.int .u64 (Y : Int)] 26 (0, 0) j]
  match j, hj with
  | 0, _ => rfl
def sA : ByteArray := ⟨#[97]⟩
def sB : ByteArray := ⟨#[98]⟩
def sC : ByteArray := ⟨#[99]⟩
abbrev abcO : Obj := .cells #[.string ⟨#[97]⟩, .string ⟨#[98]⟩, .string ⟨#[99]⟩] 9
theorem abc_at (w : World) : StrAt (w.alloc abcO) w.heap.size 0 3 [sA, sB, sC] := by
  refine ⟨by show _ < (w.heap.push _).size; rw [Array.size_push]; exact Nat.lt_succ_self _, by decide, fun j hj => ?_⟩
  rw [Nat.zero_add, World.cell?_alloc_mark w #[.string ⟨#[97]⟩, .string ⟨#[98]⟩, .string ⟨#[99]⟩] 9 (0, 0) j]
  match j, hj with
  | 0, _ => rfl
  | 1, _ => rfl
  | 2, _ => rfl
theorem abc_short : Short [sA, sB, sC] := fun s hs => by
  simp only [List.mem_cons, List.not_mem_nil, or_false] at hs
  rcases hs with rfl | rfl | rfl <;> decide
set_option maxHeartbeats 4000000 in
set_option maxRecDepth 100000 in
theorem awake_any (w : World) (hT : Halves w) : Calls Tryd.prog 13 #[] w fun e w' => e = .returned (.bool true) ∧ Below w.heap.size w w' := by
  obtain ⟨W1, hW1⟩ : ∃ W1, w.alloc abcO = W1 := ⟨_, rfl⟩
  obtain ⟨g, hg⟩ : ∃ g, w.heap.size = g := ⟨_, rfl⟩
  have hA := abc_at w
  have B1 : Below w.heap.size w W1 := by rw [← hW1]; exact (Below.refl _ w).alloc (Nat.le_refl _) _
  rw [hW1, hg] at hA
  have lA := leafN_lt [97]
  have lB := leafN_lt [98]
  have lC := leafN_lt [99]
  have cA := Lib.hid (fun W (hB : Below W1.heap.size W1 W) => qRoot_any [sA] _ W (by decide) (abc_short.take 1) ((hA.below hB).take (k := 1) (by decide)).strs)
  have cB := Lib.hid (fun W (hB : Below W1.heap.size W1 W) => qRoot_any [sB] _ W (by decide) ((abc_short.drop 1).take 1) (((hA.below hB).drop (k := 1) (by decide)).take (k := 1) (by decide)).strs)
  have cC := Lib.hid (fun W (hB : Below W1.heap.size W1 W) => qRoot_any [sC] _ W (by decide) (abc_short.drop 2) ((hA.below hB).drop (k := 2) (by decide)).strs)
  have cR := Lib.hid (fun W (hB : Below W1.heap.size W1 W) => qRoot_any [sA, sB, sC] _ W (by decide) abc_short (hA.below hB).strs)
  have cN := Lib.hid (fun W => qRoot_any [] (.slice none 0 0) W (by decide) (fun s hs => by simp at hs) ⟨none, 0, rfl, Nat.le_refl _, fun h => by simp at h⟩)
  have rA : Hid (rootN (bytesL [sA]) = leafN [97]) := root_one _
  have rB : Hid (rootN (bytesL [sB]) = leafN [98]) := root_one _
  have rC : Hid (rootN (bytesL [sC]) = leafN [99]) := root_one _
  have rR : Hid (rootN (bytesL [sA, sB, sC]) = pairN (pairN (leafN [97]) (leafN [98])) (leafN [99])) := root_3 _ _ _
  have rN : Hid (rootN (bytesL []) = 14695981039346656037) := root_nil.trans fnv_empty
  rw [rA.out] at cA
  rw [rB.out] at cB
  rw [rC.out] at cC
  rw [rR.out] at cR
  rw [rN.out] at cN
  have cP := Lib.hid (fun W (hB : Below W1.heap.size W1 W) => qProof_any [sA, sB, sC] _ 2 W (by decide) abc_short (hA.below hB).strs)
  have cF := Lib.hid (fun W (hB : Below W1.heap.size W1 W) => qProof_any [sA, sB, sC] _ 3 W (by decide) abc_short (hA.below hB).strs)
  have pP : Hid (pfP (bytesL [sA, sB, sC]) 2 = [pairN (leafN [97]) (leafN [98])]) := path_3 _ _ _
  have pE : Hid (pfE (bytesL [sA, sB, sC]) 2 = 0) := rfl
  have pF : Hid (pfP (bytesL [sA, sB, sC]) 3 = []) := rfl
  have pG : Hid (pfE (bytesL [sA, sB, sC]) 3 = 9) := rfl
  rw [pP.out, pE.out] at cP
  rw [pF.out, pG.out] at cF
  have hT1 := Lib.hid (hT.below B1)
  have d1 := Lib.hid (fun W (hB : Below W1.heap.size W1 W) => qCrc_any ⟨#[49, 50, 51, 52, 53, 54, 55, 56, 57]⟩ W (hT1.out.below hB) (by decide))
  have d2 := Lib.hid (fun W (hB : Below W1.heap.size W1 W) => qCrc_any ⟨#[]⟩ W (hT1.out.below hB) (by decide))
  clear hT hT1
  have d3 := Lib.hid (fun W => qHash_any ⟨#[]⟩ W (by decide))
  have d4 := Lib.hid (fun W => qHash_any ⟨#[97]⟩ W (by decide))
  have z1 : Hid (crcN (ByteArray.mk #[49, 50, 51, 52, 53, 54, 55, 56, 57]).data.toList = 3808858755) := crc_123
  have z2 : Hid (crcN (ByteArray.mk #[]).data.toList = 0) := crc_empty
  have z3 : Hid (fnvN (ByteArray.mk #[]).data.toList = 14695981039346656037) := fnv_empty
  have z4 : Hid (fnvN (ByteArray.mk #[97]).data.toList = 12638187200555641996) := fnv_a
  rw [z1.out] at d1
  rw [z2.out] at d2
  rw [z3.out] at d3
  rw [z4.out] at d4
  have vT := ver_c3 [97] [98] [99]
  have vF := fun r x => ver_c4 r [99] x
  have vG := ver_b3
  have e1 := pairN_lt (leafN [97]) (leafN [98])
  have c1 := Lib.hid (fun W => qPair_any (leafN [97]) (leafN [98]) W lA lB)
  have c2 := Lib.hid (fun W => qPair_any (pairN (leafN [97]) (leafN [98])) (leafN [99]) W e1 lC)
  have hroot := pairN_lt (pairN (leafN [97]) (leafN [98])) (leafN [99])
  have v1 := Lib.hid (fun v W (h : Nats W v [pairN (leafN [97]) (leafN [98])]) => qVerify_any (pairN (pairN (leafN [97]) (leafN [98])) (leafN [99])) [pairN (leafN [97]) (leafN [98])] v ⟨#[99]⟩ 2 3 W (by simp) (by decide) (by decide) h)
  have v2 := Lib.hid (fun v W (h : Nats W v [pairN (leafN [97]) (leafN [98])]) => qVerify_any (pairN (pairN (leafN [97]) (leafN [98])) (leafN [99])) [pairN (leafN [97]) (leafN [98])] v ⟨#[99]⟩ 2 4 W (by simp) (by decide) (by decide) h)
  have v3 := Lib.hid (fun v W (h : Nats W v [pairN (leafN [97]) (leafN [98])]) => qVerify_any (pairN (pairN (leafN [97]) (leafN [98])) (leafN [99])) [pairN (leafN [97]) (leafN [98])] v ⟨#[98]⟩ 2 3 W (by simp) (by decide) (by decide) h)
  have y1 : Hid (verV (pairN (pairN (leafN [97]) (leafN [98])) (leafN [99])) (ByteArray.mk #[99]).data.toList 2 3 [pairN (leafN [97]) (leafN [98])] = true) := vT
  have y2 : Hid (verV (pairN (pairN (leafN [97]) (leafN [98])) (leafN [99])) (ByteArray.mk #[99]).data.toList 2 4 [pairN (leafN [97]) (leafN [98])] = false) := vF _ _
  have y3 : Hid (verV (pairN (pairN (leafN [97]) (leafN [98])) (leafN [99])) (ByteArray.mk #[98]).data.toList 2 3 [pairN (leafN [97]) (leafN [98])] = false) := vG
  rw [y1.out] at v1
  rw [y2.out] at v2
  rw [y3.out] at v3
  clear vT vF vG y1 y2 y3 z1 z2 z3 z4 pP pE pF pG rA rB rC rR rN
  generalize pairN (pairN (leafN [97]) (leafN [98])) (leafN [99]) = Z at cR c2 v1 v2 v3 hroot
  generalize pairN (leafN [97]) (leafN [98]) = Y at cP c1 c2 v1 v2 v3 e1
  generalize leafN [97] = xa at cA c1 lA
  generalize leafN [98] = xb at cB c1 lB
  generalize leafN [99] = xc at cC c2 lC
  have hY64 : H64 [Y] := fun y hy => by rw [List.mem_singleton.1 hy]; exact e1
  have cS := Lib.hid (fun (W : World) (va vb : Value) (ha : Nats W va [Y]) (hb : Nats W vb [Y]) => same_any [Y] [Y] va vb W ha hb (by simp) (by simp))
  have hdec : decide ([Y] = [Y]) = true := decide_eq_true rfl
  rw [hdec] at cS
  have hMade := Lib.hid (fun W => made_nats W Y e1)
  have hZZ : ((Z : Int) == (Z : Int)) = true := beq_self_eq_true _
  have hB0 := (Below.refl W1.heap.size W1).drew
  have hY64 := Lib.hid hY64
  clear hdec lA lB lC e1 hroot hA
  go_enter Tryd.func13, Tryd.ntmps13
  go_wp2_with fail
  clear hW1 hg
  go_region_held3 (fun W => Below W1.heap.size W1 W) (first | exact hB0 | exact B4 | exact B5 | exact B6)
    (first | (go_at_call 19; refine (cC.out _ B5).mono ?_; rintro e w6 ⟨rfl, k6⟩; have B6 := stepB B5 k6) | (go_at_call 19; refine (cB.out _ B4).mono ?_; rintro e w5 ⟨rfl, k5⟩; have B5 := stepB B4 k5) | (go_at_call 19; refine (cA.out _ hB0).mono ?_; rintro e w4 ⟨rfl, k4⟩; have B4 := stepB hB0 k4))
  clear k4 k5 k6 cA cB cC B4 B5 hB0
  go_wp2_with fail
  refine (cP.out _ B6).mono ?_; rintro e w7 ⟨v7, rfl, own7, k7⟩
  have B7 := stepB B6 k7
  have n7 := Lib.hid (own_nats (l := [Y]) own7 hY64.out)
  clear own7 k7 B6 cP
  go_wp2_with fail
  refine (cF.out _ B7).mono ?_; rintro e w8 ⟨v8, rfl, own8, k8⟩
  have B8 := stepB B7 k8
  have n8 := Lib.hid (n7.out.below k8)
  clear own8 k8 n7 B7 cF
  go_wp2_with fail
  refine (d1.out _ B8).mono ?_; rintro e w9 ⟨rfl, k9⟩
  have B9 := stepB B8 k9
  have n9 := Lib.hid (n8.out.below k9)
  clear k9 B8 n8
  go_wp2_with fail
  refine (d2.out _ B9).mono ?_; rintro e w10 ⟨rfl, k10⟩
  have B10 := stepB B9 k10
  have n10 := Lib.hid (n9.out.below k10)
  clear k10 B9 n9
  go_wp2_with fail
  refine (d3.out _).mono ?_; rintro e w11 ⟨rfl, k11⟩
  have B11 := stepB B10 k11
  have n11 := Lib.hid (n10.out.below k11)
  clear k11 B10 n10
  go_wp2_with fail
  refine (d4.out _).mono ?_; rintro e w12 ⟨rfl, k12⟩
  have B12 := stepB B11 k12
  have n12 := Lib.hid (n11.out.below k12)
  clear k12 B11 n11
  go_wp2_with fail
  refine (c1.out _).mono ?_; rintro e w13 ⟨rfl, k13⟩
  have B13 := stepB B12 k13
  have n13 := Lib.hid (n12.out.below k13)
  clear k13 B12 n12
  go_wp2_with fail
  refine (c2.out _).mono ?_; rintro e w14 ⟨rfl, k14⟩
  have B14 := stepB B13 k14
  have n14 := Lib.hid (n13.out.below k14)
  clear k14 B13 n13
  go_wp2_with fail
  refine (cR.out _ B14).mono ?_; rintro e w15 ⟨rfl, k15⟩
  have B15 := stepB B14 k15
  have n15 := Lib.hid (n14.out.below k15)
  clear k15 B14 n14
  go_wp2_with fail
  refine (cN.out _).mono ?_; rintro e w16 ⟨rfl, k16⟩
  have B16 := stepB B15 k16
  have n16 := Lib.hid (n15.out.below k16)
  clear k16 B15 n15
  go_wp2_with fail
  refine (d3.out _).mono ?_; rintro e w17 ⟨rfl, k17⟩
  have B17 := stepB B16 k17
  have n17 := Lib.hid (n16.out.below k17)
  clear k17 B16 n16
  go_wp2_with fail
  refine (c1.out _).mono ?_; rintro e w18 ⟨rfl, k18⟩
  have B18 := stepB B17 k18
  have n18 := Lib.hid (n17.out.below k18)
  clear k18 B17 n17
  have m18 := hMade.out w18
  have n18' := Lib.hid (n18.out.below ((Below.refl w18.heap.size w18).alloc (Nat.le_refl _) (.cells #[.int .u64 (Y : Int)] 26)))
  have B18' := B18.alloc B18.size (.cells #[.int .u64 (Y : Int)] 26)
  have m18 := Lib.hid m18
  go_wp2_with fail
  refine (cS.out _ _ _ n18'.out m18.out).mono ?_; rintro e w19 ⟨rfl, k19⟩
  have B19 := stepB B18' k19
  have n19 := Lib.hid (n18'.out.below k19)
  clear k19 B18 B18' n18 n18' m18 cS
  go_wp2_with fail
  refine (v1.out _ _ n19.out).mono ?_; rintro e w20 ⟨rfl, k20⟩
  have B20 := stepB B19 k20
  have n20 := Lib.hid (n19.out.below k20)
  clear k20 B19 n19
  go_wp2_with fail
  refine (v2.out _ _ n20.out).mono ?_; rintro e w21 ⟨rfl, k21⟩
  have B21 := stepB B20 k21
  have n21 := Lib.hid (n20.out.below k21)
  clear k21 B20 n20
  go_wp2_with fail
  refine (v3.out _ _ n21.out).mono ?_; rintro e w22 ⟨rfl, k22⟩
  have B22 := stepB B21 k22
  have n22 := Lib.hid (n21.out.below k22)
  clear k22 B21 n21
  go_wp2_with fail
  go_ret
  exact ⟨rfl, B1.trans (B22.mono B1.size)⟩
end Go.Proofs.YtandcacobahmbaaDoor.Dg
