/-
  Contracts of the reference of layer 6: Proof, given, Verify.
-/
import Derived.Test.YtandcacobahmbaaDoorDgR2
namespace Go.Proofs.YtandcacobahmbaaDoor.Dg
open Go.RowKit

set_option maxHeartbeats 2000000 in
set_option maxRecDepth 100000 in
theorem rproof_in : ∀ (n : Nat) (L : List ByteArray) (v : Value) (i : Nat) (w : World), L.length = n → n ≤ 1000 → i < n → Short L → Strs w v L →
    Calls Tryd.prog 22 #[v, .int .i64 (i : Int)] w (PfEnd w (pathN (bytesL L) i) 0) := by
  intro n
  induction n using Nat.strongRecOn with
  | ind n ih =>
    intro L v i w hn hn1000 hi hs hv
    obtain ⟨b, off, c, rfl, ha⟩ := hv.open (by omega)
    have i1 : (i : Int) < (L.length : Int) := by omega
    by_cases h1 : n = 1
    · have hP : Hid (pathN (bytesL L) i = []) := path_one (by rw [bytesL_length]; omega) i
      rw [hP.out]
      have n1 : ((L.length : Int) == 1) = true := beq_iff_eq.2 (by omega)
      clear ih hn hn1000 hs ha hv h1 hi hP
      go_enter Tryd.func22, Tryd.ntmps22
      go_wp2_with fail
      (try simp only [Exit.inBlock, Exit.then]); refine bodyPost_ret (results_two rfl _ _ _) rfl ?_
      exact ⟨_, rfl, World.ownsRow_nil _ _ _ _, Below.refl _ _⟩
    · have h2 : 2 ≤ n := by omega
      subst hn
      obtain ⟨i0, hi0, hz0, hz1, hz2⟩ := info_parts info_u64
      obtain ⟨k, hk⟩ : ∃ k, leftN L.length = k := ⟨_, rfl⟩
      have hkl := left_lt h2
      have hkp := left_pos L.length
      have cK := Lib.hid (fun w => rleft_any L.length w h2 (by omega))
      have hl1 : 2 ≤ (bytesL L).length := by rw [bytesL_length]; exact h2
      have hc0 := ha.cap
      have lt1 : (L.take k).length = k := by rw [List.length_take]; omega
      have ld1 : (L.drop k).length = L.length - k := List.length_drop
      have p1 : (k : Int) ≤ (c : Int) := by omega
      have n1 : ((L.length : Int) == 1) = false := beq_false_of_ne (by omega)
      have hck : ¬ c = k := by omega
      have hpl := path_deep L.length (bytesL L) i (bytesL_length L)
      by_cases hik : i < k
      · have hP := path_left hl1 (i := i) (by rw [bytesL_length, hk]; exact hik)
        rw [bytesL_length, ← bytesL_take, ← bytesL_drop, hk] at hP
        rw [hk] at hkl hkp cK
        have i2 : (i : Int) < (k : Int) := by omega
        have cL := Lib.hid (fun W (hB : Below w.heap.size w W) => ih k hkl (L.take k) _ i W lt1 (by omega) hik (hs.take k) ((ha.below hB).take (by omega)).strs)
        have cD := Lib.hid (fun W (hB : Below w.heap.size w W) => rroot_any (L.length - k) (L.drop k) _ W ld1 (by omega) (hs.drop k) ((ha.below hB).drop (by omega)).strs)
        rw [lt1] at cL
        rw [ld1] at cD
        have hq : (pathN (bytesL (L.take k)) i).length ≤ 1000 := by
          have := deep_le k i
          rw [path_deep k _ i (by rw [bytesL_length]; exact lt1)]; omega
        rw [hP]
        generalize pathN (bytesL (L.take k)) i = P at cL hq
        generalize rootN (bytesL (L.drop k)) = R at cD
        generalize hNe : L.length = N at cK cL cD n1 i1 hc0 hkl ⊢
        clear ih hs ha hv hn1000 lt1 ld1 hk h2 hl1 hP hpl hi h1
        go_enter Tryd.func22, Tryd.ntmps22
        go_wp2_with fail
        refine (cK.out _).mono ?_; rintro e w1 ⟨rfl, rfl⟩
        go_wp2_with fail
        refine (cL.out _ (Below.refl _ _)).mono ?_; rintro e w4 ⟨v4, rfl, own4, k4⟩
        go_wp2_with fail
        refine (cD.out _ k4).mono ?_; rintro e w5 ⟨rfl, k5⟩
        have own5 := own_below own4 k5
        have k45 := stepB k4 k5
        clear own4
        go_wp2_with (at_builtin; refine wpList_append_own _ rfl _ _ 33 rfl w.heap.size 26 i0 (.int .u64 0) 1 8 Tryd.underlying33 hi0 hz0 hz1 hz2 rfl (by decide) _ _ _ rfl (own5.alloc _) ⟨w5.heap.size, 0, none⟩ 1 1 [.int .u64 (R : Int)] rfl rfl ?c1 ?c2 ?c3 ?c4 ?c5 ?_)
        case c1 =>
          intro j u hj
          match j, hj with
          | 0, hj => simp at hj; subst hj; simp [Addr.add]
        case c2 => intro u hu; simp at hu; subst hu; rfl
        case c3 => unfold maxLen; omega
        case c4 => omega
        case c5 => have := k45.size; simp; omega
        intro v' w6 hown' hgrow _
        have k6 : Below w.heap.size w w6 := (k45.alloc k45.size _).grown hgrow (by have := k45.size; simp; omega) (fun j hj => (own5.lt j hj).1)
        have hf : Hid (w6.ownsRow w.heap.size 26 1 v' (P ++ [R]).length (natC (P ++ [R]))) := by
          show World.ownsRow _ _ _ _ _ _ _
          rw [List.length_append, natC_snoc]; exact hown'
        clear hown' hgrow own5
        go_wp2_with fail
        (try simp only [Exit.inBlock, Exit.then]); refine bodyPost_ret (results_two rfl _ _ _) rfl ?_
        exact ⟨_, rfl, hf.out, k6⟩
      · have hP := path_right hl1 (i := i) (by rw [bytesL_length, hk]; exact hik)
        rw [bytesL_length, ← bytesL_take, ← bytesL_drop, hk] at hP
        rw [hk] at hkl hkp cK
        have i2 : ¬ (i : Int) < (k : Int) := by omega
        have cL := Lib.hid (fun W (hB : Below w.heap.size w W) => rroot_any k (L.take k) _ W lt1 (by omega) (hs.take k) ((ha.below hB).take (by omega)).strs)
        have cD := Lib.hid (fun W (hB : Below w.heap.size w W) => ih (L.length - k) (by omega) (L.drop k) _ (i - k) W ld1 (by omega) (by omega) (hs.drop k) ((ha.below hB).drop (by omega)).strs)
        rw [lt1] at cL
        rw [ld1, show ((i - k : Nat) : Int) = (i : Int) - (k : Int) by omega] at cD
        have hq : (pathN (bytesL (L.drop k)) (i - k)).length ≤ 1000 := by
          have := deep_le (L.length - k) (i - k)
          rw [path_deep (L.length - k) _ (i - k) (by rw [bytesL_length]; exact ld1)]; omega
        have e1 : IntKind.i64.wrap ((i : Int) - (k : Int)) = (i : Int) - (k : Int) := IntWalk.i64_in _ (by omega)
        rw [hP]
        generalize pathN (bytesL (L.drop k)) (i - k) = P at cD hq
        generalize rootN (bytesL (L.take k)) = R at cL
        generalize hNe : L.length = N at cK cL cD n1 i1 hc0 hkl ⊢
        clear ih hs ha hv hn1000 lt1 ld1 hk h2 hl1 hP hpl hi h1
        go_enter Tryd.func22, Tryd.ntmps22
        go_wp2_with fail
        refine (cK.out _).mono ?_; rintro e w1 ⟨rfl, rfl⟩
        go_wp2_with fail
        refine (cD.out _ (Below.refl _ _)).mono ?_; rintro e w4 ⟨v4, rfl, own4, k4⟩
        go_wp2_with fail
        refine (cL.out _ k4).mono ?_; rintro e w5 ⟨rfl, k5⟩
        have own5 := own_below own4 k5
        have k45 := stepB k4 k5
        clear own4
        go_wp2_with (at_builtin; refine wpList_append_own _ rfl _ _ 33 rfl w.heap.size 26 i0 (.int .u64 0) 1 8 Tryd.underlying33 hi0 hz0 hz1 hz2 rfl (by decide) _ _ _ rfl (own5.alloc _) ⟨w5.heap.size, 0, none⟩ 1 1 [.int .u64 (R : Int)] rfl rfl ?c1 ?c2 ?c3 ?c4 ?c5 ?_)
        case c1 =>
          intro j u hj
          match j, hj with
          | 0, hj => simp at hj; subst hj; simp [Addr.add]
        case c2 => intro u hu; simp at hu; subst hu; rfl
        case c3 => unfold maxLen; omega
        case c4 => omega
        case c5 => have := k45.size; simp; omega
        intro v' w6 hown' hgrow _
        have k6 : Below w.heap.size w w6 := (k45.alloc k45.size _).grown hgrow (by have := k45.size; simp; omega) (fun j hj => (own5.lt j hj).1)
        have hf : Hid (w6.ownsRow w.heap.size 26 1 v' (P ++ [R]).length (natC (P ++ [R]))) := by
          show World.ownsRow _ _ _ _ _ _ _
          rw [List.length_append, natC_snoc]; exact hown'
        clear hown' hgrow own5
        go_wp2_with fail
        (try simp only [Exit.inBlock, Exit.then]); refine bodyPost_ret (results_two rfl _ _ _) rfl ?_
        exact ⟨_, rfl, hf.out, k6⟩
set_option maxHeartbeats 2000000 in
set_option maxRecDepth 100000 in
theorem rproof_any (L : List ByteArray) (v : Value) (i : Int) (w : World) (hn1000 : L.length ≤ 1000) (hs : Short L) (hv : Strs w v L) :
    Calls Tryd.prog 22 #[v, .int .i64 i] w (PfEnd w (pfP (bytesL L) i) (pfE (bytesL L) i)) := by
  unfold pfP pfE
  rw [bytesL_length]
  by_cases h0 : i < 0
  · rw [if_pos (Or.inl h0), if_pos (Or.inl h0)]
    obtain ⟨p, c, rfl, -, -⟩ := hv
    clear hs hn1000
    go_enter Tryd.func22, Tryd.ntmps22
    go_wp2_with fail
    (try simp only [Exit.inBlock, Exit.then]); refine bodyPost_ret (results_two rfl _ _ _) rfl ?_
    exact ⟨_, rfl, World.ownsRow_nil _ _ _ _, Below.refl _ _⟩
  · by_cases h1 : (L.length : Int) ≤ i
    · rw [if_pos (Or.inr h1), if_pos (Or.inr h1)]
      obtain ⟨p, c, rfl, -, -⟩ := hv
      clear hs hn1000
      go_enter Tryd.func22, Tryd.ntmps22
      go_wp2_with fail
      (try simp only [Exit.inBlock, Exit.then]); refine bodyPost_ret (results_two rfl _ _ _) rfl ?_
      exact ⟨_, rfl, World.ownsRow_nil _ _ _ _, Below.refl _ _⟩
    · rw [if_neg (by omega), if_neg (by omega)]
      have := rproof_in L.length L v i.toNat w rfl hn1000 (by omega) hs hv
      rw [show ((i.toNat : Nat) : Int) = i by omega] at this
      exact this
end Go.Proofs.YtandcacobahmbaaDoor.Dg
