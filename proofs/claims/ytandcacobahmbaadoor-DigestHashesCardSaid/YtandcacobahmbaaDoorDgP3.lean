/-
  Contracts of the program of layer 6: pathOf, Proof.
-/
import Derived.Test.YtandcacobahmbaaDoorDgP2
import Derived.Deep.AppendLies
import Derived.Deep.Onto
namespace Go.Proofs.YtandcacobahmbaaDoor.Dg
open Go.RowKit

/-- A path of the call's own. -/
def OwnEnd (w : World) (p : List Nat) (e : Ending) (w' : World) : Prop := ∃ v, e = .returned v ∧ w'.ownsRow w.heap.size 26 1 v p.length (natC p) ∧ Below w.heap.size w w'
theorem news_one (W : World) (R : Nat) : ∀ j u, ([.int .u64 (R : Int)] : List Value)[j]? = some u → (W.alloc (.cells #[.int .u64 (R : Int)] 26)).cell? ((⟨W.heap.size, 0, none⟩ : Addr).add j) = some u :=
  World.news_of_block (cs := #[.int .u64 (R : Int)]) (t := 26) (fr := (0, 0)) (heap_alloc_new W _)
theorem one_cell (R : Nat) : ∀ u ∈ ([.int .u64 (R : Int)] : List Value), u.oneCell' = true := fun u hu => by simp at hu; subst hu; rfl
theorem own_snoc {w : World} {B : Nat} {v : Value} {P : List Nat} {R : Nat} (h : w.ownsRow B 26 1 v (P.length + 1) (natC P ++ [.int .u64 (R : Int)])) : w.ownsRow B 26 1 v (P ++ [R]).length (natC (P ++ [R])) := by
  rw [List.length_append, natC_snoc]; exact h
theorem len_in {n : Nat} (h : n ≤ 1000) : n + 1 ≤ maxLen ∧ (n + 1) * 8 ≤ 140737488355328 := ⟨by unfold maxLen; omega, by omega⟩

set_option maxHeartbeats 4000000 in
set_option maxRecDepth 100000 in
theorem ppath_any : ∀ (n : Nat) (L : List ByteArray) (v : Value) (i : Nat) (w : World), L.length = n → n ≤ 1000 → i < n → Short L → Strs w v L →
    Calls Tryd.prog 34 #[v, .int .i64 (i : Int)] w (OwnEnd w (pathN (bytesL L) i)) := by
  intro n
  induction n using Nat.strongRecOn with
  | ind n ih =>
    intro L v i w hn hn1000 hi hs hv
    obtain ⟨b, off, c, rfl, ha⟩ := hv.open (by omega)
    have i1 : (i : Int) < (L.length : Int) := by omega
    by_cases h1 : n = 1
    · have hP : Hid (pathN (bytesL L) i = []) := path_one (by rw [bytesL_length]; omega) i
      rw [hP.out]
      have n1 : ((L.length : Int) == 1) = true := beq_iff_eq.2 (by omega)
      clear ih hn hn1000 hs ha hv h1 hi hP
      go_enter Tryd.func34, Tryd.ntmps34
      go_wp2_with fail
      go_ret
      exact ⟨_, rfl, World.ownsRow_nil _ _ _ _, Below.refl _ _⟩
    · have h2 : 2 ≤ n := by omega
      subst hn
      obtain ⟨i0, hi0, hz0, hz1, hz2⟩ := info_parts info_u64
      obtain ⟨k, hk⟩ : ∃ k, leftN L.length = k := ⟨_, rfl⟩
      have hkl := left_lt h2
      have hkp := left_pos L.length
      have cK := Lib.hid (fun w => pleft_any L.length w h2 (by omega))
      have hl1 : 2 ≤ (bytesL L).length := by rw [bytesL_length]; exact h2
      have hc0 := ha.cap
      have lt1 : (L.take k).length = k := by rw [List.length_take]; omega
      have ld1 : (L.drop k).length = L.length - k := List.length_drop
      have p1 : (k : Int) ≤ (c : Int) := by omega
      have p2 : (k : Int) ≤ (L.length : Int) := by omega
      have p3 : (L.length : Int) ≤ (c : Int) := by omega
      have n1 : ((L.length : Int) == 1) = false := beq_false_of_ne (by omega)
      have hck : ¬ c = k := by omega
      have hpl := path_deep L.length (bytesL L) i (bytesL_length L)
      have hB0 := (Below.refl w.heap.size w).drew
      by_cases hik : i < k
      · have hP := path_left hl1 (i := i) (by rw [bytesL_length, hk]; exact hik)
        rw [bytesL_length, ← bytesL_take, ← bytesL_drop, hk] at hP
        rw [hk] at hkl hkp cK
        have i2 : (i : Int) < (k : Int) := by omega
        have cL := Lib.hid (fun W (hB : Below w.heap.size w W) => (ih k hkl (L.take k) _ i W lt1 (by omega) hik (hs.take k) ((ha.below hB).take (by omega)).strs).mono (fun e w' h => (show ∃ v, e = .returned v ∧ w'.ownsRow w.heap.size 26 1 v _ _ ∧ Below W.heap.size W w' from h.imp fun v h => ⟨h.1, h.2.1.mono hB.size, h.2.2⟩)))
        have cD := Lib.hid (fun W (hB : Below w.heap.size w W) => proot_any (L.length - k) (L.drop k) _ W ld1 (by omega) (hs.drop k) ((ha.below hB).drop (by omega)).strs)
        rw [lt1] at cL
        rw [ld1] at cD
        have hq : (pathN (bytesL (L.take k)) i).length ≤ 1000 := by
          have := deep_le k i
          rw [path_deep k _ i (by rw [bytesL_length]; exact lt1)]; omega
        rw [hP]
        generalize pathN (bytesL (L.take k)) i = P at cL hq
        generalize rootN (bytesL (L.drop k)) = R at cD
        have hql := len_in hq
        generalize hNe : L.length = N at cK cL cD n1 i1 p2 p3 hc0 hkl ⊢
        have hkN : k ≤ N := by omega
        clear ih hs ha hv hn1000 lt1 ld1 hk h2 hl1 hP hpl hi h1
        go_enter Tryd.func34, Tryd.ntmps34
        go_wp2_with fail
        refine (cK.out _).mono ?_; rintro e w1 ⟨rfl, rfl⟩
        go_wp2_with fail
        go_region_held3 (fun W => Below w.heap.size w W) (first | exact B6 | exact B5.alloc B5.size _ | exact B5 | exact B4 | exact hB0)
          (first
            | (refine step_append_lies _ (by rfl) _ _ 33 (by rfl) w.heap.size 26 i0 (.int .u64 0) 1 8 Tryd.underlying33 hi0 hz0 hz1 hz2 rfl (by decide) _ _ _ (by rfl) (own5.out.alloc _) ⟨w5.heap.size, 0, none⟩ 1 1 [.int .u64 (R : Int)] (by rfl) (by rfl) (news_one w5 R) (one_cell R) (by decide) hql.1 hql.2 (B5.alloc B5.size _).size (w5.heap.size + 1) (by simp) ?_; intro g6 c6 w6 own6 hgrow _ _; have B6 : Below w.heap.size w w6 := (B5.alloc B5.size _).grown hgrow (B5.alloc B5.size _).size (fun j hj => (own5.out.lt j hj).1))
            | (go_at_call 19; refine (cD.out _ B4).mono ?_; rintro e w5 ⟨rfl, k5⟩; have B5 := stepB B4 k5; have own5 := Lib.hid (own_below own4.out k5))
            | (go_at_call 34; refine (cL.out _ hB0).mono ?_; rintro e w4 ⟨v4, rfl, own4, k4⟩; have B4 := stepB hB0 k4; have own4 := Lib.hid own4))
        all_goals (
          have hf := Lib.hid (own_snoc own6)
          go_wp2_with fail
          go_ret
          exact ⟨_, rfl, hf.out, B6⟩)
      · have hP := path_right hl1 (i := i) (by rw [bytesL_length, hk]; exact hik)
        rw [bytesL_length, ← bytesL_take, ← bytesL_drop, hk] at hP
        rw [hk] at hkl hkp cK
        have i2 : ¬ (i : Int) < (k : Int) := by omega
        have cL := Lib.hid (fun W (hB : Below w.heap.size w W) => proot_any k (L.take k) _ W lt1 (by omega) (hs.take k) ((ha.below hB).take (by omega)).strs)
        have cD := Lib.hid (fun W (hB : Below w.heap.size w W) => (ih (L.length - k) (by omega) (L.drop k) _ (i - k) W ld1 (by omega) (by omega) (hs.drop k) ((ha.below hB).drop (by omega)).strs).mono (fun e w' h => (show ∃ v, e = .returned v ∧ w'.ownsRow w.heap.size 26 1 v _ _ ∧ Below W.heap.size W w' from h.imp fun v h => ⟨h.1, h.2.1.mono hB.size, h.2.2⟩)))
        rw [lt1] at cL
        rw [ld1, show ((i - k : Nat) : Int) = (i : Int) - (k : Int) by omega] at cD
        have hq : (pathN (bytesL (L.drop k)) (i - k)).length ≤ 1000 := by
          have := deep_le (L.length - k) (i - k)
          rw [path_deep (L.length - k) _ (i - k) (by rw [bytesL_length]; exact ld1)]; omega
        have e1 : IntKind.i64.wrap ((i : Int) - (k : Int)) = (i : Int) - (k : Int) := IntWalk.i64_in _ (by omega)
        rw [hP]
        generalize pathN (bytesL (L.drop k)) (i - k) = P at cD hq
        generalize rootN (bytesL (L.take k)) = R at cL
        have hql := len_in hq
        generalize hNe : L.length = N at cK cL cD n1 i1 p2 p3 hc0 hkl ⊢
        have hkN : k ≤ N := by omega
        clear ih hs ha hv hn1000 lt1 ld1 hk h2 hl1 hP hpl hi h1
        go_enter Tryd.func34, Tryd.ntmps34
        go_wp2_with fail
        refine (cK.out _).mono ?_; rintro e w1 ⟨rfl, rfl⟩
        go_wp2_with fail
        go_region_held3 (fun W => Below w.heap.size w W) (first | exact B6 | exact B5.alloc B5.size _ | exact B5 | exact B4 | exact hB0)
          (first
            | (refine step_append_lies _ (by rfl) _ _ 33 (by rfl) w.heap.size 26 i0 (.int .u64 0) 1 8 Tryd.underlying33 hi0 hz0 hz1 hz2 rfl (by decide) _ _ _ (by rfl) (own5.out.alloc _) ⟨w5.heap.size, 0, none⟩ 1 1 [.int .u64 (R : Int)] (by rfl) (by rfl) (news_one w5 R) (one_cell R) (by decide) hql.1 hql.2 (B5.alloc B5.size _).size (w5.heap.size + 1) (by simp) ?_; intro g6 c6 w6 own6 hgrow _ _; have B6 : Below w.heap.size w w6 := (B5.alloc B5.size _).grown hgrow (B5.alloc B5.size _).size (fun j hj => (own5.out.lt j hj).1))
            | (go_at_call 19; refine (cL.out _ B4).mono ?_; rintro e w5 ⟨rfl, k5⟩; have B5 := stepB B4 k5; have own5 := Lib.hid (own_below own4.out k5))
            | (go_at_call 34; refine (cD.out _ hB0).mono ?_; rintro e w4 ⟨v4, rfl, own4, k4⟩; have B4 := stepB hB0 k4; have own4 := Lib.hid own4))
        all_goals (
          have hf := Lib.hid (own_snoc own6)
          go_wp2_with fail
          go_ret
          exact ⟨_, rfl, hf.out, B6⟩)
set_option maxHeartbeats 2000000 in
set_option maxRecDepth 100000 in
theorem pproof_any (L : List ByteArray) (v : Value) (i : Int) (w : World) (hn1000 : L.length ≤ 1000) (hs : Short L) (hv : Strs w v L) :
    Calls Tryd.prog 21 #[v, .int .i64 i] w (PfEnd w (pfP (bytesL L) i) (pfE (bytesL L) i)) := by
  unfold pfP pfE
  rw [bytesL_length]
  by_cases h0 : i < 0
  · rw [if_pos (Or.inl h0), if_pos (Or.inl h0)]
    obtain ⟨p, c, rfl, -, -⟩ := hv
    clear hs hn1000
    go_enter Tryd.func21, Tryd.ntmps21
    go_wp2_with fail
    (try simp only [Exit.inBlock, Exit.then]); refine bodyPost_ret (results_two rfl _ _ _) rfl ?_
    exact ⟨_, rfl, World.ownsRow_nil _ _ _ _, Below.refl _ _⟩
  · by_cases h1 : (L.length : Int) ≤ i
    · rw [if_pos (Or.inr h1), if_pos (Or.inr h1)]
      obtain ⟨p, c, rfl, -, -⟩ := hv
      clear hs hn1000
      go_enter Tryd.func21, Tryd.ntmps21
      go_wp2_with fail
      (try simp only [Exit.inBlock, Exit.then]); refine bodyPost_ret (results_two rfl _ _ _) rfl ?_
      exact ⟨_, rfl, World.ownsRow_nil _ _ _ _, Below.refl _ _⟩
    · rw [if_neg (by omega), if_neg (by omega)]
      have c1 := Lib.hid (ppath_any L.length L v i.toNat w rfl hn1000 (by omega) hs hv)
      rw [show ((i.toNat : Nat) : Int) = i by omega] at c1
      obtain ⟨p, c, rfl, -, -⟩ := hv
      clear hs hn1000
      generalize pathN (bytesL L) i.toNat = P at c1
      go_enter Tryd.func21, Tryd.ntmps21
      go_wp2_with fail
      refine c1.out.mono ?_; rintro e w1 ⟨v1, rfl, own1, b1⟩
      go_wp2_with fail
      (try simp only [Exit.inBlock, Exit.then]); refine bodyPost_ret (results_two rfl _ _ _) rfl ?_
      exact ⟨_, rfl, own1, b1⟩
end Go.Proofs.YtandcacobahmbaaDoor.Dg
