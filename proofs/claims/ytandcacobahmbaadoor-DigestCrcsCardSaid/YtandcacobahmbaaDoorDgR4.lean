/-
  Contracts of the reference of layer 6: given, Verify.
-/
import Derived.Test.YtandcacobahmbaaDoorDgR3
namespace Go.Proofs.YtandcacobahmbaaDoor.Dg
open Go.RowKit

set_option maxHeartbeats 2000000 in
set_option maxRecDepth 100000 in
theorem rgiven_any : ∀ (m : Nat) (l : List Nat) (v : Value) (s : ByteArray) (i n : Nat) (w : World), l.length = m → m ≤ 1000000 → i < n → n ≤ 9223372036854775807 → s.size ≤ 100000 → Nats w v l →
    Calls Tryd.prog 36 #[.string s, .int .i64 (i : Int), .int .i64 (n : Int), v] w (GvEnd (givenN s.data.toList i n l) w) := by
  intro m
  induction m with
  | zero =>
    intro l v s i n w hm _ hin hn63 hs hv
    obtain rfl : l = [] := List.eq_nil_of_length_eq_zero hm
    obtain ⟨p, c, rfl⟩ := hv.nil
    have c1 := Lib.hid (fun w => rleaf_any s w hs)
    by_cases h1 : n = 1
    · subst h1
      rw [given_one]
      clear hm hin hn63 hs hv
      go_enter Tryd.func36, Tryd.ntmps36
      go_wp2_with fail
      refine (c1.out _).mono ?_; rintro e w1 ⟨rfl, rfl⟩
      go_wp2_with fail
      (try simp only [Exit.inBlock, Exit.then]); refine bodyPost_ret (results_two rfl _ _ _) rfl ?_
      exact ⟨rfl, Below.refl _ _⟩
    · rw [given_nil _ i h1]
      have n1 : ((n : Int) == 1) = false := beq_false_of_ne (by omega)
      clear hm hin hn63 hs hv h1 c1
      go_enter Tryd.func36, Tryd.ntmps36
      go_wp2_with fail
      (try simp only [Exit.inBlock, Exit.then]); refine bodyPost_ret (results_two rfl _ _ _) rfl ?_
      exact ⟨rfl, Below.refl _ _⟩
  | succ m ih =>
    intro l v s i n w hm hm6 hin hn63 hs hv
    obtain ⟨p, x, rfl⟩ : ∃ p x, l = p ++ [x] := by
      rcases List.eq_nil_or_concat l with rfl | ⟨p, x, rfl⟩
      · simp at hm
      · exact ⟨p, x, List.concat_eq_append ..⟩
    have hp : p.length = m := by simpa using hm
    have h64 := H64_last hv.1
    obtain ⟨b, off, c, rfl, ha⟩ := hv.open (by omega)
    have hc0 := ha.cap
    rw [hm] at hc0 ⊢
    by_cases h1 : n = 1
    · subst h1
      have c1 := Lib.hid (fun w => rleaf_any s w hs)
      rw [given_one]
      have e0 : ((p ++ [x]).length == 0) = false := beq_false_of_ne (by omega)
      have n0 : (((m + 1 : Nat) : Int) == 0) = false := beq_false_of_ne (by omega)
      rw [e0]
      clear ih hm hin hn63 hs hv ha h64 hp e0
      generalize (m + 1) = M at *
      go_enter Tryd.func36, Tryd.ntmps36
      go_wp2_with fail
      refine (c1.out _).mono ?_; rintro e w1 ⟨rfl, rfl⟩
      go_wp2_with fail
      (try simp only [Exit.inBlock, Exit.then]); refine bodyPost_ret (results_two rfl _ _ _) rfl ?_
      exact ⟨rfl, Below.refl _ _⟩
    · have h2 : 2 ≤ n := by omega
      have n1 : ((n : Int) == 1) = false := beq_false_of_ne (by omega)
      have cK := Lib.hid (fun w => rleft_any n w h2 hn63)
      have hkl := left_lt h2
      have hkp := left_pos n
      have hx : w.cell? ⟨b, off + m, none⟩ = some (.int .u64 (x : Int)) := by
        rw [ha.at_ m (by omega)]
        congr 3
        simp [List.getD, hp]
      have hpa : NatAt w b off c p := by
        have := ha.take (k := m) (by omega)
        rw [List.take_append_of_le_length (Nat.le_of_eq hp.symm), ← hp, List.take_length] at this
        exact this
      have cG := Lib.hid (fun (i' n' : Nat) (h : i' < n') (h' : n' ≤ 9223372036854775807) W (hB : Below w.heap.size w W) => ih p _ s i' n' W hp (by omega) h h' hs ((hpa.below hB).nats h64.1))
      rw [hp] at cG
      have n0 : (((m : Nat) : Int) + 1 == 0) = false := beq_false_of_ne (by omega)
      have e1 : IntKind.i64.wrap (m : Int) = (m : Int) := IntWalk.i64_in _ (by omega)
      have e1' : wrap64 (m : Int) = (m : Int) := by rw [← IntWalk.i64_left]; exact e1
      have q1 : (m : Int) < (m : Int) + 1 := by omega
      have q2 : (m : Int) ≤ (c : Int) := Int.ofNat_le.2 (Nat.le_trans (Nat.le_succ m) hc0)
      have q0 : (((m + 1 : Nat) : Int)) = (m : Int) + 1 := by omega
      have hlt : m < m + 1 := Nat.lt_succ_self m
      by_cases hik : i < leftN n
      · rw [given_left _ h1 p x hik]
        have hik' : (i : Int) < (leftN n : Int) := by omega
        have cL := Lib.hid (cG.out i (leftN n) hik (by omega))
        have a1 := given_lt s.data.toList i (leftN n) p
        generalize givenN s.data.toList i (leftN n) p = G at cL a1
        obtain ⟨g, ok⟩ := G
        have cP := Lib.hid (fun w => rpair_any g x w a1 h64.2)
        generalize leftN n = k at cK cL hkl hkp hik'
        clear ih hm hin hn63 hs hv ha h64 hp hpa cG h1 h2 hik a1 hm6
        go_enter Tryd.func36, Tryd.ntmps36
        go_wp2_with fail
        refine (cK.out _).mono ?_; rintro e w1 ⟨rfl, rfl⟩
        go_wp2_with fail
        refine (cL.out _ (Below.refl _ _)).mono ?_; rintro e w4 ⟨rfl, k4⟩
        go_wp2_with fail
        refine (cP.out _).mono ?_; rintro e w5 ⟨rfl, k5⟩
        go_wp2_with fail
        (try simp only [Exit.inBlock, Exit.then]); refine bodyPost_ret (results_two rfl _ _ _) rfl ?_
        exact ⟨rfl, stepB k4 k5⟩
      · rw [given_right _ h1 p x hik]
        have hik' : ¬ (i : Int) < (leftN n : Int) := by omega
        have cL := Lib.hid (cG.out (i - leftN n) (n - leftN n) (by omega) (by omega))
        rw [show ((i - leftN n : Nat) : Int) = (i : Int) - (leftN n : Int) by omega, show ((n - leftN n : Nat) : Int) = (n : Int) - (leftN n : Int) by omega] at cL
        have a1 := given_lt s.data.toList (i - leftN n) (n - leftN n) p
        generalize givenN s.data.toList (i - leftN n) (n - leftN n) p = G at cL a1
        obtain ⟨g, ok⟩ := G
        have cP := Lib.hid (fun w => rpair_any x g w h64.2 a1)
        have e2 : IntKind.i64.wrap ((i : Int) - (leftN n : Int)) = (i : Int) - (leftN n : Int) := IntWalk.i64_in _ (by omega)
        have e3 : IntKind.i64.wrap ((n : Int) - (leftN n : Int)) = (n : Int) - (leftN n : Int) := IntWalk.i64_in _ (by omega)
        generalize leftN n = k at cK cL hkl hkp hik' e2 e3
        clear ih hm hin hn63 hs hv ha h64 hp hpa cG h1 h2 hik a1 hm6
        go_enter Tryd.func36, Tryd.ntmps36
        go_wp2_with fail
        refine (cK.out _).mono ?_; rintro e w1 ⟨rfl, rfl⟩
        go_wp2_with fail
        refine (cL.out _ (Below.refl _ _)).mono ?_; rintro e w4 ⟨rfl, k4⟩
        go_wp2_with fail
        refine (cP.out _).mono ?_; rintro e w5 ⟨rfl, k5⟩
        go_wp2_with fail
        (try simp only [Exit.inBlock, Exit.then]); refine bodyPost_ret (results_two rfl _ _ _) rfl ?_
        exact ⟨rfl, stepB k4 k5⟩
set_option maxHeartbeats 2000000 in
set_option maxRecDepth 100000 in
theorem rverify_any (root : Nat) (l : List Nat) (v : Value) (s : ByteArray) (i n : Int) (w : World) (hl : l.length ≤ 1000000) (hn63 : n ≤ 9223372036854775807) (hs : s.size ≤ 100000) (hv : Nats w v l) :
    Calls Tryd.prog 25 #[.int .u64 (root : Int), .string s, .int .i64 i, .int .i64 n, v] w fun e w' => e = .returned (.bool (verV root s.data.toList i n l)) ∧ Below w.heap.size w w' := by
  unfold verV
  by_cases h0 : i < 0
  · rw [if_pos (Or.inl h0)]
    clear hl hn63 hs hv
    go_enter Tryd.func25, Tryd.ntmps25
    go_wp2_with fail
    go_ret
    exact ⟨rfl, Below.refl _ _⟩
  · by_cases h1 : n ≤ i
    · rw [if_pos (Or.inr h1)]
      clear hl hn63 hs hv
      go_enter Tryd.func25, Tryd.ntmps25
      go_wp2_with fail
      go_ret
      exact ⟨rfl, Below.refl _ _⟩
    · rw [if_neg (by omega)]
      have cG := Lib.hid (rgiven_any l.length l v s i.toNat n.toNat w rfl hl (by omega) (by omega) hs hv)
      rw [show ((i.toNat : Nat) : Int) = i by omega, show ((n.toNat : Nat) : Int) = n by omega] at cG
      generalize givenN s.data.toList i.toNat n.toNat l = G at cG
      obtain ⟨g, ok⟩ := G
      unfold GvEnd at cG
      clear hl hn63 hs hv
      cases ok
      · go_enter Tryd.func25, Tryd.ntmps25
        go_wp2_with fail
        refine cG.out.mono ?_; rintro e w1 ⟨rfl, b1⟩
        go_wp2_with fail
        go_ret
        exact ⟨rfl, b1⟩
      · by_cases he : g = root
        · have hb : ((g : Int) == (root : Int)) = true := beq_iff_eq.2 (by omega)
          have hb2 : (g == root) = true := beq_iff_eq.2 he
          simp only [hb2, Bool.and_true]
          clear he hb2
          go_enter Tryd.func25, Tryd.ntmps25
          go_wp2_with fail
          refine cG.out.mono ?_; rintro e w1 ⟨rfl, b1⟩
          go_wp2_with fail
          go_ret
          exact ⟨rfl, b1⟩
        · have hb : ((g : Int) == (root : Int)) = false := beq_false_of_ne (by omega)
          have hb2 : (g == root) = false := beq_false_of_ne he
          simp only [hb2, Bool.and_false]
          clear he hb2
          go_enter Tryd.func25, Tryd.ntmps25
          go_wp2_with fail
          refine cG.out.mono ?_; rintro e w1 ⟨rfl, b1⟩
          go_wp2_with fail
          go_ret
          exact ⟨rfl, b1⟩
end Go.Proofs.YtandcacobahmbaaDoor.Dg
