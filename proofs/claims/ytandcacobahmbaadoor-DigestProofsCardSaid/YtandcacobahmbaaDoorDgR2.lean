/-
  Contract of the reference of layer 6: Root.
-/
import Derived.Test.YtandcacobahmbaaDoorDgRows
import Derived.Test.YtandcacobahmbaaDoorDgR1
namespace Go.Proofs.YtandcacobahmbaaDoor.Dg
open Go.RowKit

set_option maxHeartbeats 2000000 in
set_option maxRecDepth 100000 in
theorem rroot_any : ∀ (n : Nat) (L : List ByteArray) (v : Value) (w : World), L.length = n → n ≤ 1000 → Short L → Strs w v L →
    Calls Tryd.prog 20 #[v] w fun e w' => e = .returned (.int .u64 (rootN (bytesL L) : Int)) ∧ Below w.heap.size w w' := by
  intro n
  induction n using Nat.strongRecOn with
  | ind n ih =>
    intro L v w hn hn1000 hs hv
    by_cases h0 : n = 0
    · obtain rfl : L = [] := List.eq_nil_of_length_eq_zero (by omega)
      obtain ⟨p, c, rfl, -, -⟩ := hv
      have c1 := Lib.hid (fun w => rhash_any ⟨#[]⟩ w (by decide))
      have hR : Hid (fnvN (ByteArray.mk #[]).data.toList = rootN (bytesL [])) := (root_nil).symm
      rw [hR.out] at c1
      clear ih h0 hn hn1000 hs
      go_enter Tryd.func20, Tryd.ntmps20
      go_wp2_with fail
      refine (c1.out _).mono ?_; rintro e w1 ⟨rfl, rfl⟩
      go_wp2_with fail
      go_ret
      exact ⟨rfl, Below.refl _ _⟩
    · obtain ⟨b, off, c, rfl, ha⟩ := hv.open (by omega)
      by_cases h1 : n = 1
      · obtain ⟨s, rfl⟩ : ∃ s, L = [s] := by
          match L, hn with
          | [s], _ => exact ⟨s, rfl⟩
          | [], hn => simp at hn; omega
          | _ :: _ :: _, hn => simp at hn; omega
        have hc := ha.at_ 0 (Nat.lt_succ_self 0)
        rw [Nat.add_zero] at hc
        have hc : w.cell? ⟨b, off, none⟩ = some (.string s) := hc
        have c1 := Lib.hid (fun w => rleaf_any s w (hs s (List.mem_singleton.2 rfl)))
        have hR : Hid (leafN s.data.toList = rootN (bytesL [s])) := (root_one _).symm
        rw [hR.out] at c1
        clear ih h0 hn hn1000 hs ha hv h1
        go_enter Tryd.func20, Tryd.ntmps20
        go_wp2_with fail
        refine (c1.out _).mono ?_; rintro e w1 ⟨rfl, rfl⟩
        go_wp2_with fail
        go_ret
        exact ⟨rfl, Below.refl _ _⟩
      · have h2 : 2 ≤ n := by omega
        subst hn
        obtain ⟨k, hk⟩ : ∃ k, leftN L.length = k := ⟨_, rfl⟩
        have hkl := left_lt h2
        have hkp := left_pos L.length
        have cK := Lib.hid (fun w => rleft_any L.length w h2 (by omega))
        have hR := root_two (l := bytesL L) (by rw [bytesL_length]; exact h2)
        rw [bytesL_length, ← bytesL_take, ← bytesL_drop] at hR
        rw [hk] at hkl hkp cK hR
        have lt1 : (L.take k).length = k := by rw [List.length_take]; omega
        have ld1 : (L.drop k).length = L.length - k := List.length_drop
        have cL := Lib.hid (fun W (hB : Below w.heap.size w W) => ih k hkl (L.take k) _ W lt1 (by omega) (hs.take k) ((ha.below hB).take (by omega)).strs)
        have cD := Lib.hid (fun W (hB : Below w.heap.size w W) => ih (L.length - k) (by omega) (L.drop k) _ W ld1 (by omega) (hs.drop k) ((ha.below hB).drop (by omega)).strs)
        rw [lt1] at cL
        rw [ld1] at cD
        have a1 := root_lt (bytesL (L.take k))
        have a2 := root_lt (bytesL (L.drop k))
        rw [hR]
        generalize rootN (bytesL (L.take k)) = x1 at cL a1
        generalize rootN (bytesL (L.drop k)) = x2 at cD a2
        have cP := Lib.hid (fun w => rpair_any x1 x2 w a1 a2)
        have hc0 := ha.cap
        have p1 : (k : Int) ≤ (c : Int) := by omega
        have p2 : (k : Int) ≤ (L.length : Int) := by omega
        have p3 : (L.length : Int) ≤ (c : Int) := by omega
        have n0 : ((L.length : Int) == 0) = false := beq_false_of_ne (by omega)
        have n1 : ((L.length : Int) == 1) = false := beq_false_of_ne (by omega)
        have hB0 := (Below.refl w.heap.size w).drew
        generalize hNe : L.length = N at cK cL cD p2 p3 n0 n1 ⊢
        have hkN : k ≤ N := by omega
        have hNc : N ≤ c := by omega
        have hck : ¬ c = k := by omega
        clear ih h0 h1 hs ha hv hn1000 lt1 ld1 a1 a2 hk hR h2 hkl hkp hc0
        go_enter Tryd.func20, Tryd.ntmps20
        go_wp2_with fail
        refine (cK.out _).mono ?_; rintro e w1 ⟨rfl, rfl⟩
        go_wp2_with fail
        go_region_held3 (fun W => Below w.heap.size w W) (first | exact hB0 | exact B4 | exact B5 | exact B6)
          (first | (go_at_call 20; refine (cD.out _ B4).mono ?_; rintro e w5 ⟨rfl, k5⟩; have B5 := stepB B4 k5) | (go_at_call 20; refine (cL.out _ hB0).mono ?_; rintro e w4 ⟨rfl, k4⟩; have B4 := stepB hB0 k4) | (go_at_call 17; refine (cP.out _).mono ?_; rintro e w6 ⟨rfl, k6⟩; have B6 := stepB B5 k6))
        all_goals (
          go_wp2_with fail
          go_ret
          exact ⟨rfl, B6⟩)
end Go.Proofs.YtandcacobahmbaaDoor.Dg
