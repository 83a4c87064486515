/-
  Contracts of the small functions on signs and halves.
-/
import Derived.Test.YtnpgikjahfhaoaaWEq
namespace Go.Proofs.Ytnpgikjahfhaoaa
open Go.RowKit Go.Proofs.WM

/-- A call returns v, and leaves what was there as it was. -/
def Gives (v : Value) (w : World) (e : Ending) (w' : World) : Prop := e = .returned v ∧ Below w.heap.size w w'

theorem signed_any (neg : Bool) (n : Nat) (w : World) (hn : n < M256) :
    Calls Try.prog 39 #[.bool neg, .agg (magL n)] w (Gives (.agg (widL (sg neg n) n)) w) := by
  cases neg
  · have hs := Lib.hid (sg_false n)
    clear hn
    unfold magL
    go_enter Try.func39, Try.ntmps39
    go_wp2
    go_region
    all_goals go_wp2
    exact bodyPost_ret (v := .agg (widL (sg false n) n)) (by simp [results, Try.results39, go_sem, hs.out]) rfl ⟨rfl, (((Below.refl _ _).alloc (Nat.le_refl _) _).alloc (by simp) _).drew⟩
  · have hs := Lib.hid (show (!(n == 0)) = sg true n by simp [sg, bne])
    have he := eq_mag0 n hn
    clear hn
    unfold magL at *
    unfold mag0 at *
    go_enter Try.func39, Try.ntmps39
    go_wp2
    go_region
    all_goals go_wp2
    exact bodyPost_ret (v := .agg (widL (sg true n) n)) (by simp [results, Try.results39, go_sem, ← hs.out]) rfl ⟨rfl, (((Below.refl _ _).alloc (Nat.le_refl _) _).alloc (by simp) _).drew⟩

theorem zero_any (n : Nat) (w : World) (hn : n < M256) :
    Calls Try.prog 40 #[.agg (halL n)] w (Gives (.bool (n == 0)) w) := by
  obtain ⟨xs, hx⟩ : ∃ xs, xs = halL n := ⟨_, rfl⟩
  rw [← hx]
  have HX := Lib.hid (hx.trans (rowF8 n).symm)
  have HN := Lib.hid hn
  clear hx hn
  go_enter Try.func40, Try.ntmps40
  go_wp2
  go_loop [3] (fun i => ∃ k : Nat, k ≤ 8 ∧ i = .int .i64 k ∧ Hid (∀ j, j < k → hw n j = 0)) (fun i => 8 - (intOf i).toNat)
  case atStart => exact ⟨0, by omega, rfl, fun _ h => absurd h (Nat.not_lt_zero _)⟩
  case round =>
    obtain ⟨k, hk, rfl, hz⟩ := hrel
    by_cases hlt : k < 8
    · have hc : xs[k]? = some (.int .u64 ((hw n k : Nat) : Int)) := by rw [HX.out]; exact rowF_at _ hlt
      by_cases h0 : hw n k = 0
      · have HZ := Lib.hid (show ∀ j, j < k + 1 → hw n j = 0 from fun j hj => by
          by_cases e : j = k
          · rw [e]; exact h0
          · exact hz.out j (by omega))
        rw [h0] at hc
        clear h0
        go_wp2
        go_round
        case rel => exact ⟨k + 1, by omega, by go_num, HZ⟩
        case measure => simp [intOf]; omega
      · have hb : (((hw n k : Nat) : Int) == 0) = false := by simpa using h0
        have E := Lib.hid (show (n == 0) = false by
          rw [beq_eq_false_iff_ne]
          intro e
          rw [e, hw_zero] at h0
          exact h0 rfl)
        clear h0
        go_wp2
        go_ret
        exact ⟨by rw [E.out]; rfl, (Below.refl _ _).alloc (Nat.le_refl _) _⟩
    · have E := Lib.hid (show (n == 0) = true by
        rw [beq_iff_eq]
        exact eq_of_hw HN.out m_pos fun i hi => by rw [hw_zero]; exact hz.out i (by omega))
      go_wp2
      go_ret
      exact ⟨by rw [E.out]; rfl, (Below.refl _ _).alloc (Nat.le_refl _) _⟩
end Go.Proofs.Ytnpgikjahfhaoaa
