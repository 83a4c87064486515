/-
  Contract of the program's readHead of layer 5.
-/
import Derived.Test.YtglhbjfogbcddaaCbP2
import Derived.Laws.Rows
import Derived.Laws.ResultCell
namespace Go.Proofs.Ytglhbjfogbcddaa.Cb
open Go.RowKit

theorem beL_valB : ∀ (n : Nat) (l : List UInt8), l.length = n → beL (valB l) n = l
  | 0, l, h => by rw [List.eq_nil_of_length_eq_zero h]; rfl
  | n + 1, l, h => by
    rcases List.eq_nil_or_concat l with rfl | ⟨l', c, rfl⟩
    · simp at h
    · rw [List.concat_eq_append] at h ⊢
      have hl : l'.length = n := by simpa using h
      have hc := c.toNat_lt
      rw [beL, valB_snoc, show (256 * valB l' + c.toNat) / 256 = valB l' by omega, beL_valB n l' hl, show (256 * valB l' + c.toNat) % 256 = c.toNat by omega, UInt8.ofNat_toNat]
/-- The head, as the program asks for it. -/
def hdF (one two : Nat) : List UInt8 → Nat × Nat × Nat × Int
  | [] => (0, 0, 0, 3)
  | c :: r =>
    if c.toNat / 32 < one ∨ two < c.toNat / 32 ∨ 27 < c.toNat % 32 then (0, 0, 0, 5)
    else if r.length < folN (c.toNat % 32) then (0, 0, 0, 3)
    else if lowOf (argV (c.toNat % 32) (r.take (folN (c.toNat % 32)))) ≠ c.toNat % 32 then (0, 0, 0, 5)
    else (c.toNat / 32, argV (c.toNat % 32) (r.take (folN (c.toNat % 32))), 1 + folN (c.toNat % 32), 0)
theorem hd_arg (one two : Nat) (h : one ≤ two) (h2 : two ≤ one + 1) (l : List UInt8) : hdF one two l = argF one two l := by
  cases l with
  | nil => rfl
  | cons c r =>
    rw [hdF, argF]
    have hc := c.toNat_lt
    by_cases hb : c.toNat / 32 < one ∨ two < c.toNat / 32 ∨ 27 < c.toNat % 32
    · rw [if_pos hb, if_pos (by omega)]
    · rw [if_neg hb, if_neg (show ¬ ((c.toNat / 32 ≠ one ∧ c.toNat / 32 ≠ two) ∨ 27 < c.toNat % 32) by omega)]
      by_cases h24 : c.toNat % 32 < 24
      · have hf : folN (c.toNat % 32) = 0 := if_pos h24
        have hv : argV (c.toNat % 32) (r.take 0) = c.toNat % 32 := if_pos rfl
        rw [if_pos h24, hf, if_neg (Nat.not_lt_zero _), hv, if_neg (by rw [(nOf_small _ h24).1]; simp)]
      · have hf : folN (c.toNat % 32) = 2 ^ (c.toNat % 32 - 24) := if_neg h24
        rw [if_neg h24, hf]
        have hp : 0 < 2 ^ (c.toNat % 32 - 24) := Nat.two_pow_pos _
        by_cases hr : r.length < 2 ^ (c.toNat % 32 - 24)
        · rw [if_pos hr, if_pos hr]
        · rw [if_neg hr, if_neg hr]
          have hl : (r.take (2 ^ (c.toNat % 32 - 24))).length = 2 ^ (c.toNat % 32 - 24) := by rw [List.length_take]; omega
          have hv : argV (c.toNat % 32) (r.take (2 ^ (c.toNat % 32 - 24))) = valB (r.take (2 ^ (c.toNat % 32 - 24))) := by
            unfold argV
            rw [if_neg (fun e => by rw [e] at hl; simp at hl; omega)]
          rw [hv]
          by_cases hlow : lowOf (valB (r.take (2 ^ (c.toNat % 32 - 24)))) = c.toNat % 32
          · have hn : nOf (valB (r.take (2 ^ (c.toNat % 32 - 24)))) = 2 ^ (c.toNat % 32 - 24) := by rw [← folN_low, hlow, hf]
            rw [if_neg (show ¬ _ ≠ _ from fun h => h hlow), if_neg]
            intro hne
            apply hne
            unfold headL
            rw [hlow, hn, beL_valB _ _ hl, show 32 * (c.toNat / 32) + c.toNat % 32 = c.toNat by omega, UInt8.ofNat_toNat]
          · rw [if_pos hlow, if_pos]
            intro he
            unfold headL at he
            rw [List.cons.injEq] at he
            have h1 := congrArg UInt8.toNat he.1
            have := lowOf_le (valB (r.take (2 ^ (c.toNat % 32 - 24))))
            rw [first_toNat (by omega)] at h1
            omega
theorem argV_lt {L : Nat} {l : List UInt8} (hL : L ≤ 27) (h : l.length ≤ 8) : argV L l < 18446744073709551616 := by
  unfold argV
  split
  · omega
  · exact Nat.lt_of_lt_of_le (valB_lt l) (Nat.pow_le_pow_right (n := 256) (by decide) h)
/-- A head that was read, as a value, and the error. -/
def HdEnd (h : Nat × Nat × Nat × Int) (w : World) (e : Ending) (w' : World) : Prop :=
  e = .returned (.tuple #[.agg #[.int .u8 (h.1 : Int), .int .u64 (h.2.1 : Int), .int .i64 (h.2.2.1 : Int)], .int .i64 h.2.2.2]) ∧ Below w.heap.size w w'

/-- The block of the result, made anew, behind drawing. -/
theorem below_made (w : World) (o : Obj) (n : Nat) : Below w.heap.size w ((w.alloc o).drewN n) := below_drew' ((Below.refl _ w).alloc (Nat.le_refl _) o) n
theorem made_at (w : World) (o : Obj) (n : Nat) : ((w.alloc o).drewN n).heap[w.heap.size]? = some o := heap_alloc_new w o
theorem info_head : (Try.prog.info? 77).map (·.size) = some 3 := by kernel_rfl
abbrev hdL (k v n : Nat) : Array Value := #[.int .u8 (k : Int), .int .u64 (v : Int), .int .i64 (n : Int)]
theorem hd_ret {a : Act} {w W : World} (g k v n : Nat) (x : Int) (hp : a.tmps.getD 6 undef = .pointer (some ⟨g, 0, none⟩)) (hv : a.tmps.getD 7 undef = .int .i64 x)
    (hg : W.heap[g]? = some (.cells (hdL k v n) 77 (0, 0))) (hB : Below w.heap.size w W) (hdf : a.defers = []) {h : Nat × Nat × Nat × Int} (hh : h = (k, v, n, x)) :
    bodyPost Try.prog Try.f51 (HdEnd h w) .ret a W := by
  refine bodyPost_ret (v := .tuple #[.agg (hdL k v n), .int .i64 x]) ?_ hdf ⟨by rw [hh], hB⟩
  have hl := run_loadVar_row (P := Try.prog) W g 77 77 (hdL k v n) (0, 0) _ hg Try.underlying77 rfl info_head
  rw [results_cell_tmp rfl]
  simp only [hp, hv, asAddr, Sem.run_pure, Result.andThen, hl]
/-- The same, behind a store into the block. -/
theorem hd_ret3 {a : Act} {w W : World} (g k v n k0 v0 n0 : Nat) (x : Int) (hp : a.tmps.getD 6 undef = .pointer (some ⟨g, 0, none⟩)) (hv : a.tmps.getD 7 undef = .int .i64 x)
    (hg : W.heap[g]? = some (.cells (hdL k0 v0 n0) 77 (0, 0))) (hb : w.heap.size ≤ g) (hB : Below w.heap.size w W) (hdf : a.defers = []) {h : Nat × Nat × Nat × Int} (hh : h = (k, v, n, x)) :
    bodyPost Try.prog Try.f51 (HdEnd h w) .ret a (((W.setCell ⟨g, 0, none⟩ (.int .u8 (k : Int))).setCell ⟨g, 1, none⟩ (.int .u64 (v : Int))).setCell ⟨g, 2, none⟩ (.int .i64 (n : Int))) := by
  refine hd_ret g k v n x hp hv ?_ (((hB.setCell (p := ⟨g, 0, none⟩) hb _).setCell (p := ⟨g, 1, none⟩) hb _).setCell (p := ⟨g, 2, none⟩) hb _) hdf hh
  simp [World.setCell, Array.getElem?_modify, hg]
set_option maxHeartbeats 1000000 in
set_option maxRecDepth 100000 in
theorem phead_any (one two : Nat) (s : ByteArray) (w : World) (h1 : one ≤ two) (h2 : two ≤ one + 1) (hs : s.size ≤ 100000) :
    Calls Try.prog 51 #[.string s, .int .u8 (one : Int), .int .u8 (two : Int)] w (HdEnd (argF one two s.data.toList) w) := by
  rw [← hd_arg one two h1 h2]
  have hlen : s.data.toList.length = s.size := (Lib.size_eq s).symm
  by_cases h0 : s.size = 0
  · have hss : s = ⟨#[]⟩ := by
      have : s.data.toList = [] := List.eq_nil_of_length_eq_zero (by omega)
      rw [← toS_data s, this]; rfl
    subst hss
    show Calls Try.prog 51 _ w (HdEnd (0, 0, 0, 3) w)
    clear h0 hs hlen
    go_enter Try.func51, Try.ntmps51
    go_wp2_with fail
    exact hd_ret w.heap.size 0 0 0 3 rfl rfl (heap_alloc_new w _) ((Below.refl _ w).alloc (Nat.le_refl _) _) rfl rfl
  · obtain ⟨c, r, hcr⟩ : ∃ c r, s.data.toList = c :: r := by
      cases h : s.data.toList with
      | nil => rw [h] at hlen; simp at hlen; omega
      | cons c r => exact ⟨c, r, rfl⟩
    have hrl : r.length = s.size - 1 := by rw [← hlen, hcr, List.length_cons]; omega
    have hn : s.toList.isEmpty = false := by rw [Lib.toList_data, hcr]; rfl
    rw [hcr, hdF]
    have hc0 : 0 < s.size := by omega
    have hc0' : (0 : Int) < (s.size : Int) := by omega
    have hs0 : s[0].toNat = c.toNat := by
      have : s.data.toList[0]? = some c := by rw [hcr]; rfl
      have h2 : s.data.toList[0]? = some s[0] := by rw [List.getElem?_eq_getElem (by rw [hlen]; exact hc0)]; rfl
      rw [h2] at this
      simp only [Option.some.injEq] at this
      rw [this]
    have hc256 := c.toNat_lt
    obtain ⟨C, hC⟩ : ∃ C, c.toNat = C := ⟨_, rfl⟩
    rw [hC] at hs0 hc256 ⊢
    obtain ⟨K, hK⟩ : ∃ K, C / 32 = K := ⟨_, rfl⟩
    obtain ⟨L, hL⟩ : ∃ L, C % 32 = L := ⟨_, rfl⟩
    have eK : (C : Int) / 32 = (K : Int) := by omega
    have eL : bits .and .u8 (C : Int) 31 = (L : Int) := by rw [and_low5 _ (by omega) (by omega)]; omega
    rw [hK, hL]
    have hL31 : L ≤ 31 := by omega
    have hK7 : K ≤ 7 := by omega
    clear hK hL hc256
    by_cases hbad : K < one ∨ two < K ∨ 27 < L
    · rw [if_pos hbad]
      clear hcr hrl h1 h2 hs hlen h0
      by_cases b1 : (K : Int) < (one : Int)
      · clear hbad
        go_enter Try.func51, Try.ntmps51
        go_wp2_with fail
        go_quiet (fail)
        go_wp2_with fail
        exact hd_ret3 w.heap.size 0 0 0 0 0 0 5 rfl rfl (made_at w _ nq) (Nat.le_refl _) (below_made w _ nq) rfl rfl
      · by_cases b2 : (two : Int) < (K : Int)
        · clear hbad
          go_enter Try.func51, Try.ntmps51
          go_wp2_with fail
          go_quiet (fail)
          go_wp2_with fail
          exact hd_ret3 w.heap.size 0 0 0 0 0 0 5 rfl rfl (made_at w _ nq) (Nat.le_refl _) (below_made w _ nq) rfl rfl
        · have b3 : (27 : Int) < (L : Int) := by omega
          clear hbad
          go_enter Try.func51, Try.ntmps51
          go_wp2_with fail
          go_quiet (fail)
          go_wp2_with fail
          exact hd_ret3 w.heap.size 0 0 0 0 0 0 5 rfl rfl (made_at w _ nq) (Nat.le_refl _) (below_made w _ nq) rfl rfl
    · rw [if_neg hbad]
      have b1 : ¬ (K : Int) < (one : Int) := by omega
      have b2 : ¬ (two : Int) < (K : Int) := by omega
      have b3 : ¬ (27 : Int) < (L : Int) := by omega
      have hL27 : L ≤ 27 := by omega
      have cF := Lib.hid (fun w => pfollowing_any L w hL27)
      have hf8 := folN_le hL27
      clear hbad
      have hw1 : IntKind.i64.wrap (1 + (folN L : Int)) = 1 + (folN L : Int) := IntWalk.i64_in _ (by omega)
      by_cases hsh : r.length < folN L
      · rw [if_pos hsh]
        have hsh' : (s.size : Int) < 1 + (folN L : Int) := by omega
        clear hsh hcr hrl h1 h2 hs hlen h0
        go_enter Try.func51, Try.ntmps51
        go_wp2_with fail
        go_quiet (fail)
        go_wp2_with fail
        refine (cF.out _).mono ?_; rintro e w1 ⟨rfl, rfl⟩
        go_wp2_with fail
        exact hd_ret3 w.heap.size 0 0 0 0 0 0 3 rfl rfl (made_at w _ nq) (Nat.le_refl _) (below_made w _ nq) rfl rfl
      · rw [if_neg hsh]
        have hsh' : ¬ (s.size : Int) < 1 + (folN L : Int) := by omega
        obtain ⟨X, hX⟩ : ∃ X, s.extract 1 (1 + folN L) = X := ⟨_, rfl⟩
        have hXl : X.data.toList = r.take (folN L) := by
          rw [← hX, Lib.extract_data, hcr, show 1 + folN L - 1 = folN L by omega]; rfl
        have hXs : X.size ≤ 8 := by rw [Lib.size_eq, hXl, List.length_take]; omega
        have cA := Lib.hid (fun w => pargument_any L X w hL31 hXs)
        have hV := argV_lt (L := L) (l := r.take (folN L)) hL27 (by rw [List.length_take]; omega)
        rw [hXl] at cA
        obtain ⟨V, hVe⟩ : ∃ V, argV L (r.take (folN L)) = V := ⟨_, rfl⟩
        rw [hVe] at cA hV ⊢
        have cS := Lib.hid (fun w => pshortest_any V w hV)
        have p1 : (0 : Int) ≤ 1 + (folN L : Int) := by omega
        have p2 : 1 + (folN L : Int) ≤ (s.size : Int) := by omega
        have p3 : (1 + (folN L : Int)).toNat = 1 + folN L := by omega
        have p4 : (1 : Int) ≤ 1 + (folN L : Int) := by omega
        by_cases hlow : lowOf V = L
        · rw [if_neg (fun h => h hlow)]
          rw [hlow] at cS
          have p5 : ((L : Int) != (L : Int)) = false := by simp
          clear hsh hcr hrl h1 h2 hs hlen h0 hXl hXs hV hVe hlow hL31 hK7
          go_enter Try.func51, Try.ntmps51
          go_wp2_with fail
          go_quiet (fail)
          go_wp2_with fail
          refine (cF.out _).mono ?_; rintro e w1 ⟨rfl, rfl⟩
          go_wp2_with fail
          refine (cA.out _).mono ?_; rintro e w1 ⟨rfl, rfl⟩
          go_wp2_with fail
          refine (cS.out _).mono ?_; rintro e w1 ⟨rfl, rfl⟩
          go_wp2_with fail
          exact hd_ret3 w.heap.size K V (1 + folN L) 0 0 0 0 rfl rfl (made_at w _ nq) (Nat.le_refl _) (below_made w _ nq) rfl rfl
        · rw [if_pos hlow]
          have p5 : ((lowOf V : Int) != (L : Int)) = true := bne_iff_ne.2 (by omega)
          clear hsh hcr hrl h1 h2 hs hlen h0 hXl hXs hV hVe hlow hL31 hK7
          go_enter Try.func51, Try.ntmps51
          go_wp2_with fail
          go_quiet (fail)
          go_wp2_with fail
          refine (cF.out _).mono ?_; rintro e w1 ⟨rfl, rfl⟩
          go_wp2_with fail
          refine (cA.out _).mono ?_; rintro e w1 ⟨rfl, rfl⟩
          go_wp2_with fail
          refine (cS.out _).mono ?_; rintro e w1 ⟨rfl, rfl⟩
          go_wp2_with fail
          exact hd_ret3 w.heap.size 0 0 0 0 0 0 5 rfl rfl (made_at w _ nq) (Nat.le_refl _) (below_made w _ nq) rfl rfl
end Go.Proofs.Ytglhbjfogbcddaa.Cb
