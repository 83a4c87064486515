/-
  Contracts of the program's readInt, readCount, readText, readBool of layer 5.
-/
import Derived.Test.YtglhbjfogbcddaaCbP3
namespace Go.Proofs.Ytglhbjfogbcddaa.Cb
open Go.RowKit

/-- Three results. -/
def Thr (v : Value) (n : Nat) (x : Int) (w : World) (e : Ending) (w' : World) : Prop := e = .returned (.tuple #[v, .int .i64 (n : Int), .int .i64 x]) ∧ Below w.heap.size w w'
theorem results_tmp3 {fn : Func} {t u v : Tmp} (h : fn.results = #[.tmp t, .tmp u, .tmp v]) (tmps : Array Value) (P : Program) (w : World) :
    (results fn tmps).run P w = .ok (.tuple #[tmps.getD t undef, tmps.getD u undef, tmps.getD v undef]) w := by
  simp [results, h]
theorem int_x {low high : Int} {l : List UInt8} {k v n : Nat} {x : Int} (ha : argF 0 1 l = (k, v, n, x)) (h : x ≠ 0) : intF low high l = (0, 0, x) := by unfold intF; rw [ha, if_pos h]

set_option maxHeartbeats 1000000 in
set_option maxRecDepth 100000 in
theorem preadInt_any (s : ByteArray) (low high : Int) (w : World) (hs : s.size ≤ 100000) :
    Calls Try.prog 40 #[.string s, .int .i64 low, .int .i64 high] w (Thr (.int .i64 (intF low high s.data.toList).1) (intF low high s.data.toList).2.1 (intF low high s.data.toList).2.2 w) := by
  have cA := Lib.hid (fun w => phead_any 0 1 s w (by decide) (by decide) hs)
  have hlen : s.data.toList.length = s.size := (Lib.size_eq s).symm
  obtain ⟨l, hl⟩ : ∃ l, s.data.toList = l := ⟨_, rfl⟩
  rw [hl] at cA hlen ⊢
  obtain ⟨k, v, n, x, ha⟩ : ∃ k v n x, argF 0 1 l = (k, v, n, x) := ⟨_, _, _, _, rfl⟩
  unfold HdEnd at cA
  rw [ha] at cA
  by_cases hx : x = 0
  · subst hx
    have hok := arg_ok ha
    have hv64 := hok.2.2.2.2
    have hk : k = 0 ∨ k = 1 := hok.1
    clear hok hlen hl
    by_cases h63 : 9223372036854775808 ≤ v
    · have hI := Lib.hid (show intF low high l = (0, 0, 5) by unfold intF; rw [ha, if_neg (by simp), if_pos h63])
      rw [hI.out]
      have hd63 : decide ((9223372036854775807 : Int) < (v : Int)) = true := decide_eq_true (by omega)
      clear ha hI h63 hv64
      go_enter Try.func40, Try.ntmps40
      go_wp2_with fail
      refine (cA.out _).mono ?_; rintro e w1 ⟨rfl, b1⟩
      go_wp2_with fail
      refine bodyPost_ret (results_tmp3 rfl _ _ _) rfl ⟨rfl, b1.alloc b1.size _⟩
    · have hd63 : decide ((9223372036854775807 : Int) < (v : Int)) = false := decide_eq_false (by omega)
      have hvi : IntKind.i64.wrap (v : Int) = (v : Int) := IntWalk.i64_in _ (by omega)
      clear hv64
      rcases hk with rfl | rfl
      · have hX := int_k0 (low := low) (high := high) ha h63
        by_cases hlo : (v : Int) < low
        · have hI := Lib.hid (show intF low high l = (0, 0, 9) by rw [hX, if_pos (Or.inl hlo)])
          rw [hI.out]
          clear ha hI hX h63
          go_enter Try.func40, Try.ntmps40
          go_wp2_with fail
          refine (cA.out _).mono ?_; rintro e w1 ⟨rfl, b1⟩
          go_wp2_with fail
          refine bodyPost_ret (results_tmp3 rfl _ _ _) rfl ⟨rfl, b1.alloc b1.size _⟩
        · by_cases hhi : high < (v : Int)
          · have hI := Lib.hid (show intF low high l = (0, 0, 9) by rw [hX, if_pos (Or.inr hhi)])
            rw [hI.out]
            clear ha hI hX h63
            go_enter Try.func40, Try.ntmps40
            go_wp2_with fail
            refine (cA.out _).mono ?_; rintro e w1 ⟨rfl, b1⟩
            go_wp2_with fail
            refine bodyPost_ret (results_tmp3 rfl _ _ _) rfl ⟨rfl, b1.alloc b1.size _⟩
          · have hI := Lib.hid (show intF low high l = ((v : Int), n, 0) by rw [hX, if_neg (by omega)])
            rw [hI.out]
            clear ha hI hX h63
            go_enter Try.func40, Try.ntmps40
            go_wp2_with fail
            refine (cA.out _).mono ?_; rintro e w1 ⟨rfl, b1⟩
            go_wp2_with fail
            go_quiet (fail)
            go_wp2_with fail
            refine bodyPost_ret (results_tmp3 rfl _ _ _) rfl ⟨rfl, below_drew' (b1.alloc b1.size _) nq⟩
      · have hvn : IntKind.i64.wrap (-1 - (v : Int)) = -1 - (v : Int) := IntWalk.i64_in _ (by omega)
        have hX := int_k1 (low := low) (high := high) ha h63
        by_cases hlo : -1 - (v : Int) < low
        · have hI := Lib.hid (show intF low high l = (0, 0, 9) by rw [hX, if_pos (Or.inl hlo)])
          rw [hI.out]
          clear ha hI hX h63
          go_enter Try.func40, Try.ntmps40
          go_wp2_with fail
          refine (cA.out _).mono ?_; rintro e w1 ⟨rfl, b1⟩
          go_wp2_with fail
          refine bodyPost_ret (results_tmp3 rfl _ _ _) rfl ⟨rfl, b1.alloc b1.size _⟩
        · by_cases hhi : high < -1 - (v : Int)
          · have hI := Lib.hid (show intF low high l = (0, 0, 9) by rw [hX, if_pos (Or.inr hhi)])
            rw [hI.out]
            clear ha hI hX h63
            go_enter Try.func40, Try.ntmps40
            go_wp2_with fail
            refine (cA.out _).mono ?_; rintro e w1 ⟨rfl, b1⟩
            go_wp2_with fail
            refine bodyPost_ret (results_tmp3 rfl _ _ _) rfl ⟨rfl, b1.alloc b1.size _⟩
          · have hI := Lib.hid (show intF low high l = (-1 - (v : Int), n, 0) by rw [hX, if_neg (by omega)])
            rw [hI.out]
            clear ha hI hX h63
            go_enter Try.func40, Try.ntmps40
            go_wp2_with fail
            refine (cA.out _).mono ?_; rintro e w1 ⟨rfl, b1⟩
            go_wp2_with fail
            go_quiet (fail)
            go_wp2_with fail
            refine bodyPost_ret (results_tmp3 rfl _ _ _) rfl ⟨rfl, below_drew' (b1.alloc b1.size _) nq⟩
  · rw [int_x ha hx]
    have hx2 : (x != 0) = true := bne_iff_ne.2 hx
    clear hx ha hl hlen
    go_enter Try.func40, Try.ntmps40
    go_wp2_with fail
    refine (cA.out _).mono ?_; rintro e w1 ⟨rfl, b1⟩
    go_wp2_with fail
    refine bodyPost_ret (results_tmp3 rfl _ _ _) rfl ⟨rfl, b1.alloc b1.size _⟩

/-- A count that is read: of a text (kind 2) or a list (kind 4). -/
def cntF (K : Nat) (most : Int) (l : List UInt8) : Int × Nat × Int :=
  if (argF K K l).2.2.2 ≠ 0 then (0, 0, (argF K K l).2.2.2)
  else if most < ((argF K K l).2.1 : Int) then (0, 0, 4)
  else ((argF K K l).2.1, (argF K K l).2.2.1, 0)
theorem cnt_list (most : Int) (l : List UInt8) : cntF 4 most l = listF most l := rfl
theorem cnt_x {K : Nat} {most : Int} {l : List UInt8} {k v n : Nat} {x : Int} (ha : argF K K l = (k, v, n, x)) (h : x ≠ 0) : cntF K most l = (0, 0, x) := by unfold cntF; rw [ha, if_pos h]
theorem cnt_4 {K : Nat} {most : Int} {l : List UInt8} {k v n : Nat} (ha : argF K K l = (k, v, n, 0)) (h : most < (v : Int)) : cntF K most l = (0, 0, 4) := by unfold cntF; rw [ha, if_neg (by simp), if_pos h]
theorem cnt_v {K : Nat} {most : Int} {l : List UInt8} {k v n : Nat} (ha : argF K K l = (k, v, n, 0)) (h : ¬ most < (v : Int)) : cntF K most l = ((v : Int), n, 0) := by unfold cntF; rw [ha, if_neg (by simp), if_neg h]
set_option maxHeartbeats 1000000 in
set_option maxRecDepth 100000 in
theorem preadCount_any (K : Nat) (s : ByteArray) (most : Int) (w : World) (hs : s.size ≤ 100000) (hm : most ≤ 9223372036854775807) :
    Calls Try.prog 47 #[.string s, .int .u8 (K : Int), .int .i64 most] w (Thr (.int .i64 (cntF K most s.data.toList).1) (cntF K most s.data.toList).2.1 (cntF K most s.data.toList).2.2 w) := by
  have cA := Lib.hid (fun w => phead_any K K s w (Nat.le_refl _) (Nat.le_succ _) hs)
  obtain ⟨l, hl⟩ : ∃ l, s.data.toList = l := ⟨_, rfl⟩
  rw [hl] at cA ⊢
  obtain ⟨k, v, n, x, ha⟩ : ∃ k v n x, argF K K l = (k, v, n, x) := ⟨_, _, _, _, rfl⟩
  unfold HdEnd at cA
  rw [ha] at cA
  clear hl hs
  by_cases hx : x = 0
  · subst hx
    have hv64 := (arg_ok ha).2.2.2.2
    by_cases hneg : most < 0
    · rw [cnt_4 ha (by omega)]
      clear ha hv64 hm
      go_enter Try.func47, Try.ntmps47
      go_wp2_with fail
      refine (cA.out _).mono ?_; rintro e w1 ⟨rfl, b1⟩
      go_wp2_with fail
      refine bodyPost_ret (results_tmp3 rfl _ _ _) rfl ⟨rfl, b1.alloc b1.size _⟩
    · have hu : IntKind.u64.wrap most = most := IntWalk.u64_in _ (by omega)
      by_cases hgt : most < (v : Int)
      · rw [cnt_4 ha hgt]
        clear ha hv64 hm
        go_enter Try.func47, Try.ntmps47
        go_wp2_with fail
        refine (cA.out _).mono ?_; rintro e w1 ⟨rfl, b1⟩
        go_wp2_with fail
        refine bodyPost_ret (results_tmp3 rfl _ _ _) rfl ⟨rfl, b1.alloc b1.size _⟩
      · rw [cnt_v ha hgt]
        have hvi : IntKind.i64.wrap (v : Int) = (v : Int) := IntWalk.i64_in _ (by omega)
        clear ha hv64 hm
        go_enter Try.func47, Try.ntmps47
        go_wp2_with fail
        refine (cA.out _).mono ?_; rintro e w1 ⟨rfl, b1⟩
        go_wp2_with fail
        go_quiet (fail)
        go_wp2_with fail
        refine bodyPost_ret (results_tmp3 rfl _ _ _) rfl ⟨rfl, below_drew' (b1.alloc b1.size _) nq⟩
  · rw [cnt_x ha hx]
    have hx2 : (x != 0) = true := bne_iff_ne.2 hx
    clear hx ha hm
    go_enter Try.func47, Try.ntmps47
    go_wp2_with fail
    refine (cA.out _).mono ?_; rintro e w1 ⟨rfl, b1⟩
    go_wp2_with fail
    refine bodyPost_ret (results_tmp3 rfl _ _ _) rfl ⟨rfl, b1.alloc b1.size _⟩
end Go.Proofs.Ytglhbjfogbcddaa.Cb
