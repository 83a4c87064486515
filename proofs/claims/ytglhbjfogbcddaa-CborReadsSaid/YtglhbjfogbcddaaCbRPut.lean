/-
  Contracts of the reference's encoders of layer 5.
-/
import Derived.Test.YtglhbjfogbcddaaCbMath
import Derived.Test.YtglhbjfogbcddaaProg
import Derived.WalkKit
import Derived.WalkSpells
import Derived.WalkLawsBesides
import Derived.BigQuiet
import Derived.Deep.QuietTactic
import Derived.Lib.Hide
import Derived.Lib.OthersKept
import Derived.ProofKit
import Derived.Below
import Derived.OwnWalk
import Derived.LoopTactic
import Derived.Laws.IdiomStrings
namespace Go.Proofs.Ytglhbjfogbcddaa.Cb
open Go.RowKit

def toS (l : List UInt8) : ByteArray := ⟨l.toArray⟩
theorem toS_data (s : ByteArray) : toS s.data.toList = s := Lib.mk_data s
theorem data_toS (l : List UInt8) : (toS l).data.toList = l := rfl
theorem toS_size (l : List UInt8) : (toS l).size = l.length := by rw [Lib.size_eq]; rfl
theorem toS_app (a b : List UInt8) : toS a ++ toS b = toS (a ++ b) := by
  apply ByteArray.ext
  rw [ByteArray.data_append]
  simp [toS]
theorem stepB {w W W' : World} (h : Below w.heap.size w W) (k : Below W.heap.size W W') : Below w.heap.size w W' := h.trans (k.mono h.size)
/-- string([]byte{byte(u % 256)}). -/
theorem conv_byte (W : World) (u : Nat) : (convert 53 9 (.slice (some ⟨W.heap.size, 0, none⟩) 1 1)).run Try.prog (W.alloc (.cells #[.int .u8 ((u : Int) % 256)] 5)) = .ok (.string (toS [UInt8.ofNat (u % 256)])) (W.alloc (.cells #[.int .u8 ((u : Int) % 256)] 5)) :=
  run_convert_bytes_back (P := Try.prog) _ 53 9 5 ⟨W.heap.size, 0, none⟩ 1 [UInt8.ofNat (u % 256)] Try.underlying53 Try.underlying5 Try.underlying9 (fun j hj => by
    match j, hj with
    | 0, _ => simp [Addr.add])
theorem add_lists (x y : List UInt8) (h : x.length + y.length ≤ 9223372036854775807) (W : World) : (Op.stringOp .add (toS x) (toS y)).run Try.prog W = .ok (.string (toS (x ++ y))) W := by
  rw [← toS_app]
  exact run_string_add_sum W _ _ (by rw [toS_size, toS_size]; exact h)

set_option maxHeartbeats 1000000 in
set_option maxRecDepth 100000 in
theorem rbytes_any (v n : Nat) (w : World) (hv : v < 18446744073709551616) (hn : n ≤ 8) : Calls Try.prog 50 #[.int .u64 (v : Int), .int .i64 (n : Int)] w fun e w' => e = .returned (.string (toS (beL v n))) ∧ Below w.heap.size w w' := by
  have hv' : Hid (v < 18446744073709551616) := hv
  have hn' : (n : Int) ≤ 8 := by omega
  clear hv
  go_enter Try.func50, Try.ntmps50
  go_wp2_with fail
  go_loopw [0, 5, 6] (fun x s i wr => ∃ (k u : Nat) (l : List UInt8), i = .int .i64 k ∧ k ≤ n ∧ x = .int .u64 u ∧ s = .string (toS l) ∧ Below w.heap.size w wr ∧ Hid (u < 18446744073709551616) ∧ l.length = k ∧ Hid (beL v n = beL u (n - k) ++ l)) (fun _ _ i _ => n - (intOf i).toNat)
  case atStart => exact ⟨0, v, [], rfl, Nat.zero_le _, rfl, rfl, Below.refl _ _, hv'.out, rfl, by show _ = _; simp⟩
  case round =>
    obtain ⟨k, u, l, rfl, hk, rfl, rfl, hbw, hu, hl, heq⟩ := hrel
    by_cases hlt : k < n
    · have hcv := conv_byte wr u
      have e1 := add_lists [UInt8.ofNat (u % 256)] l (by simp; omega)
      have hu2 := Lib.hid (show u / 256 < 18446744073709551616 by have := hu.out; omega)
      have hq := Lib.hid (show beL v n = beL (u / 256) (n - (k + 1)) ++ ([UInt8.ofNat (u % 256)] ++ l) by
        rw [heq.out, show n - k = (n - (k + 1)) + 1 by omega, beL, List.append_assoc])
      have hwq : IntKind.u64.wrap ((u : Int) / 256) = ((u / 256 : Nat) : Int) := by
        have := hu.out
        rw [IntWalk.u64_in _ (by omega)]; rfl
      clear heq hu
      go_wp2_with fail
      exact ⟨⟨k + 1, u / 256, _, rfl, hlt, rfl, rfl, hbw.alloc hbw.size _, hu2.out, by simp; omega, hq.out⟩, by simp [intOf]; omega⟩
    · obtain rfl : k = n := by omega
      have hq := Lib.hid (show l = beL v k by rw [heq.out, Nat.sub_self]; rfl)
      clear heq hu
      go_wp2_with fail
      go_ret
      exact ⟨by rw [← hq.out]; rfl, hbw⟩

set_option maxHeartbeats 1000000 in
set_option maxRecDepth 100000 in
theorem rhead_any (k v : Nat) (w : World) (hk : k ≤ 7) (hv : v < 18446744073709551616) : Calls Try.prog 38 #[.int .i64 (k : Int), .int .u64 (v : Int)] w fun e w' => e = .returned (.string (toS (headL k v))) ∧ Below w.heap.size w w' := by
  have hk' : (k : Int) ≤ 7 := by omega
  by_cases h24 : v < 24
  · have h24' : (v : Int) < 24 := by omega
    have hH := Lib.hid (show beL (32 * k + v) 1 = headL k v by
      unfold headL
      rw [(nOf_small v h24).1, (nOf_small v h24).2, beL, beL, beL, Nat.mod_eq_of_lt (by omega)]; rfl)
    have c1 : Hid (∀ w, Calls Try.prog 50 #[.int .u64 (32 * (k : Int) + (v : Int)), .int .i64 1] w fun e w' => e = .returned (.string (toS (headL k v))) ∧ Below w.heap.size w w') := fun w => by
      have := rbytes_any (32 * k + v) 1 w (by omega) (by decide)
      rw [hH.out, show ((32 * k + v : Nat) : Int) = 32 * (k : Int) + (v : Int) by omega] at this
      exact this
    have e1 : IntKind.u64.wrap (32 * (k : Int) + (v : Int)) = 32 * (k : Int) + (v : Int) := IntWalk.u64_in _ (by omega)
    have e2 : IntKind.u64.wrap (32 * (k : Int)) = 32 * (k : Int) := IntWalk.u64_in _ (by omega)
    clear hv h24
    go_enter Try.func38, Try.ntmps38
    go_wp2_with fail
    refine (c1.out _).mono ?_; rintro e w1 ⟨rfl, b1⟩
    go_wp2_with fail
    go_ret
    exact ⟨rfl, b1⟩
  · have h24' : ¬ (v : Int) < 24 := by omega
    by_cases h1 : v ≤ 255
    · have h1' : ¬ (255 : Int) < (v : Int) := by omega
      have h2 : v ≤ 65535 := by omega
      have h3 : v ≤ 4294967295 := by omega
      have h2' : ¬ (65535 : Int) < (v : Int) := by omega
      have h3' : ¬ (4294967295 : Int) < (v : Int) := by omega
      have hH := Lib.hid (show beL (32 * k + 24) 1 ++ beL v 1 = headL k v by
        unfold headL lowOf nOf
        rw [beL, beL, Nat.mod_eq_of_lt (by omega)]
        first | (simp [h24, h1]; done) | (simp [h24, h1, h2]; done) | (simp [h24, h1, h2, h3]; done))
      have c1 : Hid (∀ w, Calls Try.prog 50 #[.int .u64 (32 * (k : Int) + 24), .int .i64 1] w fun e w' => e = .returned (.string (toS (beL (32 * k + 24) 1))) ∧ Below w.heap.size w w') := fun w => by
        have := rbytes_any (32 * k + 24) 1 w (by omega) (by decide)
        rw [show ((32 * k + 24 : Nat) : Int) = 32 * (k : Int) + 24 by omega] at this
        exact this
      have c2 := Lib.hid (fun w => rbytes_any v 1 w hv (by decide))
      have e1 := add_lists (beL (32 * k + 24) 1) (beL v 1) (by rw [beL_length, beL_length]; decide)
      rw [hH.out] at e1
      have e2 : IntKind.u64.wrap (32 * (k : Int) + 24) = 32 * (k : Int) + 24 := IntWalk.u64_in _ (by omega)
      generalize beL (32 * k + 24) 1 = A at c1 e1
      generalize beL v 1 = B at c2 e1
      clear hv hH h24 h1 h2 h3
      go_enter Try.func38, Try.ntmps38
      go_wp2_with fail
      refine (c1.out _).mono ?_; rintro e w1 ⟨rfl, b1⟩
      go_wp2_with fail
      refine (c2.out _).mono ?_; rintro e w2 ⟨rfl, b2⟩
      go_wp2_with fail
      go_ret
      exact ⟨rfl, stepB b1 b2⟩
    · have h1' : (255 : Int) < (v : Int) := by omega
      by_cases h2 : v ≤ 65535
      · have h2' : ¬ (65535 : Int) < (v : Int) := by omega
        have h3 : v ≤ 4294967295 := by omega
        have h3' : ¬ (4294967295 : Int) < (v : Int) := by omega
        have hH := Lib.hid (show beL (32 * k + 25) 1 ++ beL v 2 = headL k v by
          unfold headL lowOf nOf
          rw [beL, beL, Nat.mod_eq_of_lt (by omega)]
          first | (simp [h24, h1]; done) | (simp [h24, h1, h2]; done) | (simp [h24, h1, h2, h3]; done))
        have c1 : Hid (∀ w, Calls Try.prog 50 #[.int .u64 (32 * (k : Int) + 25), .int .i64 1] w fun e w' => e = .returned (.string (toS (beL (32 * k + 25) 1))) ∧ Below w.heap.size w w') := fun w => by
          have := rbytes_any (32 * k + 25) 1 w (by omega) (by decide)
          rw [show ((32 * k + 25 : Nat) : Int) = 32 * (k : Int) + 25 by omega] at this
          exact this
        have c2 := Lib.hid (fun w => rbytes_any v 2 w hv (by decide))
        have e1 := add_lists (beL (32 * k + 25) 1) (beL v 2) (by rw [beL_length, beL_length]; decide)
        rw [hH.out] at e1
        have e2 : IntKind.u64.wrap (32 * (k : Int) + 25) = 32 * (k : Int) + 25 := IntWalk.u64_in _ (by omega)
        generalize beL (32 * k + 25) 1 = A at c1 e1
        generalize beL v 2 = B at c2 e1
        clear hv hH h24 h1 h2 h3
        go_enter Try.func38, Try.ntmps38
        go_wp2_with fail
        refine (c1.out _).mono ?_; rintro e w1 ⟨rfl, b1⟩
        go_wp2_with fail
        refine (c2.out _).mono ?_; rintro e w2 ⟨rfl, b2⟩
        go_wp2_with fail
        go_ret
        exact ⟨rfl, stepB b1 b2⟩
      · have h2' : (65535 : Int) < (v : Int) := by omega
        by_cases h3 : v ≤ 4294967295
        · have h3' : ¬ (4294967295 : Int) < (v : Int) := by omega
          have hH := Lib.hid (show beL (32 * k + 26) 1 ++ beL v 4 = headL k v by
            unfold headL lowOf nOf
            rw [beL, beL, Nat.mod_eq_of_lt (by omega)]
            first | (simp [h24, h1]; done) | (simp [h24, h1, h2]; done) | (simp [h24, h1, h2, h3]; done))
          have c1 : Hid (∀ w, Calls Try.prog 50 #[.int .u64 (32 * (k : Int) + 26), .int .i64 1] w fun e w' => e = .returned (.string (toS (beL (32 * k + 26) 1))) ∧ Below w.heap.size w w') := fun w => by
            have := rbytes_any (32 * k + 26) 1 w (by omega) (by decide)
            rw [show ((32 * k + 26 : Nat) : Int) = 32 * (k : Int) + 26 by omega] at this
            exact this
          have c2 := Lib.hid (fun w => rbytes_any v 4 w hv (by decide))
          have e1 := add_lists (beL (32 * k + 26) 1) (beL v 4) (by rw [beL_length, beL_length]; decide)
          rw [hH.out] at e1
          have e2 : IntKind.u64.wrap (32 * (k : Int) + 26) = 32 * (k : Int) + 26 := IntWalk.u64_in _ (by omega)
          generalize beL (32 * k + 26) 1 = A at c1 e1
          generalize beL v 4 = B at c2 e1
          clear hv hH h24 h1 h2 h3
          go_enter Try.func38, Try.ntmps38
          go_wp2_with fail
          refine (c1.out _).mono ?_; rintro e w1 ⟨rfl, b1⟩
          go_wp2_with fail
          refine (c2.out _).mono ?_; rintro e w2 ⟨rfl, b2⟩
          go_wp2_with fail
          go_ret
          exact ⟨rfl, stepB b1 b2⟩
        · have h3' : (4294967295 : Int) < (v : Int) := by omega
          have hH := Lib.hid (show beL (32 * k + 27) 1 ++ beL v 8 = headL k v by
            unfold headL lowOf nOf
            rw [beL, beL, Nat.mod_eq_of_lt (by omega)]
            first | (simp [h24, h1]; done) | (simp [h24, h1, h2]; done) | (simp [h24, h1, h2, h3]; done))
          have c1 : Hid (∀ w, Calls Try.prog 50 #[.int .u64 (32 * (k : Int) + 27), .int .i64 1] w fun e w' => e = .returned (.string (toS (beL (32 * k + 27) 1))) ∧ Below w.heap.size w w') := fun w => by
            have := rbytes_any (32 * k + 27) 1 w (by omega) (by decide)
            rw [show ((32 * k + 27 : Nat) : Int) = 32 * (k : Int) + 27 by omega] at this
            exact this
          have c2 := Lib.hid (fun w => rbytes_any v 8 w hv (by decide))
          have e1 := add_lists (beL (32 * k + 27) 1) (beL v 8) (by rw [beL_length, beL_length]; decide)
          rw [hH.out] at e1
          have e2 : IntKind.u64.wrap (32 * (k : Int) + 27) = 32 * (k : Int) + 27 := IntWalk.u64_in _ (by omega)
          generalize beL (32 * k + 27) 1 = A at c1 e1
          generalize beL v 8 = B at c2 e1
          clear hv hH h24 h1 h2 h3
          go_enter Try.func38, Try.ntmps38
          go_wp2_with fail
          refine (c1.out _).mono ?_; rintro e w1 ⟨rfl, b1⟩
          go_wp2_with fail
          refine (c2.out _).mono ?_; rintro e w2 ⟨rfl, b2⟩
          go_wp2_with fail
          go_ret
          exact ⟨rfl, stepB b1 b2⟩

set_option maxHeartbeats 1000000 in
set_option maxRecDepth 100000 in
theorem rint_any (n : Int) (w : World) (h1 : -9223372036854775808 ≤ n) (h2 : n ≤ 9223372036854775807) : Calls Try.prog 13 #[.int .i64 n] w fun e w' => e = .returned (.string (toS (intE n))) ∧ Below w.heap.size w w' := by
  by_cases h : n < 0
  · obtain ⟨v, hv⟩ : ∃ v : Nat, -1 - n = (v : Int) := ⟨(-1 - n).toNat, by omega⟩
    have hE := Lib.hid (show headL 1 v = intE n by unfold intE; rw [if_pos h, hv]; rfl)
    have c1 := Lib.hid (fun w => rhead_any 1 v w (by decide) (by omega))
    rw [hE.out] at c1
    have e1 : IntKind.u64.wrap (v : Int) = (v : Int) := IntWalk.u64_in _ (by omega)
    have e2 : IntKind.i64.wrap (v : Int) = (v : Int) := IntWalk.i64_in _ (by omega)
    have e3 : wrap64 (v : Int) = (v : Int) := by rw [← IntWalk.i64_left]; exact e2
    clear h1 h2
    go_enter Try.func13, Try.ntmps13
    go_wp2_with fail
    refine (c1.out _).mono ?_; rintro e w1 ⟨rfl, b1⟩
    go_wp2_with fail
    go_ret
    exact ⟨rfl, b1⟩
  · obtain ⟨v, rfl⟩ : ∃ v : Nat, n = (v : Int) := ⟨n.toNat, by omega⟩
    have hE := Lib.hid (show headL 0 v = intE (v : Int) by unfold intE; rw [if_neg h]; rfl)
    have c1 := Lib.hid (fun w => rhead_any 0 v w (by decide) (by omega))
    rw [hE.out] at c1
    have e1 : IntKind.u64.wrap (v : Int) = (v : Int) := IntWalk.u64_in _ (by omega)
    clear h1 h2
    go_enter Try.func13, Try.ntmps13
    go_wp2_with fail
    refine (c1.out _).mono ?_; rintro e w1 ⟨rfl, b1⟩
    go_wp2_with fail
    go_ret
    exact ⟨rfl, b1⟩
set_option maxHeartbeats 1000000 in
set_option maxRecDepth 100000 in
theorem rlist_any (n : Int) (w : World) (h2 : n ≤ 9223372036854775807) : Calls Try.prog 19 #[.int .i64 n] w fun e w' => e = .returned (.string (toS (listE n))) ∧ Below w.heap.size w w' := by
  by_cases h : n < 0
  · have hE := Lib.hid (show [] = listE n by unfold listE; rw [if_pos h])
    clear h2
    go_enter Try.func19, Try.ntmps19
    go_wp2_with fail
    go_ret
    exact ⟨by rw [← hE.out]; rfl, Below.refl _ _⟩
  · obtain ⟨v, rfl⟩ : ∃ v : Nat, n = (v : Int) := ⟨n.toNat, by omega⟩
    have hE := Lib.hid (show headL 4 v = listE (v : Int) by unfold listE; rw [if_neg h]; rfl)
    have c1 := Lib.hid (fun w => rhead_any 4 v w (by decide) (by omega))
    rw [hE.out] at c1
    have e1 : IntKind.u64.wrap (v : Int) = (v : Int) := IntWalk.u64_in _ (by omega)
    clear h2
    go_enter Try.func19, Try.ntmps19
    go_wp2_with fail
    refine (c1.out _).mono ?_; rintro e w1 ⟨rfl, b1⟩
    go_wp2_with fail
    go_ret
    exact ⟨rfl, b1⟩
set_option maxHeartbeats 1000000 in
theorem rbool_any (b : Bool) (w : World) : Calls Try.prog 17 #[.bool b] w fun e w' => e = .returned (.string (toS (boolE b))) ∧ w = w' := by
  cases b
  · go_enter Try.func17, Try.ntmps17
    go_wp2_with fail
    go_ret
    exact ⟨rfl, rfl⟩
  · go_enter Try.func17, Try.ntmps17
    go_wp2_with fail
    go_ret
    exact ⟨rfl, rfl⟩
set_option maxHeartbeats 1000000 in
set_option maxRecDepth 100000 in
theorem rtextE_any (t : ByteArray) (w : World) (h : (t.size : Int) ≤ 1000000) : Calls Try.prog 15 #[.string t] w fun e w' => e = .returned (.string (toS (textE t.data.toList))) ∧ Below w.heap.size w w' := by
  have hlen : t.data.toList.length = t.size := (Lib.size_eq t).symm
  have c1 := Lib.hid (fun w => rhead_any 2 t.size w (by decide) (by omega))
  have e1 : IntKind.u64.wrap (t.size : Int) = (t.size : Int) := IntWalk.u64_in _ (by omega)
  have e2 : ∀ W : World, (Op.stringOp .add (toS (headL 2 t.size)) t).run Try.prog W = .ok (.string (toS (textE t.data.toList))) W := fun W => by
    have := add_lists (headL 2 t.size) t.data.toList (by rw [headL_length, hlen]; have := nOf_le t.size; omega) W
    rw [toS_data] at this
    unfold textE
    rw [hlen]
    exact this
  clear hlen
  go_enter Try.func15, Try.ntmps15
  go_wp2_with fail
  refine (c1.out _).mono ?_; rintro e w1 ⟨rfl, b1⟩
  go_wp2_with fail
  go_ret
  exact ⟨rfl, b1⟩
end Go.Proofs.Ytglhbjfogbcddaa.Cb
