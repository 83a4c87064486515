/-
  Contracts of the reference's product, signed, MulDiv.
-/
import Derived.Test.YthipgmdjjmgppaaMulb
namespace Go.Proofs.Ythipgmdjjmgppaa
open Go.RowKit

theorem and_low32_wrap (t : Int) : bits .and .u64 (IntKind.u64.wrap t) 4294967295 = t % 18446744073709551616 % 4294967296 := by
  rw [and_low32 _ (by rw [IntKind.wrap_u64]; omega) (by rw [IntKind.wrap_u64]; omega), IntKind.wrap_u64]
theorem words_facts (a b : Nat) (h1 : a ≤ 18446744073709551615) (h2 : b ≤ 18446744073709551615) :
    ((a * b : Nat) : Int) = (a : Int) / 4294967296 * ((b : Int) / 4294967296) * 18446744073709551616 + ((a : Int) / 4294967296 * ((b : Int) % 4294967296) + (a : Int) % 4294967296 * ((b : Int) / 4294967296)) * 4294967296 + (a : Int) % 4294967296 * ((b : Int) % 4294967296) ∧
    (0 ≤ (a : Int) / 4294967296 * ((b : Int) / 4294967296) ∧ (a : Int) / 4294967296 * ((b : Int) / 4294967296) ≤ 18446744065119617025) ∧
    (0 ≤ (a : Int) / 4294967296 * ((b : Int) % 4294967296) ∧ (a : Int) / 4294967296 * ((b : Int) % 4294967296) ≤ 18446744065119617025) ∧
    (0 ≤ (a : Int) % 4294967296 * ((b : Int) / 4294967296) ∧ (a : Int) % 4294967296 * ((b : Int) / 4294967296) ≤ 18446744065119617025) ∧
    (0 ≤ (a : Int) % 4294967296 * ((b : Int) % 4294967296) ∧ (a : Int) % 4294967296 * ((b : Int) % 4294967296) ≤ 18446744065119617025) := by
  refine ⟨?_, prod_bound _ _ (by omega) (by omega) (by omega) (by omega), prod_bound _ _ (by omega) (by omega) (by omega) (by omega), prod_bound _ _ (by omega) (by omega) (by omega) (by omega), prod_bound _ _ (by omega) (by omega) (by omega) (by omega)⟩
  rw [← split_mul, Int.natCast_mul]
  congr 1 <;> omega

set_option maxHeartbeats 400000 in
theorem product_any (a b : Nat) (w : World) (h1 : a ≤ 18446744073709551615) (h2 : b ≤ 18446744073709551615) :
    Calls Try.prog 36 #[.int .u64 (a : Int), .int .u64 (b : Int)] w fun e w' => e = .returned (.tuple #[.int .u64 (mulHi a b : Int), .int .u64 (mulLo a b : Int)]) ∧ w = w' := by
  go_enter Try.func36, Try.ntmps36
  go_wp2
  go_ret2
  refine ⟨ret2k ?_ ?_, rfl⟩
  · have e1 := and_low32 (a : Int) (by omega) (by omega)
    have e2 := and_low32 (b : Int) (by omega) (by omega)
    simp only [e1, e2, and_low32_wrap]
    simp only [IntKind.wrap_u64]
    obtain ⟨hm, b1, b2, b3, b4⟩ := words_facts a b h1 h2
    have hh := mul_words a b
    have hl := mulLo_le a b
    rw [← hh] at hm
    generalize (a : Int) / 4294967296 * ((b : Int) / 4294967296) = p11 at *
    generalize (a : Int) / 4294967296 * ((b : Int) % 4294967296) = p10 at *
    generalize (a : Int) % 4294967296 * ((b : Int) / 4294967296) = p01 at *
    generalize (a : Int) % 4294967296 * ((b : Int) % 4294967296) = p00 at *
    omega
  · have e1 := and_low32 (a : Int) (by omega) (by omega)
    have e2 := and_low32 (b : Int) (by omega) (by omega)
    simp only [e1, e2, and_low32_wrap]
    simp only [IntKind.wrap_u64]
    rw [or_half _ _ (by omega) (by omega) (by omega) (by omega) (by omega)]
    obtain ⟨hm, b1, b2, b3, b4⟩ := words_facts a b h1 h2
    have hh := mul_words a b
    have hl := mulLo_le a b
    rw [← hh] at hm
    generalize (a : Int) / 4294967296 * ((b : Int) / 4294967296) = p11 at *
    generalize (a : Int) / 4294967296 * ((b : Int) % 4294967296) = p10 at *
    generalize (a : Int) % 4294967296 * ((b : Int) / 4294967296) = p01 at *
    generalize (a : Int) % 4294967296 * ((b : Int) % 4294967296) = p00 at *
    omega

def sgQ (m : Int) : Int := if m ≤ 9223372036854775808 then -m else 0
def sgE (m : Int) : Int := if m ≤ 9223372036854775808 then 0 else 21
set_option maxHeartbeats 400000 in
theorem signed_neg (m : Int) (w : World) (h0 : 0 ≤ m) (h : m ≤ 18446744073709551615) :
    Calls Try.prog 38 #[.bool true, .int .u64 m] w fun e w' => e = .returned (.tuple #[.int .i64 (sgQ m), .int .i64 (sgE m)]) ∧ w = w' := by
  by_cases hm : m ≤ 9223372036854775808
  · have e1 := Lib.hid (show wrap64 (IntKind.u64.wrap (-m)) = sgQ m by unfold sgQ; rw [if_pos hm, IntKind.wrap_u64]; unfold wrap64; omega)
    have e2 := Lib.hid (show (0 : Int) = sgE m by unfold sgE; rw [if_pos hm])
    go_enter Try.func38, Try.ntmps38
    go_wp2
    go_ret2
    exact ⟨ret2 e1.out e2.out, rfl⟩
  · have e1 := Lib.hid (show (0 : Int) = sgQ m by unfold sgQ; rw [if_neg hm])
    have e2 := Lib.hid (show (21 : Int) = sgE m by unfold sgE; rw [if_neg hm])
    go_enter Try.func38, Try.ntmps38
    go_wp2
    go_ret2
    exact ⟨ret2 e1.out e2.out, rfl⟩

set_option maxHeartbeats 400000 in
theorem signed_pos (m : Nat) (w : World) (h : m ≤ 18446744073709551615) :
    Calls Try.prog 38 #[.bool false, .int .u64 (m : Int)] w fun e w' => e = .returned (.tuple #[.int .i64 (posQ m), .int .i64 (posE m)]) ∧ w = w' := by
  by_cases hm : m ≤ 9223372036854775807
  · have e1 := Lib.hid (show wrap64 (m : Int) = posQ m by unfold posQ; rw [if_pos hm]; exact IntWalk.wrap64_in _ (by omega))
    have e2 := Lib.hid (show (0 : Int) = posE m by unfold posE; rw [if_pos hm])
    have t : decide ((m : Int) < 9223372036854775808) = true := by simp; omega
    clear hm
    go_enter Try.func38, Try.ntmps38
    go_wp2
    go_ret2
    exact ⟨ret2 e1.out e2.out, rfl⟩
  · have e1 := Lib.hid (show (0 : Int) = posQ m by unfold posQ; rw [if_neg hm])
    have e2 := Lib.hid (show (21 : Int) = posE m by unfold posE; rw [if_neg hm])
    have t : decide ((m : Int) < 9223372036854775808) = false := by simp; omega
    clear hm
    go_enter Try.func38, Try.ntmps38
    go_wp2
    go_ret2
    exact ⟨ret2 e1.out e2.out, rfl⟩

/-! ### The reference's MulDiv: 128 bits, one by one -/
def qm (M d : Nat) : Nat := M / d % 18446744073709551616
def rm (M d : Nat) : Nat := M % d
def gm (M d : Nat) : Bool := decide (18446744073709551616 ≤ M / d)
def RefInv (N d : Nat) (high low rest q great i : Value) : Prop :=
  ∃ k hi lo M : Nat, k ≤ 128 ∧ i = .int .i64 k ∧ high = .int .u64 (hi : Int) ∧ low = .int .u64 (lo : Int) ∧ rest = .int .u64 (rm M d : Int) ∧ q = .int .u64 (qm M d : Int) ∧ great = .bool (gm M d) ∧
    Hid (N * 2 ^ k = M * 340282366920938463463374607431768211456 + hi * 18446744073709551616 + lo) ∧ hi ≤ 18446744073709551615 ∧ lo ≤ 18446744073709551615

theorem refInv_zero (N d hi lo : Nat) (h : hi * 18446744073709551616 + lo = N) (h1 : hi ≤ 18446744073709551615) (h2 : lo ≤ 18446744073709551615) :
    RefInv N d (.int .u64 (hi : Int)) (.int .u64 (lo : Int)) (.int .u64 0) (.int .u64 0) (.bool false) (.int .i64 0) :=
  ⟨0, hi, lo, 0, by omega, rfl, rfl, rfl, by simp [rm], by simp [qm], by simp [gm], by show _ = _; omega, h1, h2⟩

theorem val_bool {a b : Bool} (h : a = b) : Value.bool a = .bool b := by rw [h]
theorem sh_or (x y : Nat) (_h1 : x ≤ 18446744073709551615) (h2 : y ≤ 18446744073709551615) :
    bits BinOp.or IntKind.u64 (IntKind.u64.wrap ((x : Int) * 2)) ((y : Int) / 9223372036854775808) = ((2 * x % 18446744073709551616 + y / 9223372036854775808 : Nat) : Int) := by
  rw [IntKind.wrap_u64, or_bit _ _ (by omega) (by omega) (by omega) (by omega) (by omega)]
  omega
theorem sh_r (x y : Nat) (h1 : x ≤ 9223372036854775807) (h2 : y ≤ 18446744073709551615) :
    bits BinOp.or IntKind.u64 ((x : Int) * 2) ((y : Int) / 9223372036854775808) = ((2 * x + y / 9223372036854775808 : Nat) : Int) := by
  rw [or_bit _ _ (by omega) (by omega) (by omega) (by omega) (by omega)]
  omega
theorem sh_lo (x : Nat) : IntKind.u64.wrap ((x : Int) * 2) = ((2 * x % 18446744073709551616 : Nat) : Int) := by
  rw [IntKind.wrap_u64]; omega
theorem step_sum (N k M hi lo : Nat) (h : N * 2 ^ k = M * 340282366920938463463374607431768211456 + hi * 18446744073709551616 + lo) (_h1 : hi ≤ 18446744073709551615) (_h2 : lo ≤ 18446744073709551615) :
    N * 2 ^ (k + 1) = (2 * M + hi / 9223372036854775808) * 340282366920938463463374607431768211456 + (2 * hi % 18446744073709551616 + lo / 9223372036854775808) * 18446744073709551616 + 2 * lo % 18446744073709551616 := by
  rw [Nat.pow_succ, ← Nat.mul_assoc, h]; omega
theorem rest_yes (M d b : Nat) (hb : b < 2) (hd : 0 < d) (h : d ≤ 2 * rm M d + b) : rm (2 * M + b) d = 2 * rm M d + b - d ∧ qm (2 * M + b) d = (2 * qm M d + 1) % 18446744073709551616 ∧
    gm (2 * M + b) d = (gm M d || decide (9223372036854775808 ≤ qm M d)) := by
  have t := twice_yes M d b hb h hd
  unfold rm qm gm at *
  rw [t.1]
  refine ⟨t.2, by omega, ?_⟩
  rw [Bool.eq_iff_iff]; simp; omega
theorem rest_no (M d b : Nat) (_hb : b < 2) (h : 2 * rm M d + b < d) : rm (2 * M + b) d = 2 * rm M d + b ∧ qm (2 * M + b) d = 2 * qm M d % 18446744073709551616 ∧
    gm (2 * M + b) d = (gm M d || decide (9223372036854775808 ≤ qm M d)) := by
  have t := twice_no M d b h
  unfold rm qm gm at *
  rw [t.1]
  refine ⟨t.2, by omega, ?_⟩
  rw [Bool.eq_iff_iff]; simp; omega
theorem dec_cast (x : Nat) : decide ((9223372036854775808 : Int) ≤ (x : Int)) = decide (9223372036854775808 ≤ x) := by
  rw [Bool.eq_iff_iff]; simp; omega

theorem sum_end (N k M hi lo : Nat) (hk : k = 128) (h : N * 2 ^ k = M * 340282366920938463463374607431768211456 + hi * 18446744073709551616 + lo) (_h1 : hi ≤ 18446744073709551615) (_h2 : lo ≤ 18446744073709551615) : M = N := by
  subst hk; omega

/-- How the reference ends, by its three numbers. -/
theorem end_pos_great (a b c : Int) (hc : c ≠ 0) (hs : mdNeg a b c = false) (hg : gm (a.natAbs * b.natAbs) c.natAbs = true) : 0 = mdQ a b c ∧ 21 = mdE a b c := by
  have m := md_pos a b c hc hs
  rw [← m.1, ← m.2]
  unfold gm at hg
  have hg := of_decide_eq_true hg
  unfold posQ posE
  rw [if_neg (by omega), if_neg (by omega)]
  exact ⟨rfl, rfl⟩
theorem end_pos (a b c : Int) (hc : c ≠ 0) (hs : mdNeg a b c = false) (hg : gm (a.natAbs * b.natAbs) c.natAbs = false) :
    posQ (qm (a.natAbs * b.natAbs) c.natAbs) = mdQ a b c ∧ posE (qm (a.natAbs * b.natAbs) c.natAbs) = mdE a b c := by
  have m := md_pos a b c hc hs
  unfold gm at hg
  have hg := of_decide_eq_false hg
  have e : qm (a.natAbs * b.natAbs) c.natAbs = a.natAbs * b.natAbs / c.natAbs := Nat.mod_eq_of_lt (by omega)
  rw [e]; exact m
theorem end_neg_great (a b c : Int) (hc : c ≠ 0) (hs : mdNeg a b c = true) (hg : gm (a.natAbs * b.natAbs) c.natAbs = true) : 0 = mdQ a b c ∧ 21 = mdE a b c := by
  have m := md_neg a b c hc hs
  rw [← m.1, ← m.2]
  unfold gm at hg
  have hg := of_decide_eq_true hg
  have hn : ¬ (-9223372036854775808 ≤ negV (a.natAbs * b.natAbs / c.natAbs) (a.natAbs * b.natAbs % c.natAbs)) := by
    generalize a.natAbs * b.natAbs / c.natAbs = s at *
    unfold negV; split <;> omega
  unfold negQ negE
  rw [if_neg hn, if_neg hn]
  exact ⟨rfl, rfl⟩
theorem end_neg_brim (a b c : Int) (hc : c ≠ 0) (hs : mdNeg a b c = true) (hq : qm (a.natAbs * b.natAbs) c.natAbs = 18446744073709551615) : 0 = mdQ a b c ∧ 21 = mdE a b c := by
  have m := md_neg a b c hc hs
  rw [← m.1, ← m.2]
  unfold qm at hq
  have hn : ¬ (-9223372036854775808 ≤ negV (a.natAbs * b.natAbs / c.natAbs) (a.natAbs * b.natAbs % c.natAbs)) := by
    generalize a.natAbs * b.natAbs / c.natAbs = s at *
    unfold negV; split <;> omega
  unfold negQ negE
  rw [if_neg hn, if_neg hn]
  exact ⟨rfl, rfl⟩
theorem end_neg (a b c : Int) (hc : c ≠ 0) (hs : mdNeg a b c = true) (hg : gm (a.natAbs * b.natAbs) c.natAbs = false) (m : Nat)
    (hm : m = qm (a.natAbs * b.natAbs) c.natAbs + if rm (a.natAbs * b.natAbs) c.natAbs = 0 then 0 else 1) :
    sgQ (m : Int) = mdQ a b c ∧ sgE (m : Int) = mdE a b c := by
  have md := md_neg a b c hc hs
  rw [← md.1, ← md.2]
  unfold gm at hg
  have hg := of_decide_eq_false hg
  have e : qm (a.natAbs * b.natAbs) c.natAbs = a.natAbs * b.natAbs / c.natAbs := Nat.mod_eq_of_lt (by omega)
  rw [e] at hm
  unfold rm at hm
  generalize a.natAbs * b.natAbs / c.natAbs = s at *
  generalize a.natAbs * b.natAbs % c.natAbs = r at *
  unfold negQ negE negV sgQ sgE
  by_cases hr : r = 0
  · rw [if_pos hr] at hm
    rw [if_pos hr]
    by_cases h : m ≤ 9223372036854775808
    · rw [if_pos (by omega), if_pos (by omega), if_pos (by omega), if_pos (by omega)]
      exact ⟨by omega, rfl⟩
    · rw [if_neg (by omega), if_neg (by omega), if_neg (by omega), if_neg (by omega)]
      exact ⟨rfl, rfl⟩
  · rw [if_neg hr] at hm
    rw [if_neg hr]
    by_cases h : m ≤ 9223372036854775808
    · rw [if_pos (by omega), if_pos (by omega), if_pos (by omega), if_pos (by omega)]
      exact ⟨by omega, rfl⟩
    · rw [if_neg (by omega), if_neg (by omega), if_neg (by omega), if_neg (by omega)]
      exact ⟨rfl, rfl⟩

set_option maxRecDepth 100000 in
set_option maxHeartbeats 800000 in
theorem refMulDiv_loop (a b c : Int) (w : World) (h1 : -9223372036854775808 ≤ a) (h2 : a ≤ 9223372036854775807) (h3 : -9223372036854775808 ≤ b) (h4 : b ≤ 9223372036854775807) (h5 : -9223372036854775808 ≤ c) (h6 : c ≤ 9223372036854775807)
    (hc : (c == 0) = false) (sg : Bool) (hsg : ((!decide (a < 0) == decide (b < 0)) == decide (c < 0)) = sg) :
    Calls Try.prog 20 #[.int .i64 a, .int .i64 b, .int .i64 c] w fun e w' => e = .returned (.tuple #[.int .i64 (mdQ a b c), .int .i64 (mdE a b c)]) ∧ w = w' := by
  have hc0 : c ≠ 0 := by simpa using hc
  have hx : a.natAbs ≤ 9223372036854775808 := by omega
  have hy : b.natAbs ≤ 9223372036854775808 := by omega
  have hz : c.natAbs ≤ 9223372036854775808 := by omega
  have hz0 : 1 ≤ c.natAbs := by omega
  have hl := mulLo_le a.natAbs b.natAbs
  have hh := mulHi_le a.natAbs b.natAbs hx hy
  have hN := Lib.hid (mul_words a.natAbs b.natAbs)
  have HSG := Lib.hid hsg
  clear hc0 hsg
  go_enter Try.func20, Try.ntmps20
  go_wp2_with (first | (go_at_call 37; refine (mag_any _ _ (by assumption) (by assumption)).mono ?_; rintro e w' ⟨rfl, rfl⟩) | (go_at_call 36; refine (product_any _ _ _ (by omega) (by omega)).mono ?_; rintro e w' ⟨rfl, rfl⟩))
  go_loop [8, 9, 11, 12, 13, 14] (fun high low rest q great i => RefInv (a.natAbs * b.natAbs) c.natAbs high low rest q great i) (fun _ _ _ _ _ i => 128 - (intOf i).toNat)
  case atStart => exact refInv_zero _ _ _ _ hN.out (by omega) (by omega)
  case round =>
    obtain ⟨k, hi, lo, M, hk, rfl, rfl, rfl, rfl, rfl, rfl, hM, hhi, hlo⟩ := hrel
    by_cases hlt : k < 128
    · have hr : rm M c.natAbs < c.natAbs := Nat.mod_lt _ hz0
      have hq : qm M c.natAbs ≤ 18446744073709551615 := by unfold qm; omega
      have hb : hi / 9223372036854775808 < 2 := by omega
      have eR := Lib.hid (sh_r (rm M c.natAbs) hi (by omega) hhi)
      go_wp2
      all_goals
        rename_i hg ht
        rw [eR.out] at ht
      · have t := rest_yes M c.natAbs _ hb hz0 (by omega)
        go_round
        case rel =>
          refine ⟨k + 1, _, _, _, by omega, by go_num, val_int (sh_or hi lo hhi hlo), val_int (sh_lo lo), val_int ?_, val_int ?_, val_bool ?_, step_sum _ k M hi lo hM hhi hlo, by omega, by omega⟩
          · rw [t.1, eR.out, IntKind.wrap_u64]; omega
          · rw [t.2.1, sh_lo, IntKind.wrap_u64]; omega
          · rw [t.2.2, hg]; rfl
        case measure => simp [intOf]; omega
      · have t := rest_no M c.natAbs _ hb (show 2 * rm M c.natAbs + hi / 9223372036854775808 < c.natAbs by omega)
        go_round
        case rel =>
          refine ⟨k + 1, _, _, _, by omega, by go_num, val_int (sh_or hi lo hhi hlo), val_int (sh_lo lo), val_int ?_, val_int ?_, val_bool ?_, step_sum _ k M hi lo hM hhi hlo, by omega, by omega⟩
          · rw [t.1, eR.out]
          · rw [t.2.1, sh_lo]
          · rw [t.2.2, hg]; rfl
        case measure => simp [intOf]; omega
      · have t := rest_yes M c.natAbs _ hb hz0 (by omega)
        go_round
        case rel =>
          refine ⟨k + 1, _, _, _, by omega, by go_num, val_int (sh_or hi lo hhi hlo), val_int (sh_lo lo), val_int ?_, val_int ?_, val_bool ?_, step_sum _ k M hi lo hM hhi hlo, by omega, by omega⟩
          · rw [t.1, eR.out, IntKind.wrap_u64]; omega
          · rw [t.2.1, sh_lo, IntKind.wrap_u64]; omega
          · rw [t.2.2, dec_cast, show gm M c.natAbs = false by simpa using hg]; rfl
        case measure => simp [intOf]; omega
      · have t := rest_no M c.natAbs _ hb (show 2 * rm M c.natAbs + hi / 9223372036854775808 < c.natAbs by omega)
        go_round
        case rel =>
          refine ⟨k + 1, _, _, _, by omega, by go_num, val_int (sh_or hi lo hhi hlo), val_int (sh_lo lo), val_int ?_, val_int ?_, val_bool ?_, step_sum _ k M hi lo hM hhi hlo, by omega, by omega⟩
          · rw [t.1, eR.out]
          · rw [t.2.1, sh_lo]
          · rw [t.2.2, dec_cast, show gm M c.natAbs = false by simpa using hg]; rfl
        case measure => simp [intOf]; omega
    · have hMN := sum_end _ k M hi lo (by omega) hM hhi hlo
      clear hM
      subst hMN
      have hq : qm (a.natAbs * b.natAbs) c.natAbs ≤ 18446744073709551615 := by unfold qm; omega
      have hr : rm (a.natAbs * b.natAbs) c.natAbs < c.natAbs := Nat.mod_lt _ hz0
      have hc0 : c ≠ 0 := by simpa using hc
      have HC0 := Lib.hid hc0
      clear hc0
      cases sg
      · have hs := Lib.hid (sgn_ne a b c HSG.out)
        have hsg := HSG.out
        cases hg : gm (a.natAbs * b.natAbs) c.natAbs
        · have g1 := Lib.hid hg
          by_cases h0 : 0 < rm (a.natAbs * b.natAbs) c.natAbs
          · have h0' := Lib.hid (show rm (a.natAbs * b.natAbs) c.natAbs ≠ 0 by omega)
            by_cases hbr : qm (a.natAbs * b.natAbs) c.natAbs ≤ 18446744073709551614
            · have E := Lib.hid (end_neg a b c HC0.out hs.out hg (qm (a.natAbs * b.natAbs) c.natAbs + 1) (by rw [if_neg h0'.out]))
              go_wp2_with (go_at_call 38; refine (signed_neg _ _ (by omega) (by omega)).mono ?_; rintro e w' ⟨rfl, rfl⟩)
              go_ret2
              exact ⟨ret2 E.out.1 E.out.2, rfl⟩
            · have E := Lib.hid (end_neg_brim a b c HC0.out hs.out (by omega))
              go_wp2_with fail
              go_ret2
              exact ⟨ret2 E.out.1 E.out.2, rfl⟩
          · have E := Lib.hid (end_neg a b c HC0.out hs.out hg (qm (a.natAbs * b.natAbs) c.natAbs) (by rw [if_pos (by omega)]; rfl))
            go_wp2_with (go_at_call 38; refine (signed_neg _ _ (by omega) (by omega)).mono ?_; rintro e w' ⟨rfl, rfl⟩)
            go_ret2
            exact ⟨ret2 E.out.1 E.out.2, rfl⟩
        · have E := Lib.hid (end_neg_great a b c HC0.out hs.out hg)
          by_cases h0 : 0 < rm (a.natAbs * b.natAbs) c.natAbs
          · go_wp2_with fail
            go_ret2
            exact ⟨ret2 E.out.1 E.out.2, rfl⟩
          · go_wp2_with fail
            go_ret2
            exact ⟨ret2 E.out.1 E.out.2, rfl⟩
      · have hs := Lib.hid (sgn_eq a b c HSG.out)
        have hsg := HSG.out
        cases hg : gm (a.natAbs * b.natAbs) c.natAbs
        · have E := Lib.hid (end_pos a b c HC0.out hs.out hg)
          go_wp2_with (go_at_call 38; refine (signed_pos _ _ (by omega)).mono ?_; rintro e w' ⟨rfl, rfl⟩)
          go_ret2
          exact ⟨ret2 E.out.1 E.out.2, rfl⟩
        · have E := Lib.hid (end_pos_great a b c HC0.out hs.out hg)
          go_wp2_with fail
          go_ret2
          exact ⟨ret2 E.out.1 E.out.2, rfl⟩
end Go.Proofs.Ythipgmdjjmgppaa
