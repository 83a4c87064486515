/-
  Contracts of the program's encodeHead and argumentOf of layer 5.
-/
import Derived.Test.YtglhbjfogbcddaaCbP1
import Derived.Lib.SmallJoins
namespace Go.Proofs.Ytglhbjfogbcddaa.Cb
open Go.RowKit

theorem beL_get : ∀ (n v k : Nat), k < n → (beL v n)[k]? = some (UInt8.ofNat (v / 256 ^ (n - 1 - k) % 256))
  | 0, _, _, h => by omega
  | n + 1, v, k, h => by
    rw [beL]
    by_cases hk : k < n
    · rw [List.getElem?_append_left (by rw [beL_length]; exact hk), beL_get n (v / 256) k hk, Nat.div_div_eq_div_mul, show n + 1 - 1 - k = (n - 1 - k) + 1 by omega, Nat.pow_succ, Nat.mul_comm 256]
    · obtain rfl : k = n := by omega
      rw [List.getElem?_append_right (by rw [beL_length]; exact Nat.le_refl _), beL_length, Nat.sub_self, show k + 1 - 1 - k = 0 by omega, Nat.pow_zero, Nat.div_one]; rfl
/-- Bytes as cells. -/
def u8L (l : List UInt8) : List Value := l.map fun b => .int .u8 (b.toNat : Int)
theorem u8L_snoc (l : List UInt8) (c : UInt8) : u8L (l ++ [c]) = u8L l ++ [.int .u8 (c.toNat : Int)] := by unfold u8L; rw [List.map_append]; rfl
theorem u8L_length (l : List UInt8) : (u8L l).length = l.length := by unfold u8L; rw [List.length_map]
theorem head_snoc {k v i : Nat} (h : i < nOf v) : (headL k v).take (1 + (i + 1)) = (headL k v).take (1 + i) ++ [UInt8.ofNat (v / 256 ^ (nOf v - 1 - i) % 256)] := by
  unfold headL
  rw [show 1 + (i + 1) = (i + 1) + 1 by omega, show 1 + i = i + 1 by omega, List.take_succ_cons, List.take_succ_cons, List.take_add_one, beL_get _ _ _ h]; rfl
theorem head_full (k v : Nat) : (headL k v).take (1 + nOf v) = headL k v := List.take_of_length_le (by rw [headL_length]; exact Nat.le_refl _)
theorem head_len {k v i : Nat} (h : i ≤ nOf v) : ((headL k v).take (1 + i)).length = 1 + i := by rw [List.length_take, headL_length]; omega
/-- What the loop of encodeHead keeps. -/
def EncInv (k v : Nat) (w : World) (b i : Value) (wr : World) : Prop :=
  ∃ j : Nat, j ≤ nOf v ∧ i = .int .i64 (j : Int) ∧ wr.ownsRow w.heap.size 5 1 b (1 + j) (u8L ((headL k v).take (1 + j))) ∧ Below w.heap.size w wr

set_option maxHeartbeats 1000000 in
set_option maxRecDepth 100000 in
theorem pencode_any (k v : Nat) (w : World) (hk : k ≤ 7) (hv : v < 18446744073709551616) : Calls Try.prog 37 #[.int .u8 (k : Int), .int .u64 (v : Int)] w fun e w' => e = .returned (.string (toS (headL k v))) ∧ Below w.heap.size w w' := by
  have c1 := Lib.hid (fun w => pshortest_any v w hv)
  have hl := lowOf_le v
  have c2 := Lib.hid (fun w => pfollowing_any (lowOf v) w hl)
  rw [folN_low] at c2
  have hn8 := nOf_le v
  have hF : Hid ((((headL k v).take (1 + 0))) = [UInt8.ofNat (32 * k + lowOf v)]) := rfl
  obtain ⟨i0, hi, hz0, hz1, hz2⟩ := info_parts info_u8
  have e1 : IntKind.u8.wrap ((k : Int) * 32) = (k : Int) * 32 := wraps8 _ (by omega) (by omega)
  have e2 : bits .or .u8 ((k : Int) * 32) (lowOf v : Int) = (k : Int) * 32 + (lowOf v : Int) := or_low5 _ _ (by omega) (by omega) (by omega) (by omega) (by omega)

  go_enter Try.func37, Try.ntmps37
  go_wp2_with fail
  refine (c1.out _).mono ?_; rintro e w1 ⟨rfl, rfl⟩
  go_wp2_with fail
  refine (c2.out _).mono ?_; rintro e w1 ⟨rfl, rfl⟩
  go_wp2_with fail
  have hst : EncInv k v w (.slice (some ⟨w.heap.size, 0, none⟩) 1 1) (.int .i64 0) (w.alloc (.cells #[.int .u8 ((k : Int) * 32 + (lowOf v : Int))] 5)) := by
    refine ⟨0, Nat.zero_le _, rfl, ?_, (Below.refl _ w).alloc (Nat.le_refl _) _⟩
    rw [hF.out]
    have : u8L [UInt8.ofNat (32 * k + lowOf v)] = #[Value.int .u8 ((k : Int) * 32 + (lowOf v : Int))].toList := by
      show [Value.int .u8 ((UInt8.ofNat (32 * k + lowOf v)).toNat : Int)] = _
      rw [first_toNat hk]
      simp only [List.cons.injEq, and_true]
      congr 1; omega
    rw [this]
    exact World.ownsRow_lit w _ 1 (Nat.le_refl _) (by decide) rfl
  have hst := Lib.hid hst
  clear e1 e2 hF
  go_loopw [6, 19] (fun b i wr => EncInv k v w b i wr) (fun _ i _ => nOf v - (intOf i).toNat)
  case atStart => exact hst.out
  case round =>
    obtain ⟨j, hj, rfl, hown, hB⟩ := hrel
    by_cases hlt : j < nOf v
    · have hlt' : (j : Int) < (nOf v : Int) := by omega
      have hsn := head_snoc (k := k) hlt
      obtain ⟨c, hc⟩ : ∃ c, UInt8.ofNat (v / 256 ^ (nOf v - 1 - j) % 256) = c := ⟨_, rfl⟩
      rw [hc] at hsn
      have q1 : IntKind.i64.wrap ((nOf v : Int) - 1) = (nOf v : Int) - 1 := IntWalk.i64_in _ (by omega)
      have q2 : IntKind.i64.wrap ((nOf v : Int) - 1 - (j : Int)) = (nOf v : Int) - 1 - (j : Int) := IntWalk.i64_in _ (by omega)
      have q3 : IntKind.i64.wrap (8 * ((nOf v : Int) - 1 - (j : Int))) = 8 * ((nOf v : Int) - 1 - (j : Int)) := IntWalk.i64_in _ (by omega)
      have q4 : (0 : Int) ≤ 8 * ((nOf v : Int) - 1 - (j : Int)) := by omega
      have q5 : (v : Int) / 2 ^ min (8 * (nOf v - 1 - j)) 64 % 256 = (c.toNat : Int) := by
        rw [← hc, show min (8 * (nOf v - 1 - j)) 64 = 8 * (nOf v - 1 - j) by omega, UInt8.toNat_ofNat_of_lt' (by show _ % 256 < 256; omega)]
        have : (256 : Nat) ^ (nOf v - 1 - j) = 2 ^ (8 * (nOf v - 1 - j)) := by rw [Nat.pow_mul]
        rw [this, Int.natCast_emod, Int.natCast_ediv, Int.natCast_pow]; rfl
      have q6 : (v : Int) / 2 ^ (8 * (nOf v - 1 - j)) % 256 = (c.toNat : Int) := by rw [← q5, show min (8 * (nOf v - 1 - j)) 64 = 8 * (nOf v - 1 - j) by omega]
      have q6 := Lib.hid q6
      clear hc hv hl hk c1 c2
      go_wp2_with (at_builtin; refine wpList_append_own _ rfl _ _ 53 rfl w.heap.size 5 i0 (.int .u8 0) 1 1 Try.underlying53 hi hz0 hz1 hz2 rfl (by decide) _ _ _ rfl (hown.alloc _) ⟨wr.heap.size, 0, none⟩ 1 1 [.int .u8 (c.toNat : Int)] rfl rfl ?c1 ?c2 ?c3 ?c4 ?c5 ?_)
      case c1 =>
        intro i u hi
        match i, hi with
        | 0, hi => simp at hi; subst hi; simp [Addr.add]; (try exact q6.out)
      case c2 => intro u hu; simp at hu; subst hu; rfl
      case c3 => unfold maxLen; omega
      case c4 => omega
      case c5 => have := hB.size; simp; omega
      intro v' w1 hown' hgrow _
      have hs : EncInv k v w v' (.int .i64 ((j : Int) + 1)) w1 := by
        refine ⟨j + 1, hlt, rfl, ?_, (hB.alloc hB.size _).grown hgrow (by have := hB.size; simp; omega) (fun i hi => (hown.lt i hi).1)⟩
        rw [hsn, u8L_snoc, ← Nat.add_assoc]
        exact hown'
      have hs := Lib.hid hs
      clear hown' hgrow hown q5 hsn
      go_wp2
      exact ⟨hs.out, by simp [intOf]; omega⟩
    · obtain rfl : j = nOf v := by omega
      rw [head_full] at hown
      obtain ⟨g, cap, hsl⟩ := Joins.ownsRow_form hown (by omega)
      rw [hsl] at hown ⊢
      have hcv : (convert 53 9 (.slice (some ⟨g, 0, none⟩) (1 + nOf v) cap)).run Try.prog wr = .ok (.string (toS (headL k v))) wr := by
        have := run_convert_bytes_back (P := Try.prog) wr 53 9 5 ⟨g, 0, none⟩ cap (headL k v) Try.underlying53 Try.underlying5 Try.underlying9 (fun i hi => by
          rw [headL_length] at hi
          have ea : (Addr.add ⟨g, 0, none⟩ i) = ⟨g, i, none⟩ := by simp [Addr.add]; omega
          rw [ea, hown.cellAt i (by omega)]
          unfold u8L
          rw [List.getElem?_map, List.getElem?_eq_getElem]; rfl)
        rw [headL_length] at this
        exact this
      clear hown hsl hst
      go_wp2_with fail
      go_ret
      exact ⟨rfl, hB⟩

/-- The argument of a head by its low bits and the bytes behind the first one. -/
def argV (L : Nat) (l : List UInt8) : Nat := if l = [] then L else valB l
set_option maxHeartbeats 1000000 in
set_option maxRecDepth 100000 in
theorem pargument_any (L : Nat) (s : ByteArray) (w : World) (hL : L ≤ 31) (h8 : s.size ≤ 8) : Calls Try.prog 52 #[.int .u8 (L : Int), .string s] w fun e w' => e = .returned (.int .u64 (argV L s.data.toList : Int)) ∧ w = w' := by
  have hlen : s.data.toList.length = s.size := (Lib.size_eq s).symm
  by_cases h0 : s.size = 0
  · have hs : s = ⟨#[]⟩ := by
      have : s.data.toList = [] := List.eq_nil_of_length_eq_zero (by omega)
      rw [← toS_data s, this]; rfl
    subst hs
    have e1 : argV L (ByteArray.mk #[]).data.toList = L := if_pos rfl
    have e2 : IntKind.u64.wrap (L : Int) = (L : Int) := IntWalk.u64_in _ (by omega)
    rw [e1]
    clear h0 h8 hL hlen
    go_enter Try.func52, Try.ntmps52
    go_wp2_with fail
    go_ret
    exact ⟨rfl, rfl⟩
  · have hE := Lib.hid (show valB s.data.toList = argV L s.data.toList by unfold argV; rw [if_neg (fun e => by rw [e] at hlen; simp at hlen; omega)])
    have hn : s.toList.isEmpty = false := by
      rw [Lib.toList_data]
      cases h : s.data.toList with
      | nil => rw [h] at hlen; simp at hlen; omega
      | cons _ _ => rfl
    have h8' : (s.size : Int) ≤ 8 := by omega
    clear hL
    go_enter Try.func52, Try.ntmps52
    go_wp2_with fail
    go_loopw [5, 13] (fun x i wr => ∃ j u : Nat, x = .int .u64 (u : Int) ∧ i = .int .i64 (j : Int) ∧ j ≤ s.size ∧ wr = w ∧ Hid (u = valB (s.data.toList.take j))) (fun _ i _ => s.size - (intOf i).toNat)
    case atStart => exact ⟨0, 0, rfl, rfl, Nat.zero_le _, by trivial, rfl⟩
    case round =>
      obtain ⟨j, u, rfl, rfl, hj, rfl, hu⟩ := hrel
      by_cases hlt : j < s.size
      · have hlt' : (j : Int) < (s.size : Int) := by omega
        obtain ⟨d, hd⟩ : ∃ d, s[j] = d := ⟨_, rfl⟩
        have hdn : s[j].toNat = d.toNat := by rw [hd]
        have hri : s.data.toList[j]? = some d := by
          rw [← hd, List.getElem?_eq_getElem (by omega)]; rfl
        have hv := Lib.hid (show 256 * u + d.toNat = valB (s.data.toList.take (j + 1)) by
          rw [List.take_add_one, hri]
          show _ = valB (s.data.toList.take j ++ [d])
          rw [valB_snoc, ← hu.out])
        have hub : u < 72057594037927936 := by
          have := valB_lt (s.data.toList.take j)
          rw [← hu.out, List.length_take, hlen, Nat.min_eq_left (by omega)] at this
          exact Nat.lt_of_lt_of_le this (Nat.pow_le_pow_right (n := 256) (by decide) (show j ≤ 7 by omega))
        have hd8 := d.toNat_lt
        obtain ⟨D, hD⟩ : ∃ D, d.toNat = D := ⟨_, rfl⟩
        rw [hD] at hdn hv hd8
        have q1 : IntKind.u64.wrap ((u : Int) * 256) = 256 * (u : Int) := by rw [IntWalk.u64_in _ (by omega)]; omega
        have q2 : IntKind.u64.wrap (D : Int) = (D : Int) := IntWalk.u64_in _ (by omega)
        have q3 : bits .or .u64 (256 * (u : Int)) (D : Int) = 256 * (u : Int) + (D : Int) := or_byte _ _ (by omega) (by omega) (by omega) (by omega) (by omega)
        clear hu hd hD hub hd8 hri hE
        go_wp2_with fail
        exact ⟨⟨j + 1, 256 * u + D, rfl, rfl, hlt, by trivial, hv.out⟩, by simp [intOf]; omega⟩
      · obtain rfl : j = s.size := by omega
        have hq := Lib.hid (show u = argV L s.data.toList by rw [hu.out, ← hE.out, List.take_of_length_le (by omega)])
        have hlt' : ¬ (s.size : Int) < (s.size : Int) := by omega
        clear hu hE
        go_wp2_with fail
        go_ret
        exact ⟨by rw [hq.out]; rfl, rfl⟩
end Go.Proofs.Ytglhbjfogbcddaa.Cb
