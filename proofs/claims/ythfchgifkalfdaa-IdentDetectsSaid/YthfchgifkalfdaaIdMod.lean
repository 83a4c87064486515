/-
  Plain mathematics of layer 4: the check digits detect a byte that is replaced and neighbours that change places.
-/
import Derived.Test.YthfchgifkalfdaaIdSealM
namespace Go.Proofs.Ythfchgifkalfdaa.Id
open Go.RowKit

def modF (r : Nat) (l : List UInt8) : Nat := l.foldl (fun r c => (r * 256 + c.toNat) % 97) r
theorem modL_app (x y : List UInt8) : modL (x ++ y) = modF (modL x) y := by unfold modL modF; rw [List.foldl_append]
theorem modF_cons (r : Nat) (c : UInt8) (l : List UInt8) : modF r (c :: l) = modF ((r * 256 + c.toNat) % 97) l := rfl
theorem modF_inj : ∀ (l : List UInt8) (r q : Nat), r < 97 → q < 97 → modF r l = modF q l → r = q := by
  intro l
  induction l with
  | nil => intro r q _ _ h; exact h
  | cons c l ih =>
    intro r q hr hq h
    rw [modF_cons, modF_cons] at h
    have := ih _ _ (Nat.mod_lt _ (by decide)) (Nat.mod_lt _ (by decide)) h
    omega
theorem mod_replace {x y : List UInt8} {c d : UInt8} (hc : 45 ≤ c.toNat ∧ c.toNat ≤ 122) (hd : 45 ≤ d.toNat ∧ d.toNat ≤ 122) (h : modL (x ++ c :: y) = modL (x ++ d :: y)) : c = d := by
  rw [modL_app, modL_app, modF_cons, modF_cons] at h
  have := modF_inj _ _ _ (Nat.mod_lt _ (by decide)) (Nat.mod_lt _ (by decide)) h
  exact UInt8.toNat_inj.1 (by omega)
theorem mod_swap {x y : List UInt8} {c d : UInt8} (hc : 45 ≤ c.toNat ∧ c.toNat ≤ 122) (hd : 45 ≤ d.toNat ∧ d.toNat ≤ 122) (h : modL (x ++ c :: d :: y) = modL (x ++ d :: c :: y)) : c = d := by
  rw [modL_app, modL_app, modF_cons, modF_cons, modF_cons, modF_cons] at h
  have := modF_inj _ _ _ (Nat.mod_lt _ (by decide)) (Nat.mod_lt _ (by decide)) h
  exact UInt8.toNat_inj.1 (by omega)
theorem okU_rng {c : UInt8} (h : okU c = true ∨ c = 46) : 45 ≤ c.toNat ∧ c.toNat ≤ 122 := by
  rcases h with h | rfl
  · unfold okU okZ letZ digZ at h
    simp only [Bool.or_eq_true, Bool.and_eq_true, decide_eq_true_eq, beq_iff_eq] at h
    omega
  · decide
theorem ckL_inj {r q : Nat} (hr : r < 97) (hq : q < 97) (h : ckL r = ckL q) : r = q := by
  unfold ckL at h
  have b1 := ckN_bd r
  have b2 := ckN_bd q
  rw [List.cons.injEq, List.cons.injEq] at h
  have h1 := congrArg UInt8.toNat h.1
  have h2 := congrArg UInt8.toNat h.2.1
  rw [UInt8.toNat_ofNat_of_lt' (by show _ < 256; omega), UInt8.toNat_ofNat_of_lt' (by show _ < 256; omega)] at h1
  rw [UInt8.toNat_ofNat_of_lt' (by show _ < 256; omega), UInt8.toNat_ofNat_of_lt' (by show _ < 256; omega)] at h2
  have e : ckN r = ckN q := by omega
  unfold ckN at e
  omega
/-- What Open accepts among strings that end with a slash and the check digits of r. -/
theorem open_mod {X : ByteArray} {l : List UInt8} {r : Nat} (hX : X.data.toList = l ++ 47 :: ckL r) (hr : r < 97) (h : openE X = 0) : idOk (toB l) = true ∧ modL l = r := by
  obtain ⟨h4, h1, h2, h3⟩ := openE_zero h
  have hs : X.size = l.length + 3 := by rw [Lib.size_eq, hX, List.length_append]; rfl
  have e1 : opId X = toB l := by
    apply ba_ext
    unfold opId
    rw [Lib.extract_data, hs, hX, List.drop_zero, show l.length + 3 - 3 - 0 = l.length by omega, List.take_left]
    rfl
  have e2 : (opDg X).data.toList = ckL r := by
    unfold opDg
    rw [data_drop, hs, hX, show l.length + 3 - 2 = l.length + 1 by omega, List.drop_append, List.drop_eq_nil_of_le (by omega)]
    simp
  rw [e1] at h1 h3
  refine ⟨h1, ?_⟩
  have e3 : ckL (modL l) = ckL r := by rw [← e2, h3]; rfl
  exact ckL_inj (modL_lt l) hr e3
theorem toB_bytes {l : List UInt8} (h : idOk (toB l) = true) : ∀ c ∈ l, 45 ≤ c.toNat ∧ c.toNat ≤ 122 := fun c hc => okU_rng (id_bytes h c hc)

/-! ### The two changes, as the law makes them -/
theorem split_at {s : ByteArray} {k : Nat} (h : k < s.size) : s.data.toList = s.data.toList.take k ++ s[k] :: s.data.toList.drop (k + 1) := by
  rw [← drop_cons s k h, List.take_append_drop]
theorem take_seal {s : ByteArray} {k : Nat} (h : k ≤ s.size) : ((sealB s).extract 0 k).data.toList = s.data.toList.take k := by
  rw [Lib.extract_data, sealB_data, List.drop_zero, Nat.sub_zero, List.take_append_of_le_length (by rw [len_data]; exact h)]
theorem drop_seal {s : ByteArray} {k : Nat} (h : k ≤ s.size) : ((sealB s).extract k (sealB s).size).data.toList = s.data.toList.drop k ++ 47 :: ckL (modL s.data.toList) := by
  rw [data_drop, sealB_data, List.drop_append_of_le_length (by rw [len_data]; exact h)]
theorem one_seal {s : ByteArray} {k : Nat} (h : k < s.size) : ((sealB s).extract k (k + 1)).data.toList = [s[k]] := by
  rw [Lib.extract_data, sealB_data, List.drop_append_of_le_length (by rw [len_data]; omega), drop_cons s k h, show k + 1 - k = 1 by omega]
  rfl
theorem app_data (a b : ByteArray) : (a ++ b).data.toList = a.data.toList ++ b.data.toList := by rw [ByteArray.data_append, Array.toList_append]
theorem detect_one {s : ByteArray} {k : Nat} {c : UInt8} (hid : idOk s = true) (h : k < s.size) (hc : c ≠ s[k]) : openE (((sealB s).extract 0 k ++ ⟨#[c]⟩) ++ (sealB s).extract (k + 1) (sealB s).size) ≠ 0 := by
  intro h0
  have hX : (((sealB s).extract 0 k ++ ⟨#[c]⟩) ++ (sealB s).extract (k + 1) (sealB s).size).data.toList = (s.data.toList.take k ++ c :: s.data.toList.drop (k + 1)) ++ 47 :: ckL (modL s.data.toList) := by
    rw [app_data, app_data, take_seal (by omega), drop_seal (by omega)]
    simp
  obtain ⟨h1, h2⟩ := open_mod hX (modL_lt _) h0
  have b1 := toB_bytes h1 c (by simp)
  have b2 := okU_rng (id_bytes hid s[k] (mem_data s k h))
  have e : modL s.data.toList = modL (s.data.toList.take k ++ s[k] :: s.data.toList.drop (k + 1)) := by rw [← split_at h]
  rw [e] at h2
  exact hc (mod_replace b1 b2 h2)
theorem detect_two {s : ByteArray} {k : Nat} (hid : idOk s = true) (h : k + 1 < s.size) (hc : s[k] ≠ s[k + 1]) :
    openE ((((sealB s).extract 0 k ++ (sealB s).extract (k + 1) (k + 2)) ++ (sealB s).extract k (k + 1)) ++ (sealB s).extract (k + 2) (sealB s).size) ≠ 0 := by
  intro h0
  have hX : ((((sealB s).extract 0 k ++ (sealB s).extract (k + 1) (k + 2)) ++ (sealB s).extract k (k + 1)) ++ (sealB s).extract (k + 2) (sealB s).size).data.toList =
      (s.data.toList.take k ++ s[k + 1] :: s[k] :: s.data.toList.drop (k + 2)) ++ 47 :: ckL (modL s.data.toList) := by
    rw [app_data, app_data, app_data, take_seal (by omega), drop_seal (by omega), one_seal (by omega), one_seal (by omega)]
    simp
  obtain ⟨_, h2⟩ := open_mod hX (modL_lt _) h0
  have b1 := okU_rng (id_bytes hid s[k] (mem_data s k (by omega)))
  have b2 := okU_rng (id_bytes hid s[k + 1] (mem_data s (k + 1) h))
  have e : modL s.data.toList = modL (s.data.toList.take k ++ s[k] :: s[k + 1] :: s.data.toList.drop (k + 2)) := by
    rw [← drop_cons s (k + 1) h, ← split_at (by omega : k < s.size)]
  rw [e] at h2
  exact hc (mod_swap b2 b1 h2).symm
end Go.Proofs.Ythfchgifkalfdaa.Id
