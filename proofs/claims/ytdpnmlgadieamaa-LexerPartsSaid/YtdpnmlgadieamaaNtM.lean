/-
  Numbers in texts, as plain mathematics: what Parse and Text of layer 1 return, and that they take each other back.
-/
import Derived.Lib.Strings
import Derived.Lib.IndexBytes
import Derived.Lib.Hide
import Derived.WalkKit
import Derived.RowKit
namespace Go.Proofs.Ytdpnmlgadieamaa
open Go.RowKit

/-! ### Digits and their value: plain lists of bytes -/
def dig (c : UInt8) : Bool := decide (48 ≤ c.toNat) && decide (c.toNat ≤ 57)
def allDig (l : List UInt8) : Bool := l.all dig
def natB (l : List UInt8) : Bool := !l.isEmpty && l.head? != some 48 && allDig l
def valL (l : List UInt8) : Nat := l.foldl (fun n c => 10 * n + (c.toNat - 48)) 0
theorem valL_snoc (l : List UInt8) (c : UInt8) : valL (l ++ [c]) = 10 * valL l + (c.toNat - 48) := by unfold valL; rw [List.foldl_append]; rfl
theorem allDig_snoc (l : List UInt8) (c : UInt8) : allDig (l ++ [c]) = (allDig l && dig c) := by unfold allDig; rw [List.all_append]; simp
theorem take_snoc (s : ByteArray) (k : Nat) (h : k < s.size) : s.data.toList.take (k + 1) = s.data.toList.take k ++ [s[k]] := by
  rw [List.take_succ_eq_append_getElem (by simpa using h)]; rfl
theorem foldl_ge (l : List UInt8) (n : Nat) : n ≤ l.foldl (fun n c => 10 * n + (c.toNat - 48)) n := by
  induction l generalizing n with
  | nil => exact Nat.le_refl _
  | cons c l ih => exact Nat.le_trans (by omega) (ih (10 * n + (c.toNat - 48)))
theorem valL_take (l : List UInt8) (k : Nat) : valL (l.take k) ≤ valL l := by
  have : valL l = (l.drop k).foldl (fun n c => 10 * n + (c.toNat - 48)) (valL (l.take k)) := by
    unfold valL
    rw [← List.foldl_append, List.take_append_drop]
  rw [this]; exact foldl_ge _ _
theorem allDig_take (l : List UInt8) (k : Nat) (h : allDig l = true) : allDig (l.take k) = true := by
  unfold allDig at *
  rw [List.all_eq_true] at *
  exact fun x hx => h x (List.mem_of_mem_take hx)
theorem dig_at (s : ByteArray) (k : Nat) (h : k < s.size) (ha : allDig s.data.toList = true) : 48 ≤ s[k].toNat ∧ s[k].toNat ≤ 57 := by
  unfold allDig at ha
  rw [List.all_eq_true] at ha
  have hm : s[k] ∈ s.data.toList := by
    show s.data[k] ∈ s.data.toList
    simp
  have := ha _ hm
  unfold dig at this
  simpa using this

theorem ret_bool {a b : Bool} (h : a = b) : Ending.returned (.bool a) = .returned (.bool b) := by rw [h]

def natS (s : ByteArray) : Bool := natB s.data.toList
def valS (s : ByteArray) : Nat := valL s.data.toList
def NatInv (s : ByteArray) (i : Value) : Prop := ∃ k : Nat, k ≤ s.size ∧ i = .int .i64 k ∧ Hid (allDig (s.data.toList.take k) = true)

theorem nil_of_zero (s : ByteArray) (h : s.size = 0) : s.toList = [] := by
  rw [Lib.toList_data]; exact List.eq_nil_of_length_eq_zero (by rw [← Lib.size_eq]; exact h)
theorem ne_nil_of (s : ByteArray) (h : 0 < s.size) : ¬ s.toList = [] := by
  rw [Lib.toList_data]; intro e
  have := Lib.size_eq s
  rw [e, List.length_nil] at this
  omega
theorem head_of (s : ByteArray) (h : 0 < s.size) : s.data.toList.head? = some s[0] := by
  rw [← Lib.data_getElem? s 0 h, List.head?_eq_getElem?]
theorem natB_zero (s : ByteArray) (h : s.size = 0) : natB s.data.toList = false := by
  have := nil_of_zero s h
  rw [Lib.toList_data] at this
  rw [this]; rfl
theorem natB_head (s : ByteArray) (h : 0 < s.size) (h0 : s[0].toNat = 48) : natB s.data.toList = false := by
  unfold natB
  rw [head_of s h]
  have : s[0] = 48 := UInt8.toNat_inj.1 h0
  rw [this]; simp
theorem natB_else (s : ByteArray) (h : 0 < s.size) (h0 : ¬ s[0].toNat = 48) : natB s.data.toList = allDig s.data.toList := by
  unfold natB
  rw [head_of s h]
  have h1 : ¬ s[0] = 48 := fun e => h0 (by rw [e]; rfl)
  have h2 : s.data.toList.isEmpty = false := by
    have := ne_nil_of s h
    rw [Lib.toList_data] at this
    simpa using this
  rw [h2]
  have : (some s[0] != some (48 : UInt8)) = true := by simpa using h1
  rw [this]; rfl
theorem allDig_no (s : ByteArray) (k : Nat) (h : k < s.size) (hd : s[k].toNat < 48 ∨ 57 < s[k].toNat) : allDig s.data.toList = false := by
  cases ha : allDig s.data.toList
  · rfl
  · have := dig_at s k h ha; omega

def valQ (v : Nat) : Int := if v ≤ 1099511627776 then v else 0
def valE (v : Nat) : Int := if v ≤ 1099511627776 then 0 else 9
def ValInv (s : ByteArray) (n i : Value) : Prop := ∃ k m : Nat, k ≤ s.size ∧ i = .int .i64 k ∧ n = .int .i64 (m : Int) ∧ m ≤ 1099511627776 ∧ Hid (m = valL (s.data.toList.take k))

/-! ### Parse -/
def body (l : List UInt8) : List UInt8 := if l.head? = some 45 then l.drop 1 else l
def parE (l : List UInt8) : Int := if l = [] then 3 else if l = [48] then 0 else if natB (body l) = false then 5 else valE (valL (body l))
def parQ (l : List UInt8) : Int := if l = [] then 0 else if l = [48] then 0 else if natB (body l) = false then 0 else if l.head? = some 45 then -valQ (valL (body l)) else valQ (valL (body l))
theorem valQ_bd (v : Nat) : 0 ≤ valQ v ∧ valQ v ≤ 1099511627776 := by unfold valQ; split <;> omega
theorem natB_dig (l : List UInt8) (h : natB l = true) : allDig l = true := by
  unfold natB at h; simp at h; exact h.2
theorem body_minus (s : ByteArray) (h : 0 < s.size) (h0 : s[0].toNat = 45) : (s.extract 1 s.size).data.toList = body s.data.toList ∧ s.data.toList.head? = some 45 := by
  have e : s[0] = 45 := UInt8.toNat_inj.1 h0
  have hh := head_of s h
  rw [e] at hh
  refine ⟨?_, hh⟩
  unfold body
  rw [if_pos hh, Lib.extract_to_end]
theorem body_plain (s : ByteArray) (h : 0 < s.size) (h0 : ¬ s[0].toNat = 45) : s.data.toList = body s.data.toList ∧ ¬ s.data.toList.head? = some 45 := by
  have hh := head_of s h
  have hne : ¬ s.data.toList.head? = some 45 := by
    rw [hh]; intro e; injection e with e; rw [e] at h0; exact h0 rfl
  refine ⟨?_, hne⟩
  unfold body
  rw [if_neg hne]
theorem par_else (l : List UInt8) (h1 : ¬ l = []) (h2 : ¬ l = [48]) :
    (natB (body l) = false → 0 = parQ l ∧ 5 = parE l) ∧ (natB (body l) = true → l.head? = some 45 → -valQ (valL (body l)) = parQ l ∧ valE (valL (body l)) = parE l) ∧
    (natB (body l) = true → ¬ l.head? = some 45 → valQ (valL (body l)) = parQ l ∧ valE (valL (body l)) = parE l) := by
  unfold parQ parE
  rw [if_neg h1, if_neg h1, if_neg h2, if_neg h2]
  refine ⟨fun h => ?_, fun h hh => ?_, fun h hh => ?_⟩
  · rw [if_pos h, if_pos h]; exact ⟨rfl, rfl⟩
  · simp [h, hh]
  · simp [h, hh]
def ParEnd (s : ByteArray) (w : World) (e : Ending) (w' : World) : Prop := e = .returned (.tuple #[.int .i64 (parQ s.data.toList), .int .i64 (parE s.data.toList)]) ∧ w = w'

/-- The last k digits of m. -/
def lowD (m : Nat) : Nat → List UInt8
  | 0 => []
  | k + 1 => UInt8.ofNat (48 + m / 10 ^ k % 10) :: lowD m k
theorem lowD_length (m k : Nat) : (lowD m k).length = k := by
  induction k with
  | zero => rfl
  | succ k ih => simp [lowD, ih]
/-- How many digits m has, at most f + 1. -/
def lenD : Nat → Nat → Nat
  | 0, _ => 1
  | f + 1, m => if m < 10 then 1 else lenD f (m / 10) + 1
/-- k digits are those of m. -/
def IsLen (m k : Nat) : Prop := 1 ≤ k ∧ m / 10 ^ k = 0 ∧ (k = 1 ∨ m / 10 ^ (k - 1) ≠ 0)
theorem isLen_unique (m k l : Nat) (h : IsLen m k) (h' : IsLen m l) : k = l := by
  have mono : ∀ a b : Nat, a ≤ b → m / 10 ^ a = 0 → m / 10 ^ b = 0 := fun a b hab h0 => by
    have : m < 10 ^ a := by
      rcases Nat.lt_or_ge m (10 ^ a) with x | x
      · exact x
      · have := Nat.div_pos x (Nat.pow_pos (by decide)); omega
    exact Nat.div_eq_of_lt (Nat.lt_of_lt_of_le this (Nat.pow_le_pow_right (by decide) hab))
  rcases Nat.lt_trichotomy k l with x | x | x
  · rcases h'.2.2 with y | y
    · have := h.1; omega
    · exact absurd (mono k (l - 1) (by omega) h.2.1) y
  · exact x
  · rcases h.2.2 with y | y
    · have := h'.1; omega
    · exact absurd (mono l (k - 1) (by omega) h'.2.1) y
theorem lenD_isLen (f m : Nat) (h : m < 10 ^ (f + 1)) : IsLen m (lenD f m) := by
  induction f generalizing m with
  | zero => exact ⟨by simp [lenD], by simp [lenD]; simpa using h, .inl rfl⟩
  | succ f ih =>
    unfold lenD
    by_cases hm : m < 10
    · rw [if_pos hm]; exact ⟨by omega, by simp; exact hm, .inl rfl⟩
    · rw [if_neg hm]
      have h1 : m / 10 < 10 ^ (f + 1) := by rw [Nat.div_lt_iff_lt_mul (by decide)]; rw [Nat.pow_succ] at h; exact h
      obtain ⟨a, b, c⟩ := ih (m / 10) h1
      refine ⟨by omega, ?_, .inr ?_⟩
      · rw [Nat.pow_succ', ← Nat.div_div_eq_div_mul]; exact b
      · rw [Nat.add_sub_cancel]
        have e : lenD f (m / 10) = (lenD f (m / 10) - 1) + 1 := by omega
        rw [e, Nat.pow_succ', ← Nat.div_div_eq_div_mul]
        rcases c with c | c
        · rw [c]; simp; omega
        · exact c
def digs (m : Nat) : List UInt8 := lowD m (lenD 19 m)
def textL (n : Int) : List UInt8 := if n < 0 then 45 :: digs n.natAbs else digs n.natAbs
def textB (n : Int) : ByteArray := ⟨(textL n).toArray⟩
theorem digs_of (m k : Nat) (hm : m ≤ 9223372036854775808) (h : IsLen m k) : digs m = lowD m k := by
  unfold digs
  rw [isLen_unique m _ k (lenD_isLen 19 m (Nat.lt_of_le_of_lt hm (by decide))) h]

theorem valL_lowD (m k : Nat) : valL (lowD m k) = m % 10 ^ k := by
  have gen : ∀ (k a : Nat), (lowD m k).foldl (fun n c => 10 * n + (c.toNat - 48)) a = a * 10 ^ k + m % 10 ^ k := by
    intro k
    induction k with
    | zero => intro a; simp [lowD, Nat.mod_one]
    | succ k ih =>
      intro a
      unfold lowD
      rw [List.foldl_cons, ih]
      have e : (UInt8.ofNat (48 + m / 10 ^ k % 10)).toNat = 48 + m / 10 ^ k % 10 := by
        rw [UInt8.toNat_ofNat']; omega
      rw [e, Nat.add_sub_cancel_left, Nat.mod_pow_succ, Nat.pow_succ, Nat.add_mul, Nat.mul_comm (10 ^ k) 10, ← Nat.mul_assoc, Nat.mul_comm a 10, Nat.mul_comm (m / 10 ^ k % 10)]
      omega
  unfold valL
  rw [gen]; omega
theorem allDig_lowD (m k : Nat) : allDig (lowD m k) = true := by
  induction k with
  | zero => rfl
  | succ k ih =>
    unfold lowD
    unfold allDig at *
    rw [List.all_cons, ih]
    have e : (UInt8.ofNat (48 + m / 10 ^ k % 10)).toNat = 48 + m / 10 ^ k % 10 := by rw [UInt8.toNat_ofNat']; omega
    unfold dig
    rw [e]
    simp; omega
theorem body_48 : body [48] = [48] := by decide
theorem natB_of (l : List UInt8) (h1 : ¬ l = []) (h2 : ¬ l.head? = some 48) (h3 : allDig l = true) : natB l = true := by
  unfold natB
  rw [h3]
  have : l.isEmpty = false := by simpa using h1
  rw [this]
  have : (l.head? != some 48) = true := by simpa using h2
  rw [this]; rfl

/-- How the reference ends behind its loop. -/
theorem ref_end (l : List UInt8) (h1 : ¬ l = []) (hb : ¬ body l = []) (hz : l = [48] ∨ ¬ (body l).head? = some 48) (hd : allDig (body l) = true) :
    (1099511627776 < valL (body l) → 0 = parQ l ∧ 9 = parE l) ∧
    (valL (body l) ≤ 1099511627776 → l.head? = some 45 → -(valL (body l) : Int) = parQ l ∧ 0 = parE l) ∧
    (valL (body l) ≤ 1099511627776 → ¬ l.head? = some 45 → (valL (body l) : Int) = parQ l ∧ 0 = parE l) := by
  by_cases h48 : l = [48]
  · subst h48
    rw [body_48]
    exact ⟨fun h => absurd h (by decide), fun _ h => absurd h (by decide), fun _ _ => by decide⟩
  · have hn := natB_of (body l) hb (by rcases hz with h | h; exact absurd h h48; exact h) hd
    have p := par_else l h1 h48
    refine ⟨fun h => ?_, fun h hm => ?_, fun h hm => ?_⟩
    · by_cases hm : l.head? = some 45
      · have q := p.2.1 hn hm
        rw [← q.1, ← q.2]; unfold valQ valE
        rw [if_neg (by omega), if_neg (by omega)]; exact ⟨rfl, rfl⟩
      · have q := p.2.2 hn hm
        rw [← q.1, ← q.2]; unfold valQ valE
        rw [if_neg (by omega), if_neg (by omega)]; exact ⟨rfl, rfl⟩
    · have q := p.2.1 hn hm
      rw [← q.1, ← q.2]; unfold valQ valE
      rw [if_pos h, if_pos h]; exact ⟨rfl, rfl⟩
    · have q := p.2.2 hn hm
      rw [← q.1, ← q.2]; unfold valQ valE
      rw [if_pos h, if_pos h]; exact ⟨rfl, rfl⟩
/-- What is no text of a number is refused. -/
theorem ref_bad (l : List UInt8) (h1 : ¬ l = []) (hb : natB (body l) = false) (h48 : ¬ l = [48]) : 0 = parQ l ∧ 5 = parE l := (par_else l h1 h48).1 hb

theorem lowD_snoc (k : Nat) : ∀ m : Nat, lowD m (k + 1) = lowD (m / 10) k ++ [UInt8.ofNat (48 + m % 10)] := by
  induction k with
  | zero => intro m; simp [lowD]
  | succ k ih =>
    intro m
    have e : lowD m (k + 1 + 1) = UInt8.ofNat (48 + m / 10 ^ (k + 1) % 10) :: lowD m (k + 1) := rfl
    have e2 : lowD (m / 10) (k + 1) = UInt8.ofNat (48 + m / 10 / 10 ^ k % 10) :: lowD (m / 10) k := rfl
    rw [e, e2, ih m, Nat.pow_succ', ← Nat.div_div_eq_div_mul]
    rfl
theorem foldl_gen (l : List UInt8) : ∀ a : Nat, l.foldl (fun n c => 10 * n + (c.toNat - 48)) a = a * 10 ^ l.length + valL l := by
  induction l with
  | nil => intro a; simp [valL]
  | cons c l ih =>
    intro a
    have h1 := ih (10 * a + (c.toNat - 48))
    have h2 := ih (10 * 0 + (c.toNat - 48))
    unfold valL
    rw [List.foldl_cons, List.foldl_cons, h1, h2, List.length_cons, Nat.pow_succ, Nat.mul_zero, Nat.zero_add, Nat.add_mul]
    have : 10 * a * 10 ^ l.length = a * (10 ^ l.length * 10) := by rw [Nat.mul_comm (10 ^ l.length) 10, ← Nat.mul_assoc, Nat.mul_comm a 10]
    omega
theorem valL_cons (c : UInt8) (l : List UInt8) : valL (c :: l) = (c.toNat - 48) * 10 ^ l.length + valL l := by
  have := foldl_gen l (10 * 0 + (c.toNat - 48))
  rw [Nat.mul_zero, Nat.zero_add] at this
  rw [← this]
  unfold valL
  rw [List.foldl_cons, Nat.mul_zero, Nat.zero_add]
theorem allDig_cons (c : UInt8) (l : List UInt8) (h : allDig (c :: l) = true) : 48 ≤ c.toNat ∧ c.toNat ≤ 57 ∧ allDig l = true := by
  unfold allDig at *
  rw [List.all_cons] at h
  simp [dig] at h
  exact ⟨h.1.1, h.1.2, by simpa [dig] using h.2⟩
theorem valL_lt (l : List UInt8) (h : allDig l = true) : valL l < 10 ^ l.length := by
  induction l with
  | nil => simp [valL]
  | cons c l ih =>
    obtain ⟨h1, h2, h3⟩ := allDig_cons c l h
    have := ih h3
    rw [valL_cons, List.length_cons, Nat.pow_succ]
    have : (c.toNat - 48) * 10 ^ l.length ≤ 9 * 10 ^ l.length := Nat.mul_le_mul_right _ (by omega)
    omega
theorem lowD_val (n : Nat) : ∀ l : List UInt8, l.length = n → allDig l = true → lowD (valL l) l.length = l := by
  induction n with
  | zero =>
    intro l hl _
    have : l = [] := List.eq_nil_of_length_eq_zero hl
    subst this; rfl
  | succ n ih =>
    intro l hl hd
    rcases List.eq_nil_or_concat l with rfl | ⟨t, c, rfl⟩
    · simp at hl
    · rw [List.concat_eq_append] at *
      have ht : t.length = n := by simpa using hl
      rw [allDig_snoc, Bool.and_eq_true] at hd
      have hc : 48 ≤ c.toNat ∧ c.toNat ≤ 57 := by have := hd.2; unfold dig at this; simpa using this
      rw [List.length_append, List.length_singleton, lowD_snoc, valL_snoc]
      have e1 : (10 * valL t + (c.toNat - 48)) / 10 = valL t := by omega
      have e2 : (10 * valL t + (c.toNat - 48)) % 10 = c.toNat - 48 := by omega
      rw [e1, e2, ih t ht hd.1]
      congr 2
      rw [show 48 + (c.toNat - 48) = c.toNat by omega]
      exact UInt8.ofNat_toNat
theorem natB_cons (l : List UInt8) (h : natB l = true) : ∃ c t, l = c :: t ∧ 49 ≤ c.toNat ∧ c.toNat ≤ 57 ∧ allDig l = true := by
  have hd := natB_dig l h
  cases l with
  | nil => simp [natB] at h
  | cons c t =>
    refine ⟨c, t, rfl, ?_, (allDig_cons c t hd).2.1, hd⟩
    have := (allDig_cons c t hd).1
    rcases Nat.lt_or_ge c.toNat 49 with x | x
    · have e : c.toNat = 48 := by omega
      have e' : c = 48 := UInt8.toNat_inj.1 e
      subst e'
      simp [natB] at h
    · exact x
theorem digs_val (l : List UInt8) (h : natB l = true) (hv : valL l ≤ 9223372036854775808) : digs (valL l) = l ∧ 0 < valL l := by
  obtain ⟨c, t, rfl, h1, h2, hd⟩ := natB_cons l h
  have hlt := valL_lt _ hd
  have hp : 10 ^ t.length ≤ valL (c :: t) := by
    rw [valL_cons]
    have : 1 * 10 ^ t.length ≤ (c.toNat - 48) * 10 ^ t.length := Nat.mul_le_mul_right _ (by omega)
    omega
  have hpos : 0 < 10 ^ t.length := Nat.pow_pos (by decide)
  refine ⟨?_, by omega⟩
  rw [digs_of _ (c :: t).length hv ⟨by simp, Nat.div_eq_of_lt hlt, .inr ?_⟩]
  · exact lowD_val _ _ rfl hd
  · rw [List.length_cons, Nat.add_sub_cancel]
    have := Nat.div_pos hp hpos
    omega

/-- What Parse accepts is the text of its result. -/
theorem par_back (l : List UInt8) (h : parE l = 0) : textL (parQ l) = l ∧ -1099511627776 ≤ parQ l ∧ parQ l ≤ 1099511627776 := by
  by_cases h1 : l = []
  · subst h1; exact absurd h (by decide)
  · by_cases h2 : l = [48]
    · subst h2; exact ⟨by decide, by decide, by decide⟩
    · have p := par_else l h1 h2
      cases hb : natB (body l)
      · have q := p.1 hb; rw [h] at q; exact absurd q.2 (by decide)
      · have hv : valL (body l) ≤ 1099511627776 := by
          by_cases hm : l.head? = some 45
          · have q := p.2.1 hb hm
            rw [h] at q
            have q := q.2
            unfold valE at q
            by_cases x : valL (body l) ≤ 1099511627776
            · exact x
            · rw [if_neg x] at q; exact absurd q (by decide)
          · have q := p.2.2 hb hm
            rw [h] at q
            have q := q.2
            unfold valE at q
            by_cases x : valL (body l) ≤ 1099511627776
            · exact x
            · rw [if_neg x] at q; exact absurd q (by decide)
        obtain ⟨d1, d2⟩ := digs_val (body l) hb (by omega)
        by_cases hm : l.head? = some 45
        · have q := p.2.1 hb hm
          rw [← q.1]
          unfold valQ
          rw [if_pos hv]
          refine ⟨?_, by omega, by omega⟩
          unfold textL
          rw [if_pos (by omega), Int.natAbs_neg, Int.natAbs_natCast, d1]
          unfold body
          rw [if_pos hm]
          cases l with
          | nil => exact absurd rfl h1
          | cons c t => simp at hm; subst hm; rfl
        · have q := p.2.2 hb hm
          rw [← q.1]
          unfold valQ
          rw [if_pos hv]
          refine ⟨?_, by omega, by omega⟩
          unfold textL
          rw [if_neg (by omega), Int.natAbs_natCast, d1]
          unfold body
          rw [if_neg hm]

theorem digs_head (M : Nat) (hM : 0 < M) (hm : M ≤ 9223372036854775808) : ∃ c t, digs M = c :: t ∧ 49 ≤ c.toNat ∧ c.toNat ≤ 57 ∧ valL (digs M) = M ∧ natB (digs M) = true := by
  have hL := lenD_isLen 19 M (Nat.lt_of_le_of_lt hm (by decide))
  unfold digs
  obtain ⟨k, hk⟩ : ∃ k, lenD 19 M = k + 1 := ⟨lenD 19 M - 1, by have := hL.1; omega⟩
  rw [hk] at hL ⊢
  have h0 : M / 10 ^ k / 10 = 0 := by rw [Nat.div_div_eq_div_mul, ← Nat.pow_succ]; exact hL.2.1
  have h1 : M / 10 ^ k ≠ 0 := by
    rcases hL.2.2 with x | x
    · have : k = 0 := by omega
      subst this; simp; omega
    · simpa using x
  have e : (UInt8.ofNat (48 + M / 10 ^ k % 10)).toNat = 48 + M / 10 ^ k := by rw [UInt8.toNat_ofNat']; omega
  have hv : valL (lowD M (k + 1)) = M := by
    rw [valL_lowD]
    refine Nat.mod_eq_of_lt ?_
    rcases Nat.lt_or_ge M (10 ^ (k + 1)) with x | x
    · exact x
    · have := Nat.div_pos x (Nat.pow_pos (by decide)); have := hL.2.1; omega
  refine ⟨_, _, rfl, by omega, by omega, hv, natB_of _ (by simp [lowD]) ?_ (allDig_lowD M (k + 1))⟩
  show ¬ some (UInt8.ofNat (48 + M / 10 ^ k % 10)) = some 48
  intro x
  injection x with x
  rw [x] at e
  have : (48 : UInt8).toNat = 48 := rfl
  omega

/-- Parse of a text. -/
theorem par_text (n : Int) (h1 : -9223372036854775808 ≤ n) (h2 : n ≤ 9223372036854775807) :
    parQ (textL n) = (if n < 0 then -valQ n.natAbs else valQ n.natAbs) ∧ parE (textL n) = valE n.natAbs := by
  by_cases h0 : n = 0
  · subst h0; exact ⟨by decide, by decide⟩
  · obtain ⟨c, t, hd, hc1, hc2, hv, hb⟩ := digs_head n.natAbs (by omega) (by omega)
    by_cases hn : n < 0
    · have e : textL n = 45 :: digs n.natAbs := by unfold textL; rw [if_pos hn]
      have hb' : body (textL n) = digs n.natAbs := by rw [e]; rfl
      have p := (par_else (textL n) (by rw [e]; simp) (by rw [e]; simp)).2.1 (by rw [hb']; exact hb) (by rw [e]; rfl)
      rw [if_pos hn, ← p.1, ← p.2, hb', hv]
      exact ⟨rfl, rfl⟩
    · have e : textL n = digs n.natAbs := by unfold textL; rw [if_neg hn]
      have hh : ¬ (textL n).head? = some 45 := by
        rw [e, hd]
        intro x
        injection x with x
        rw [x] at hc1
        exact absurd hc1 (by decide)
      have hb' : body (textL n) = digs n.natAbs := by unfold body; rw [if_neg hh, e]
      have p := (par_else (textL n) (by rw [e, hd]; simp) (by
        rw [e, hd]
        intro x
        injection x with x
        rw [x] at hc1
        exact absurd hc1 (by decide))).2.2 (by rw [hb']; exact hb) hh
      rw [if_neg hn, ← p.1, ← p.2, hb', hv]
      exact ⟨rfl, rfl⟩
theorem lenD_le (f m : Nat) : lenD f m ≤ f + 1 := by
  induction f generalizing m with
  | zero => simp [lenD]
  | succ f ih =>
    unfold lenD
    split
    · omega
    · have := ih (m / 10); omega
theorem textB_size (n : Int) : (textB n).size ≤ 21 := by
  show (textL n).toArray.size ≤ 21
  unfold textL digs
  have := lenD_le 19 n.natAbs
  split <;> simp [lowD_length] <;> omega
end Go.Proofs.Ytdpnmlgadieamaa
