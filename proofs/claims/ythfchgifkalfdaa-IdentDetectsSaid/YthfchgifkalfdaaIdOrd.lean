/-
  Plain mathematics of layer 4: the natural order; contracts of what compares bytes and drops zeros.
-/
import Derived.Test.YthfchgifkalfdaaIdRJoin
namespace Go.Proofs.Ythfchgifkalfdaa.Id
open Go.RowKit

/-- Bytes compared one by one. -/
def cmpB (a b : List UInt8) : Int := if Op.bytesLess a b = true then -1 else if Op.bytesLess b a = true then 1 else 0
def zeroU (c : UInt8) : Bool := c == 48
/-- Digits without leading zeros. -/
def sigL (l : List UInt8) : List UInt8 := l.dropWhile zeroU
def sigS (s : ByteArray) : ByteArray := toB (sigL s.data.toList)
def numV (a b : List UInt8) : Int := if a.length < b.length then -1 else if b.length < a.length then 1 else cmpB a b
/-- Two elements. -/
def pairV (x y : List UInt8) : Int := if digU (x.headD 0) = true ∧ digU (y.headD 0) = true then numV (sigL x) (sigL y) else cmpB (x.take 1) (y.take 1)
/-- The length of the first element. -/
def elN (l : List UInt8) : Nat := max (l.takeWhile digU).length 1
def elsF : Nat → List UInt8 → List (List UInt8)
  | 0, _ => []
  | _ + 1, [] => []
  | n + 1, c :: l => (c :: l).take (elN (c :: l)) :: elsF n ((c :: l).drop (elN (c :: l)))
/-- The elements of a string. -/
def elsL (l : List UInt8) : List (List UInt8) := elsF l.length l
def lexE : List (List UInt8) → List (List UInt8) → Int
  | [], [] => 0
  | [], _ :: _ => -1
  | _ :: _, [] => 1
  | x :: xs, y :: ys => if pairV x y ≠ 0 then pairV x y else lexE xs ys
/-- The natural order. -/
def nordV (a b : List UInt8) : Int := if lexE (elsL a) (elsL b) ≠ 0 then lexE (elsL a) (elsL b) else cmpB a b
def nordS (a b : ByteArray) : Int := nordV a.data.toList b.data.toList

theorem elN_pos (l : List UInt8) : 1 ≤ elN l := Nat.le_max_right _ _
theorem elN_le (l : List UInt8) (h : 0 < l.length) : elN l ≤ l.length := by
  unfold elN
  have := (List.takeWhile_sublist digU (l := l)).length_le
  omega
theorem elsF_more : ∀ (n m : Nat) (l : List UInt8), l.length ≤ n → l.length ≤ m → elsF n l = elsF m l := by
  intro n
  induction n with
  | zero =>
    intro m l h1 h2
    obtain rfl : l = [] := List.eq_nil_of_length_eq_zero (by omega)
    cases m <;> rfl
  | succ n ih =>
    intro m l h1 h2
    cases l with
    | nil => cases m <;> rfl
    | cons c l =>
      cases m with
      | zero => simp at h2
      | succ m =>
        have hp := elN_pos (c :: l)
        have hd : ((c :: l).drop (elN (c :: l))).length ≤ l.length := by rw [List.length_drop, List.length_cons]; omega
        rw [elsF, elsF, ih m _ (by rw [List.length_cons] at h1; omega) (by rw [List.length_cons] at h2; omega)]
theorem elsL_nil : elsL [] = [] := rfl
theorem elsL_cons (l : List UInt8) (h : 0 < l.length) : elsL l = l.take (elN l) :: elsL (l.drop (elN l)) := by
  cases l with
  | nil => simp at h
  | cons c l =>
    have hp := elN_pos (c :: l)
    unfold elsL
    rw [List.length_cons, elsF]
    congr 1
    exact elsF_more _ _ _ (by rw [List.length_drop, List.length_cons]; omega) (Nat.le_refl _)
theorem lexE_step (x y : List UInt8) (hx : 0 < x.length) (hy : 0 < y.length) : lexE (elsL x) (elsL y) =
    if pairV (x.take (elN x)) (y.take (elN y)) ≠ 0 then pairV (x.take (elN x)) (y.take (elN y)) else lexE (elsL (x.drop (elN x))) (elsL (y.drop (elN y))) := by
  rw [elsL_cons x hx, elsL_cons y hy, lexE]
theorem lexE_left (x : List UInt8) (hx : 0 < x.length) : lexE (elsL x) (elsL []) = 1 := by rw [elsL_cons x hx]; rfl
theorem lexE_right (y : List UInt8) (hy : 0 < y.length) : lexE (elsL []) (elsL y) = -1 := by rw [elsL_cons y hy]; rfl
/-- An element: a byte that is no digit, by itself; or what begins with a digit. -/
def IsEl (x : List UInt8) : Prop := 0 < x.length ∧ (digU (x.headD 0) = false → x.length = 1)
theorem isEl_take (l : List UInt8) (h : 0 < l.length) : IsEl (l.take (elN l)) := by
  cases l with
  | nil => simp at h
  | cons c l =>
    have hp := elN_pos (c :: l)
    refine ⟨by rw [List.length_take, List.length_cons]; omega, fun hd => ?_⟩
    obtain ⟨m, hm⟩ : ∃ m, elN (c :: l) = m + 1 := ⟨elN (c :: l) - 1, by omega⟩
    rw [hm, List.take_succ_cons] at hd
    change digU c = false at hd
    have : elN (c :: l) = 1 := by unfold elN; rw [List.takeWhile_cons_of_neg (by rw [hd]; simp)]; rfl
    rw [this]; rfl
theorem less_cons (a b : UInt8) (x y : List UInt8) : Op.bytesLess (a :: x) (b :: y) = (decide (a.toNat < b.toNat) || (decide (a = b) && Op.bytesLess x y)) := by
  rw [Op.bytesLess]
  congr 1
theorem cmpB_head {a b : UInt8} (h : a ≠ b) (x y x' y' : List UInt8) : cmpB (a :: x) (b :: y) = cmpB (a :: x') (b :: y') := by
  unfold cmpB
  rw [less_cons, less_cons, less_cons, less_cons, decide_eq_false h, decide_eq_false (Ne.symm h)]
  simp
theorem pairV_plain {x y : List UInt8} (hx : IsEl x) (hy : IsEl y) (h : ¬ (digU (x.headD 0) = true ∧ digU (y.headD 0) = true)) : cmpB x y = pairV x y := by
  unfold pairV
  rw [if_neg h]
  cases x with
  | nil => exact absurd hx.1 (by simp)
  | cons a x =>
    cases y with
    | nil => exact absurd hy.1 (by simp)
    | cons b y =>
      have hx2 := hx.2
      have hy2 := hy.2
      change digU a = false → _ at hx2
      change digU b = false → _ at hy2
      change ¬ (digU a = true ∧ digU b = true) at h
      show cmpB (a :: x) (b :: y) = cmpB [a] [b]
      by_cases e : a = b
      · subst e
        have hd : digU a = false := by
          cases hd : digU a
          · rfl
          · exact absurd ⟨hd, hd⟩ h
        have h1 := hx2 hd
        have h2 := hy2 hd
        rw [List.length_cons] at h1 h2
        obtain rfl : x = [] := List.eq_nil_of_length_eq_zero (by omega)
        obtain rfl : y = [] := List.eq_nil_of_length_eq_zero (by omega)
        rfl
      · exact cmpB_head e _ _ _ _
theorem pairV_num {x y : List UInt8} (h1 : digU (x.headD 0) = true) (h2 : digU (y.headD 0) = true) : pairV x y = numV (sigL x) (sigL y) := by
  unfold pairV; rw [if_pos ⟨h1, h2⟩]
end Go.Proofs.Ythfchgifkalfdaa.Id
