/-
  Plain mathematics of layer 4: the natural order is a total order.
-/
import Derived.Test.YthfchgifkalfdaaIdArg
namespace Go.Proofs.Ythfchgifkalfdaa.Id
open Go.RowKit

/-- A comparison that answers -1, 0, 1, and is a total order but for equal ones. -/
structure Tot {α : Type} (f : α → α → Int) : Prop where
  rng : ∀ a b, f a b = -1 ∨ f a b = 0 ∨ f a b = 1
  anti : ∀ a b, f b a = - f a b
  trans : ∀ a b c, f a b ≤ 0 → f b c ≤ 0 → f a c ≤ 0
theorem Tot.self {α : Type} {f : α → α → Int} (h : Tot f) (a : α) : f a a = 0 := by have := h.anti a a; omega
theorem Tot.left {α : Type} {f : α → α → Int} (h : Tot f) {a b : α} (e : f a b = 0) (c : α) : f a c = f b c := by
  have e' : f b a = 0 := by have := h.anti a b; omega
  have h1 := h.trans a b c
  have h2 := h.trans b a c
  have h3 := h.trans c b a
  have h4 := h.trans c a b
  have a1 := h.anti a c
  have a2 := h.anti b c
  have r1 := h.rng a c
  have r2 := h.rng b c
  omega
theorem Tot.step {α : Type} {f : α → α → Int} (h : Tot f) (a b c : α) (p q r : Int) (hg : p ≤ 0 → q ≤ 0 → r ≤ 0) (h1 : (if f a b ≠ 0 then f a b else p) ≤ 0) (h2 : (if f b c ≠ 0 then f b c else q) ≤ 0) : (if f a c ≠ 0 then f a c else r) ≤ 0 := by
  by_cases x : f a b = 0
  · rw [if_neg (by simp [x])] at h1
    have e := h.left x c
    by_cases y : f b c = 0
    · rw [if_neg (by simp [y])] at h2
      rw [if_neg (by simp [e, y])]
      exact hg h1 h2
    · rw [if_pos y] at h2
      rw [if_pos (by rw [e]; exact y), e]
      exact h2
  · rw [if_pos x] at h1
    by_cases z : f a c = 0
    · exfalso
      have e := h.left z b
      have a1 := h.anti b c
      by_cases y : f b c = 0
      · omega
      · rw [if_pos y] at h2; omega
    · rw [if_pos z]
      have h2' : f b c ≤ 0 := by
        by_cases y : f b c = 0
        · omega
        · rw [if_pos y] at h2; exact h2
      exact h.trans a b c h1 h2'
theorem Tot.and {α : Type} {f g : α → α → Int} (h : Tot f) (k : Tot g) : Tot (fun a b => if f a b ≠ 0 then f a b else g a b) := by
  refine ⟨fun a b => ?_, fun a b => ?_, fun a b c h1 h2 => h.step a b c _ _ _ (k.trans a b c) h1 h2⟩
  · by_cases x : f a b = 0
    · rw [if_neg (by simp [x])]; exact k.rng a b
    · rw [if_pos x]; exact h.rng a b
  · have e := h.anti a b
    by_cases x : f a b = 0
    · have x' : f b a = 0 := by omega
      rw [if_neg (by simp [x']), if_neg (by simp [x])]; exact k.anti a b
    · have x' : f b a ≠ 0 := by omega
      rw [if_pos x', if_pos x]; exact e
theorem Tot.pull {α β : Type} {f : α → α → Int} (h : Tot f) (k : β → α) : Tot (fun a b => f (k a) (k b)) :=
  ⟨fun _ _ => h.rng _ _, fun _ _ => h.anti _ _, fun _ _ _ => h.trans _ _ _⟩
def lexF {α : Type} (f : α → α → Int) : List α → List α → Int
  | [], [] => 0
  | [], _ :: _ => -1
  | _ :: _, [] => 1
  | x :: xs, y :: ys => if f x y ≠ 0 then f x y else lexF f xs ys
theorem Tot.lex {α : Type} {f : α → α → Int} (h : Tot f) : Tot (lexF f) := by
  refine ⟨fun a => ?_, fun a => ?_, fun a => ?_⟩
  · induction a with
    | nil => intro b; cases b with
      | nil => exact Or.inr (Or.inl rfl)
      | cons y ys => exact Or.inl rfl
    | cons x xs ih => intro b; cases b with
      | nil => exact Or.inr (Or.inr rfl)
      | cons y ys =>
        rw [lexF]
        by_cases e : f x y = 0
        · rw [if_neg (by simp [e])]; exact ih ys
        · rw [if_pos e]; exact h.rng x y
  · induction a with
    | nil => intro b; cases b with
      | nil => rfl
      | cons y ys => rfl
    | cons x xs ih => intro b; cases b with
      | nil => rfl
      | cons y ys =>
        have k := h.anti x y
        rw [lexF, lexF]
        by_cases e : f x y = 0
        · have e' : f y x = 0 := by omega
          rw [if_neg (by simp [e']), if_neg (by simp [e])]; exact ih ys
        · have e' : f y x ≠ 0 := by omega
          rw [if_pos e', if_pos e]; exact k
  · induction a with
    | nil => intro b c h1 h2; cases c with
      | nil => exact Int.le_refl _
      | cons z zs => show (-1 : Int) ≤ 0; omega
    | cons x xs ih => intro b c h1 h2; cases b with
      | nil => change (1 : Int) ≤ 0 at h1; omega
      | cons y ys => cases c with
        | nil => change (1 : Int) ≤ 0 at h2; omega
        | cons z zs =>
          rw [lexF] at h1 h2 ⊢
          exact h.step x y z _ _ _ (ih ys zs) h1 h2
def natC (a b : Nat) : Int := if a < b then -1 else if b < a then 1 else 0
theorem natC_tot : Tot natC := by
  refine ⟨fun a b => ?_, fun a b => ?_, fun a b c => ?_⟩
  · unfold natC; split
    · omega
    · split <;> omega
  · unfold natC; split <;> split <;> (try split) <;> omega
  · unfold natC; split <;> split <;> (try split) <;> (try split) <;> (try split) <;> omega
def byteC (a b : UInt8) : Int := natC a.toNat b.toNat
theorem cmpB_lex : ∀ a b : List UInt8, cmpB a b = lexF byteC a b
  | [], [] => rfl
  | [], _ :: _ => rfl
  | _ :: _, [] => rfl
  | a :: x, b :: y => by
    rw [lexF, ← cmpB_lex x y]
    unfold cmpB
    rw [less_cons, less_cons]
    unfold byteC natC
    by_cases e : a = b
    · subst e; simp
    · have hn : a.toNat ≠ b.toNat := fun h => e (UInt8.toNat_inj.1 h)
      rw [decide_eq_false e, decide_eq_false (Ne.symm e)]
      by_cases l : a.toNat < b.toNat
      · simp [l]
      · have l2 : b.toNat < a.toNat := by omega
        simp [l, l2]
theorem cmpB_tot : Tot cmpB := by
  have : cmpB = lexF byteC := by funext a b; exact cmpB_lex a b
  rw [this]
  exact (natC_tot.pull UInt8.toNat).lex
theorem numV_tot : Tot numV := by
  have : numV = fun a b => if natC a.length b.length ≠ 0 then natC a.length b.length else cmpB a b := by
    funext a b
    unfold numV natC
    by_cases h : a.length < b.length
    · simp [h]
    · by_cases k : b.length < a.length
      · simp [h, k]
      · simp [h, k]
  rw [this]
  exact (natC_tot.pull List.length).and cmpB_tot
/-- What an element is compared by, first and then. -/
def keyH : List UInt8 → Nat
  | [] => 0
  | c :: _ => if digU c = true then 49 else c.toNat + 1
def keyT : List UInt8 → List UInt8
  | [] => []
  | c :: l => if digU c = true then sigL (c :: l) else []
theorem keyH_pos (c : UInt8) (l : List UInt8) : 0 < keyH (c :: l) := by rw [keyH]; split <;> omega
theorem digU_iff (c : UInt8) : digU c = true ↔ 48 ≤ c.toNat ∧ c.toNat ≤ 57 := by
  unfold digU digZ; simp; omega
theorem cmpB_single (a b : UInt8) : cmpB [a] [b] = natC a.toNat b.toNat := by
  rw [cmpB_lex, lexF]
  unfold byteC
  by_cases h : natC a.toNat b.toNat = 0
  · rw [if_neg (by simp [h]), h]; rfl
  · rw [if_pos h]
theorem natC_succ (a b : Nat) : natC (a + 1) (b + 1) = natC a b := by unfold natC; simp
theorem pairV_key (x y : List UInt8) : pairV x y = if natC (keyH x) (keyH y) ≠ 0 then natC (keyH x) (keyH y) else numV (keyT x) (keyT y) := by
  have h0 : digU (0 : UInt8) = false := by decide
  cases x with
  | nil =>
    cases y with
    | nil => rfl
    | cons b y =>
      have hk : natC (keyH []) (keyH (b :: y)) = -1 := by
        have := keyH_pos b y
        unfold natC; rw [if_pos (show keyH [] < _ from this)]
      rw [hk, if_pos (by decide)]
      unfold pairV
      rw [if_neg (by rintro ⟨h, _⟩; rw [show ([] : List UInt8).headD 0 = 0 from rfl, h0] at h; cases h)]
      rfl
  | cons a x =>
    cases y with
    | nil =>
      have hk : natC (keyH (a :: x)) (keyH []) = 1 := by
        have := keyH_pos a x
        unfold natC; rw [if_neg (show ¬ keyH (a :: x) < keyH [] from Nat.not_lt.2 (Nat.zero_le _)), if_pos (show keyH [] < _ from this)]
      rw [hk, if_pos (by decide)]
      unfold pairV
      rw [if_neg (by rintro ⟨_, h⟩; rw [show ([] : List UInt8).headD 0 = 0 from rfl, h0] at h; cases h)]
      rfl
    | cons b y =>
      unfold pairV
      show (if digU a = true ∧ digU b = true then _ else cmpB [a] [b]) = _
      rw [cmpB_single]
      rw [keyH, keyH, keyT, keyT]
      have ia := digU_iff a
      have ib := digU_iff b
      by_cases da : digU a = true
      · by_cases db : digU b = true
        · rw [if_pos ⟨da, db⟩, if_pos da, if_pos db, if_pos da, if_pos db]
          rfl
        · rw [if_neg (fun h => db h.2), if_pos da, if_neg db]
          have r1 := ia.1 da
          have r2 : ¬ (48 ≤ b.toNat ∧ b.toNat ≤ 57) := fun h => db (ib.2 h)
          have e : natC 49 (b.toNat + 1) = natC a.toNat b.toNat := by unfold natC; split <;> split <;> (try split) <;> (try split) <;> omega
          have ne : natC a.toNat b.toNat ≠ 0 := by unfold natC; split <;> (try split) <;> omega
          rw [e, if_pos ne]
      · by_cases db : digU b = true
        · rw [if_neg (fun h => da h.1), if_neg da, if_pos db]
          have r1 := ib.1 db
          have r2 : ¬ (48 ≤ a.toNat ∧ a.toNat ≤ 57) := fun h => da (ia.2 h)
          have e : natC (a.toNat + 1) 49 = natC a.toNat b.toNat := by unfold natC; split <;> split <;> (try split) <;> (try split) <;> omega
          have ne : natC a.toNat b.toNat ≠ 0 := by unfold natC; split <;> (try split) <;> omega
          rw [e, if_pos ne]
        · rw [if_neg (fun h => da h.1), if_neg da, if_neg db, if_neg da, if_neg db, natC_succ]
          by_cases h : natC a.toNat b.toNat = 0
          · rw [if_neg (by simp [h]), h]; rfl
          · rw [if_pos h]
theorem pairV_tot : Tot pairV := by
  have : pairV = fun x y => if natC (keyH x) (keyH y) ≠ 0 then natC (keyH x) (keyH y) else numV (keyT x) (keyT y) := by funext x y; exact pairV_key x y
  rw [this]
  exact (natC_tot.pull keyH).and (numV_tot.pull keyT)
theorem lexE_lex : ∀ a b, lexE a b = lexF pairV a b
  | [], [] => rfl
  | [], _ :: _ => rfl
  | _ :: _, [] => rfl
  | a :: x, b :: y => by rw [lexF, lexE, lexE_lex x y]
theorem lexE_tot : Tot lexE := by
  have : lexE = lexF pairV := by funext a b; exact lexE_lex a b
  rw [this]
  exact pairV_tot.lex
theorem nordV_tot : Tot nordV := (lexE_tot.pull elsL).and cmpB_tot
theorem cmpB_zero {a b : List UInt8} (h : cmpB a b = 0) : a = b := by
  unfold cmpB at h
  cases h1 : Op.bytesLess a b
  · cases h2 : Op.bytesLess b a
    · by_cases e : a = b
      · exact e
      · rw [less_tri a b h1 e] at h2; cases h2
    · rw [h1, h2] at h; simp at h
  · rw [h1] at h; simp at h
theorem nordV_zero {a b : List UInt8} (h : nordV a b = 0) : a = b := by
  unfold nordV at h
  split at h
  · rename_i x; exact absurd h x
  · exact cmpB_zero h
theorem nordS_tot : Tot nordS := nordV_tot.pull (fun s : ByteArray => s.data.toList)
theorem nordS_zero (a b : ByteArray) : (nordS a b == 0) = (a.toList == b.toList) := by
  rw [toList_eq]
  by_cases h : a = b
  · subst h
    rw [nordS_tot.self]; simp
  · rw [decide_eq_false h]
    exact beq_false_of_ne (fun e => h (by rw [← toB_data a, ← toB_data b, nordV_zero e]))
end Go.Proofs.Ythfchgifkalfdaa.Id
