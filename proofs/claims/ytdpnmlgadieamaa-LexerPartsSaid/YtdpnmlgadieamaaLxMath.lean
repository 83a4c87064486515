/-
  Plain mathematics of layer 7: lexemes of lists of bytes.
-/
import Derived.Test.YtdpnmlgadieamaaNtM
namespace Go.Proofs.Ytdpnmlgadieamaa.Lx

/-! ### Classes of bytes -/
def letN (c : Nat) : Bool := decide (97 ≤ c) && decide (c ≤ 122) || decide (65 ≤ c) && decide (c ≤ 90)
def digN (c : Nat) : Bool := decide (48 ≤ c) && decide (c ≤ 57)
def nmN (c : Nat) : Bool := letN c || digN c || c == 95 || c == 45
def blN (c : Nat) : Bool := c == 32 || c == 9 || c == 10 || c == 13
def markN (c : Nat) : Bool := [123, 125, 40, 41, 91, 93, 44, 59, 58, 61, 43, 45, 42, 47, 46].contains c

/-! ### Blanks and remarks -/
/-- What is left behind blanks and remarks; with true: within a remark. -/
def skL : Bool → List UInt8 → List UInt8
  | _, [] => []
  | false, c :: r => if c.toNat = 35 then skL true r else if blN c.toNat = true then skL false r else c :: r
  | true, c :: r => if c.toNat = 10 then skL false r else skL true r
theorem skL_le : ∀ (b : Bool) (l : List UInt8), (skL b l).length ≤ l.length
  | _, [] => by simp [skL]
  | false, c :: r => by
    unfold skL
    split
    · exact Nat.le_succ_of_le (skL_le true r)
    · split
      · exact Nat.le_succ_of_le (skL_le false r)
      · exact Nat.le_refl _
  | true, c :: r => by
    unfold skL
    split
    · exact Nat.le_succ_of_le (skL_le false r)
    · exact Nat.le_succ_of_le (skL_le true r)
/-- It is an end of the list. -/
theorem skL_suffix : ∀ (b : Bool) (l : List UInt8), l.drop (l.length - (skL b l).length) = skL b l
  | b, [] => by cases b <;> simp [skL]
  | false, c :: r => by
    have h1 := skL_le true r
    have h2 := skL_le false r
    unfold skL
    split
    · rw [List.length_cons, show r.length + 1 - (skL true r).length = (r.length - (skL true r).length) + 1 by omega, List.drop_succ_cons]; exact skL_suffix true r
    · split
      · rw [List.length_cons, show r.length + 1 - (skL false r).length = (r.length - (skL false r).length) + 1 by omega, List.drop_succ_cons]; exact skL_suffix false r
      · rw [Nat.sub_self]; rfl
  | true, c :: r => by
    have h1 := skL_le true r
    have h2 := skL_le false r
    unfold skL
    split
    · rw [List.length_cons, show r.length + 1 - (skL false r).length = (r.length - (skL false r).length) + 1 by omega, List.drop_succ_cons]; exact skL_suffix false r
    · rw [List.length_cons, show r.length + 1 - (skL true r).length = (r.length - (skL true r).length) + 1 by omega, List.drop_succ_cons]; exact skL_suffix true r
/-- It begins with neither. -/
theorem skL_head : ∀ (b : Bool) (l : List UInt8) (c : UInt8) (r : List UInt8), skL b l = c :: r → c.toNat ≠ 35 ∧ blN c.toNat = false
  | _, [], _, _, h => by simp [skL] at h
  | false, c :: r, d, q, h => by
    unfold skL at h
    split at h
    · exact skL_head true r d q h
    · split at h
      · exact skL_head false r d q h
      · rename_i h1 h2
        cases h
        exact ⟨h1, by simpa using h2⟩
  | true, c :: r, d, q, h => by
    unfold skL at h
    split at h
    · exact skL_head false r d q h
    · exact skL_head true r d q h
theorem skL_stop {l : List UInt8} {c : UInt8} {r : List UInt8} (h : l = c :: r) (h1 : c.toNat ≠ 35) (h2 : blN c.toNat = false) : skL false l = l := by
  subst h
  unfold skL
  rw [if_neg h1, h2]; rfl
/-- Behind a line feed. -/
theorem skL_app : ∀ (b : Bool) (l m : List UInt8), skL b (l ++ 10 :: m) = if skL b l = [] then skL false m else skL b l ++ 10 :: m
  | false, [], m => by
    have e1 : skL false (10 :: m) = skL false m := by rw [skL, if_neg (by decide), if_pos (by decide)]
    have e2 : skL false [] = [] := by simp [skL]
    rw [List.nil_append, e1, e2, if_pos rfl]
  | true, [], m => by
    have e1 : skL true (10 :: m) = skL false m := by rw [skL, if_pos (by decide)]
    have e2 : skL true [] = [] := by simp [skL]
    rw [List.nil_append, e1, e2, if_pos rfl]
  | false, c :: r, m => by
    rw [List.cons_append, skL, skL]
    split
    · exact skL_app true r m
    · split
      · exact skL_app false r m
      · simp
  | true, c :: r, m => by
    rw [List.cons_append, skL, skL]
    split
    · exact skL_app false r m
    · exact skL_app true r m

/-! ### Names and numbers -/
def gtB : List UInt8 → Bool
  | [] => false
  | d :: _ => d.toNat == 62
/-- The bytes of a name. -/
def nmL : List UInt8 → List UInt8
  | [] => []
  | c :: r => if nmN c.toNat = true ∧ ¬ (c.toNat = 45 ∧ gtB r = true) then c :: nmL r else []
def dgL : List UInt8 → List UInt8
  | [] => []
  | c :: r => if digN c.toNat = true then c :: dgL r else []
theorem nmL_take : ∀ l : List UInt8, l.take (nmL l).length = nmL l
  | [] => rfl
  | c :: r => by
    unfold nmL
    split
    · rw [List.length_cons, List.take_succ_cons, nmL_take r]
    · rfl
theorem dgL_take : ∀ l : List UInt8, l.take (dgL l).length = dgL l
  | [] => rfl
  | c :: r => by
    unfold dgL
    split
    · rw [List.length_cons, List.take_succ_cons, dgL_take r]
    · rfl
theorem nmL_le (l : List UInt8) : (nmL l).length ≤ l.length := by
  have := congrArg List.length (nmL_take l)
  rw [List.length_take] at this; omega
theorem dgL_le (l : List UInt8) : (dgL l).length ≤ l.length := by
  have := congrArg List.length (dgL_take l)
  rw [List.length_take] at this; omega
theorem nmL_all : ∀ (l : List UInt8), ∀ c ∈ nmL l, nmN c.toNat = true
  | [], c, h => by simp [nmL] at h
  | d :: r, c, h => by
    unfold nmL at h
    split at h
    · rename_i hh
      rcases List.mem_cons.1 h with e | e
      · rw [e]; exact hh.1
      · exact nmL_all r c e
    · simp at h
theorem dgL_all : ∀ (l : List UInt8), ∀ c ∈ dgL l, digN c.toNat = true
  | [], c, h => by simp [dgL] at h
  | d :: r, c, h => by
    unfold dgL at h
    split at h
    · rename_i hh
      rcases List.mem_cons.1 h with e | e
      · rw [e]; exact hh
      · exact dgL_all r c e
    · simp at h

theorem nmL_app (z : UInt8) (hz : nmN z.toNat = false) (h62 : z.toNat ≠ 62) (m : List UInt8) : ∀ l : List UInt8, nmL (l ++ z :: m) = nmL l
  | [] => by
    show nmL (z :: m) = nmL []
    unfold nmL
    rw [if_neg (fun h => by rw [hz] at h; exact absurd h.1 (by decide))]
  | c :: r => by
    have e : gtB (r ++ z :: m) = gtB r := by
      cases r with
      | nil => exact beq_false_of_ne h62
      | cons b r => rfl
    rw [List.cons_append, nmL, nmL, e, nmL_app z hz h62 m r]
theorem dgL_app (z : UInt8) (hz : digN z.toNat = false) (m : List UInt8) : ∀ l : List UInt8, dgL (l ++ z :: m) = dgL l
  | [] => by
    show dgL (z :: m) = dgL []
    unfold dgL
    rw [hz]
    exact if_neg (by decide)
  | c :: r => by rw [List.cons_append, dgL, dgL, dgL_app z hz m r]
theorem nmL_whole : ∀ (l : List UInt8), (∀ c ∈ l, nmN c.toNat = true) → nmL l = l
  | [], _ => rfl
  | c :: r, h => by
    have hn : ¬ (c.toNat = 45 ∧ gtB r = true) := by
      rintro ⟨_, h2⟩
      cases r with
      | nil => cases h2
      | cons d r =>
        have hd : nmN d.toNat = true := h d (List.mem_cons_of_mem _ (List.mem_cons_self ..))
        rw [show d.toNat = 62 from beq_iff_eq.1 h2] at hd
        exact absurd hd (by decide)
    unfold nmL
    rw [if_pos ⟨h c (List.mem_cons_self ..), hn⟩, nmL_whole r fun d hd => h d (List.mem_cons_of_mem _ hd)]
theorem dgL_whole : ∀ (l : List UInt8), (∀ c ∈ l, digN c.toNat = true) → dgL l = l
  | [], _ => rfl
  | c :: r, h => by
    unfold dgL
    rw [if_pos (h c (List.mem_cons_self ..)), dgL_whole r fun d hd => h d (List.mem_cons_of_mem _ hd)]

/-! ### Strings -/
/-- A byte that can stand in a string. -/
def chN (c : Nat) : Bool := decide (32 ≤ c) && decide (c ≤ 126)
/-- The characters of a string, where it ends (or the error is), and whether it ends. -/
def tx : List UInt8 → Nat → List UInt8 → List UInt8 × Nat × Bool
  | _, p, [] => ([], p, false)
  | o, p, c :: r =>
    if c.toNat = 34 then (o, p + 1, true)
    else if chN c.toNat = false then ([], p, false)
    else if c.toNat ≠ 92 then tx (o ++ [c]) (p + 1) r
    else
      match r with
      | [] => ([], p, false)
      | d :: q => if d.toNat = 34 ∨ d.toNat = 92 then tx (o ++ [d]) (p + 2) q else if d.toNat = 110 then tx (o ++ [10]) (p + 2) q else ([], p, false)
theorem tx_nil (o : List UInt8) (p : Nat) : tx o p [] = ([], p, false) := by simp [tx]
theorem tx_quote (o : List UInt8) (p : Nat) {c : UInt8} (r : List UInt8) (h : c.toNat = 34) : tx o p (c :: r) = (o, p + 1, true) := by
  conv => lhs; unfold tx
  rw [if_pos h]
theorem tx_bad (o : List UInt8) (p : Nat) {c : UInt8} (r : List UInt8) (h : c.toNat ≠ 34) (h1 : chN c.toNat = false) : tx o p (c :: r) = ([], p, false) := by
  conv => lhs; unfold tx
  rw [if_neg h, if_pos h1]
theorem tx_char (o : List UInt8) (p : Nat) {c : UInt8} (r : List UInt8) (h : c.toNat ≠ 34) (h1 : chN c.toNat = true) (h2 : c.toNat ≠ 92) : tx o p (c :: r) = tx (o ++ [c]) (p + 1) r := by
  conv => lhs; unfold tx
  rw [if_neg h, if_neg (by rw [h1]; decide), if_pos h2]
theorem tx_end (o : List UInt8) (p : Nat) {c : UInt8} (h2 : c.toNat = 92) : tx o p [c] = ([], p, false) := by
  conv => lhs; unfold tx
  rw [if_neg (by omega), if_neg (by rw [h2]; decide), if_neg (by omega)]
theorem tx_esc (o : List UInt8) (p : Nat) {c d : UInt8} (r : List UInt8) (h2 : c.toNat = 92) (hd : d.toNat = 34 ∨ d.toNat = 92) : tx o p (c :: d :: r) = tx (o ++ [d]) (p + 2) r := by
  conv => lhs; unfold tx
  rw [if_neg (by omega), if_neg (by rw [h2]; decide), if_neg (by omega)]
  show (if _ then _ else _) = _
  rw [if_pos hd]
theorem tx_line (o : List UInt8) (p : Nat) {c d : UInt8} (r : List UInt8) (h2 : c.toNat = 92) (hd : d.toNat = 110) : tx o p (c :: d :: r) = tx (o ++ [10]) (p + 2) r := by
  conv => lhs; unfold tx
  rw [if_neg (by omega), if_neg (by rw [h2]; decide), if_neg (by omega)]
  show (if _ then _ else if _ then _ else _) = _
  rw [if_neg (by omega), if_pos hd]
theorem tx_other (o : List UInt8) (p : Nat) {c d : UInt8} (r : List UInt8) (h2 : c.toNat = 92) (h3 : d.toNat ≠ 34) (h4 : d.toNat ≠ 92) (h5 : d.toNat ≠ 110) : tx o p (c :: d :: r) = ([], p, false) := by
  conv => lhs; unfold tx
  rw [if_neg (by omega), if_neg (by rw [h2]; decide), if_neg (by omega)]
  show (if _ then _ else if _ then _ else _) = _
  rw [if_neg (by omega), if_neg h5]
/-- The ways of a string, one by one. -/
theorem tx_ways {P : List UInt8 → Nat → List UInt8 → Prop} (h0 : ∀ o p, P o p []) (h1 : ∀ o p c r, c.toNat = 34 → P o p (c :: r)) (h2 : ∀ o p c r, c.toNat ≠ 34 → chN c.toNat = false → P o p (c :: r))
    (h3 : ∀ o p c r, c.toNat ≠ 34 → chN c.toNat = true → c.toNat ≠ 92 → P (o ++ [c]) (p + 1) r → P o p (c :: r)) (h4 : ∀ o p c, c.toNat = 92 → P o p [c])
    (h5 : ∀ o p c d r, c.toNat = 92 → (d.toNat = 34 ∨ d.toNat = 92) → P (o ++ [d]) (p + 2) r → P o p (c :: d :: r)) (h6 : ∀ o p c d r, c.toNat = 92 → d.toNat = 110 → P (o ++ [10]) (p + 2) r → P o p (c :: d :: r))
    (h7 : ∀ o p c d r, c.toNat = 92 → d.toNat ≠ 34 → d.toNat ≠ 92 → d.toNat ≠ 110 → P o p (c :: d :: r)) : ∀ o p l, P o p l
  | o, p, [] => h0 o p
  | o, p, c :: r => by
    by_cases a : c.toNat = 34
    · exact h1 o p c r a
    · by_cases b : chN c.toNat = true
      · by_cases e : c.toNat = 92
        · match r with
          | [] => exact h4 o p c e
          | d :: q =>
            by_cases x : d.toNat = 34 ∨ d.toNat = 92
            · exact h5 o p c d q e x (tx_ways h0 h1 h2 h3 h4 h5 h6 h7 _ _ q)
            · by_cases y : d.toNat = 110
              · exact h6 o p c d q e y (tx_ways h0 h1 h2 h3 h4 h5 h6 h7 _ _ q)
              · exact h7 o p c d q e (fun z => x (Or.inl z)) (fun z => x (Or.inr z)) y
        · exact h3 o p c r a b e (tx_ways h0 h1 h2 h3 h4 h5 h6 h7 _ _ r)
      · exact h2 o p c r a (by simpa using b)
/-- What follows a string changes nothing. -/
theorem tx_app (m : List UInt8) (o : List UInt8) (p : Nat) (l : List UInt8) : (tx o p l).2.2 = true → tx o p (l ++ m) = tx o p l := by
  refine tx_ways (P := fun o p l => (tx o p l).2.2 = true → tx o p (l ++ m) = tx o p l) ?_ ?_ ?_ ?_ ?_ ?_ ?_ ?_ o p l
  · intro o p h; rw [tx_nil] at h; cases h
  · intro o p c r a _; rw [List.cons_append, tx_quote _ _ _ a, tx_quote _ _ _ a]
  · intro o p c r a b h; rw [tx_bad _ _ _ a b] at h; cases h
  · intro o p c r a b d ih h
    rw [tx_char _ _ _ a b d] at h
    rw [List.cons_append, tx_char _ _ _ a b d, tx_char _ _ _ a b d]
    exact ih h
  · intro o p c a h; rw [tx_end _ _ a] at h; cases h
  · intro o p c d r a b ih h
    rw [tx_esc _ _ _ a b] at h
    rw [List.cons_append, List.cons_append, tx_esc _ _ _ a b, tx_esc _ _ _ a b]
    exact ih h
  · intro o p c d r a b ih h
    rw [tx_line _ _ _ a b] at h
    rw [List.cons_append, List.cons_append, tx_line _ _ _ a b, tx_line _ _ _ a b]
    exact ih h
  · intro o p c d r a b x y h; rw [tx_other _ _ _ a b x y] at h; cases h
/-- Where a string ends, or its error is, lies within the list. -/
theorem tx_pos (o : List UInt8) (p : Nat) (l : List UInt8) : p ≤ (tx o p l).2.1 ∧ (tx o p l).2.1 ≤ p + l.length ∧ ((tx o p l).2.2 = true → p + 1 ≤ (tx o p l).2.1) := by
  refine tx_ways (P := fun o p l => p ≤ (tx o p l).2.1 ∧ (tx o p l).2.1 ≤ p + l.length ∧ ((tx o p l).2.2 = true → p + 1 ≤ (tx o p l).2.1)) ?_ ?_ ?_ ?_ ?_ ?_ ?_ ?_ o p l
  · intro o p; rw [tx_nil]; exact ⟨Nat.le_refl _, Nat.le_refl _, fun h => by cases h⟩
  · intro o p c r a; rw [tx_quote _ _ _ a, List.length_cons]; exact ⟨Nat.le_succ _, by show p + 1 ≤ _; omega, fun _ => Nat.le_refl _⟩
  · intro o p c r a b; rw [tx_bad _ _ _ a b]; exact ⟨Nat.le_refl _, Nat.le_add_right _ _, fun h => by cases h⟩
  · intro o p c r a b d ih; rw [tx_char _ _ _ a b d, List.length_cons]; exact ⟨by omega, by omega, fun _ => ih.1⟩
  · intro o p c a; rw [tx_end _ _ a]; exact ⟨Nat.le_refl _, Nat.le_add_right _ _, fun h => by cases h⟩
  · intro o p c d r a b ih; rw [tx_esc _ _ _ a b, List.length_cons, List.length_cons]; exact ⟨by omega, by omega, fun _ => by omega⟩
  · intro o p c d r a b ih; rw [tx_line _ _ _ a b, List.length_cons, List.length_cons]; exact ⟨by omega, by omega, fun _ => by omega⟩
  · intro o p c d r a b x y; rw [tx_other _ _ _ a b x y]; exact ⟨Nat.le_refl _, Nat.le_add_right _ _, fun h => by cases h⟩
/-- What can stand in a string's Text. -/
def qcN (c : Nat) : Bool := c == 10 || chN c
theorem tx_text (o : List UInt8) (p : Nat) (l : List UInt8) : (∀ c ∈ o, qcN c.toNat = true) → ∀ c ∈ (tx o p l).1, qcN c.toNat = true := by
  have one : ∀ {o : List UInt8} {c : UInt8}, (∀ c ∈ o, qcN c.toNat = true) → qcN c.toNat = true → ∀ x ∈ o ++ [c], qcN x.toNat = true := fun h hc x hx => by
    rcases List.mem_append.1 hx with e | e
    · exact h x e
    · rw [List.mem_singleton.1 e]; exact hc
  have none : ∀ c ∈ ([] : List UInt8), qcN c.toNat = true := fun c h => by simp at h
  have ofch : ∀ c, chN c = true → qcN c = true := fun c h => by unfold qcN; rw [h]; simp
  refine tx_ways (P := fun o p l => (∀ c ∈ o, qcN c.toNat = true) → ∀ c ∈ (tx o p l).1, qcN c.toNat = true) ?_ ?_ ?_ ?_ ?_ ?_ ?_ ?_ o p l
  · intro o p h; rw [tx_nil]; exact none
  · intro o p c r a h; rw [tx_quote _ _ _ a]; exact h
  · intro o p c r a b h; rw [tx_bad _ _ _ a b]; exact none
  · intro o p c r a b d ih h; rw [tx_char _ _ _ a b d]; exact ih (one h (ofch _ b))
  · intro o p c a h; rw [tx_end _ _ a]; exact none
  · intro o p c d r a b ih h
    rw [tx_esc _ _ _ a b]
    exact ih (one h (by rcases b with b | b <;> rw [b] <;> decide))
  · intro o p c d r a b ih h; rw [tx_line _ _ _ a b]; exact ih (one h (by decide))
  · intro o p c d r a b x y h; rw [tx_other _ _ _ a b x y]; exact none
/-- How a Text is written in a string. -/
def qb : List UInt8 → List UInt8
  | [] => []
  | c :: r => (if c.toNat = 10 then [92, 110] else if c.toNat = 34 ∨ c.toNat = 92 then [92, c] else [c]) ++ qb r
theorem tx_qb (m : List UInt8) : ∀ (l o : List UInt8) (p : Nat), (∀ c ∈ l, qcN c.toNat = true) → tx o p (qb l ++ 34 :: m) = (o ++ l, p + (qb l).length + 1, true)
  | [], o, p, _ => by
    show tx o p (34 :: m) = _
    rw [tx_quote _ _ _ (by decide), List.append_nil]; rfl
  | c :: r, o, p, h => by
    have hc := h c (List.mem_cons_self ..)
    have ih := fun o p => tx_qb m r o p fun d hd => h d (List.mem_cons_of_mem _ hd)
    unfold qb
    by_cases h1 : c.toNat = 10
    · obtain rfl : c = 10 := UInt8.toNat_inj.1 h1
      rw [if_pos h1]
      show tx o p (92 :: 110 :: (qb r ++ 34 :: m)) = _
      rw [tx_line _ _ _ (by decide) (by decide), ih, List.append_assoc]
      show (_, _, _) = (_, _, _)
      rw [List.length_append]
      show (_, _, _) = (_, p + (2 + (qb r).length) + 1, _)
      rw [show p + 2 + (qb r).length + 1 = p + (2 + (qb r).length) + 1 by omega]; rfl
    · rw [if_neg h1]
      have hch : chN c.toNat = true := by
        unfold qcN at hc
        simpa [h1] using hc
      by_cases h2 : c.toNat = 34 ∨ c.toNat = 92
      · rw [if_pos h2]
        show tx o p (92 :: c :: (qb r ++ 34 :: m)) = _
        rw [tx_esc _ _ _ (by decide) h2, ih, List.append_assoc, List.length_append]
        show (_, _, _) = (_, p + (2 + (qb r).length) + 1, _)
        rw [show p + 2 + (qb r).length + 1 = p + (2 + (qb r).length) + 1 by omega]; rfl
      · rw [if_neg h2]
        show tx o p (c :: (qb r ++ 34 :: m)) = _
        rw [tx_char _ _ _ (fun e => h2 (Or.inl e)) hch (fun e => h2 (Or.inr e)), ih, List.append_assoc, List.length_append]
        show (_, _, _) = (_, p + (1 + (qb r).length) + 1, _)
        rw [show p + 1 + (qb r).length + 1 = p + (1 + (qb r).length) + 1 by omega]; rfl
end Go.Proofs.Ytdpnmlgadieamaa.Lx
