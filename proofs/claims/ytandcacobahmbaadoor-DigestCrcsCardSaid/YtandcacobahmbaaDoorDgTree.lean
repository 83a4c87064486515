/-
  Plain mathematics of layer 6: the hash, trees, paths, and what they give.
-/
import Derived.Test.YtandcacobahmbaaDoorCbMath
namespace Go.Proofs.YtandcacobahmbaaDoor.Dg
open Go.Proofs.YtandcacobahmbaaDoor.Cb (beL beL_length)

/-! ### The hash -/
def fnvS (h : Nat) (c : UInt8) : Nat := ((h ^^^ c.toNat) * 1099511628211) % 18446744073709551616
theorem fnvS_eq (h : Nat) (c : UInt8) : fnvS h c = ((h ^^^ c.toNat) * 1099511628211) % 18446744073709551616 := by unfold fnvS; rfl
def fnvR (h : Nat) (l : List UInt8) : Nat := l.foldl fnvS h
def fnvN (l : List UInt8) : Nat := fnvR 14695981039346656037 l
theorem fnvS_lt (h : Nat) (c : UInt8) : fnvS h c < 18446744073709551616 := by rw [fnvS_eq]; exact Nat.mod_lt _ (by decide)
theorem fnvR_cons (h : Nat) (c : UInt8) (l : List UInt8) : fnvR h (c :: l) = fnvR (fnvS h c) l := by unfold fnvR; rw [List.foldl_cons]
theorem fnvR_lt : ∀ (l : List UInt8) {h : Nat}, h < 18446744073709551616 → fnvR h l < 18446744073709551616
  | [], _, h => h
  | c :: l, _, _ => by rw [fnvR_cons]; exact fnvR_lt l (fnvS_lt _ c)
theorem fnvN_lt (l : List UInt8) : fnvN l < 18446744073709551616 := fnvR_lt l (by decide)
theorem fnvR_snoc (h : Nat) (l : List UInt8) (c : UInt8) : fnvR h (l ++ [c]) = fnvS (fnvR h l) c := by unfold fnvR; rw [List.foldl_append, List.foldl_cons, List.foldl_nil]
theorem fnvR_app (r : Nat) (l m : List UInt8) : fnvR r (l ++ m) = fnvR (fnvR r l) m := List.foldl_append ..
theorem prime_fnv : Nat.Coprime 18446744073709551616 1099511628211 := by decide +kernel
theorem mul_inj1 {x y : Nat} (hxy : x ≤ y) (hy : y < 18446744073709551616) (h : x * 1099511628211 % 18446744073709551616 = y * 1099511628211 % 18446744073709551616) : x = y := by
  have hd : 18446744073709551616 ∣ (y - x) * 1099511628211 := by
    rw [Nat.sub_mul]
    generalize 1099511628211 = P at *
    have hle : x * P ≤ y * P := Nat.mul_le_mul_right _ hxy
    generalize x * P = X at *
    generalize y * P = Y at *
    omega
  have h2 := prime_fnv.dvd_of_dvd_mul_right hd
  clear hd h
  rcases Nat.eq_zero_or_pos (y - x) with e | e
  · omega
  · have := Nat.le_of_dvd e h2
    clear h2
    omega
theorem mul_inj {x y : Nat} (hx : x < 18446744073709551616) (hy : y < 18446744073709551616) (h : x * 1099511628211 % 18446744073709551616 = y * 1099511628211 % 18446744073709551616) : x = y := by
  rcases Nat.le_total x y with e | e
  · exact mul_inj1 e hy h
  · exact (mul_inj1 e hx h.symm).symm
theorem xor_left_inj {a b c : Nat} (h : a ^^^ c = b ^^^ c) : a = b := by
  have := congrArg (· ^^^ c) h
  simpa [Nat.xor_assoc] using this
theorem xor_byte_lt {h : Nat} (c : UInt8) (hh : h < 18446744073709551616) : h ^^^ c.toNat < 18446744073709551616 := Nat.xor_lt_two_pow (n := 64) hh (Nat.lt_of_lt_of_le c.toNat_lt (by decide))
theorem fnvS_inj {h k : Nat} {c : UInt8} (hh : h < 18446744073709551616) (hk : k < 18446744073709551616) (e : fnvS h c = fnvS k c) : h = k := by
  rw [fnvS_eq, fnvS_eq] at e
  exact xor_left_inj (mul_inj (xor_byte_lt c hh) (xor_byte_lt c hk) e)
theorem fnvS_byte {h : Nat} {c d : UInt8} (hh : h < 18446744073709551616) (e : fnvS h c = fnvS h d) : c = d := by
  rw [fnvS_eq, fnvS_eq] at e
  have := mul_inj (xor_byte_lt c hh) (xor_byte_lt d hh) e
  rw [Nat.xor_comm h, Nat.xor_comm h] at this
  exact UInt8.toNat_inj.1 (xor_left_inj this)
theorem fnvR_inj : ∀ (l : List UInt8) {h k : Nat}, h < 18446744073709551616 → k < 18446744073709551616 → fnvR h l = fnvR k l → h = k
  | [], _, _, _, _, e => e
  | c :: l, _, _, hh, hk, e => by
    rw [fnvR_cons, fnvR_cons] at e
    exact fnvS_inj hh hk (fnvR_inj l (fnvS_lt _ c) (fnvS_lt _ c) e)
/-- Strings that differ in one byte have different hashes. -/
theorem fnv_byte (A B : List UInt8) (c d : UInt8) (h : fnvN (A ++ c :: B) = fnvN (A ++ d :: B)) : c = d := by
  unfold fnvN at h
  rw [fnvR_app, fnvR_app, fnvR_cons, fnvR_cons] at h
  exact fnvS_byte (fnvR_lt A (by decide)) (fnvR_inj B (fnvS_lt _ c) (fnvS_lt _ d) h)

/-! ### Trees -/
def pairN (a b : Nat) : Nat := fnvN (1 :: (beL a 8 ++ beL b 8))
def leafN (s : List UInt8) : Nat := fnvN (0 :: s)
theorem pairN_lt (a b : Nat) : pairN a b < 18446744073709551616 := fnvN_lt _
theorem leafN_lt (s : List UInt8) : leafN s < 18446744073709551616 := fnvN_lt _
/-- The greatest power of two that is less than n. -/
def leftN (n : Nat) : Nat := 2 ^ Nat.log2 (n - 1)
theorem left_lt {n : Nat} (h : 2 ≤ n) : leftN n < n := by
  have := Nat.log2_self_le (n := n - 1) (by omega)
  unfold leftN; omega
theorem left_pos (n : Nat) : 0 < leftN n := Nat.two_pow_pos _
theorem left_le {n : Nat} (h : 2 ≤ n) : n ≤ 2 * leftN n := by
  have := Nat.lt_log2_self (n := n - 1)
  rw [Nat.pow_succ] at this
  unfold leftN; omega
theorem left_is {n j : Nat} (h1 : 2 ^ j < n) (h2 : n ≤ 2 * 2 ^ j) : leftN n = 2 ^ j := by
  unfold leftN
  have hj := Nat.two_pow_pos j
  have : Nat.log2 (n - 1) = j := by
    refine (Nat.log2_eq_iff (by omega)).2 ⟨by omega, ?_⟩
    rw [Nat.pow_succ]; omega
  rw [this]
/-- The root of a list. -/
def rootN (l : List (List UInt8)) : Nat :=
  if _h : 2 ≤ l.length then pairN (rootN (l.take (leftN l.length))) (rootN (l.drop (leftN l.length))) else match l with | [] => fnvN [] | s :: _ => leafN s
termination_by l.length
decreasing_by
  · rw [List.length_take]; have := left_lt _h; omega
  · rw [List.length_drop]; have := left_pos l.length; omega
theorem root_nil : rootN [] = fnvN [] := by rw [rootN]; simp
theorem root_one (s : List UInt8) : rootN [s] = leafN s := by rw [rootN]; simp
theorem root_two {l : List (List UInt8)} (h : 2 ≤ l.length) : rootN l = pairN (rootN (l.take (leftN l.length))) (rootN (l.drop (leftN l.length))) := by rw [rootN, dif_pos h]
theorem root_lt (l : List (List UInt8)) : rootN l < 18446744073709551616 := by
  by_cases h : 2 ≤ l.length
  · rw [root_two h]; exact pairN_lt _ _
  · match l with
    | [] => rw [root_nil]; exact fnvN_lt _
    | [s] => rw [root_one]; exact leafN_lt _
    | _ :: _ :: _ => simp at h
/-- The path of an element. -/
def pathN (l : List (List UInt8)) (i : Nat) : List Nat :=
  if _h : 2 ≤ l.length then
    if i < leftN l.length then pathN (l.take (leftN l.length)) i ++ [rootN (l.drop (leftN l.length))]
    else pathN (l.drop (leftN l.length)) (i - leftN l.length) ++ [rootN (l.take (leftN l.length))]
  else []
termination_by l.length
decreasing_by
  · rw [List.length_take]; have := left_lt _h; omega
  · rw [List.length_drop]; have := left_pos l.length; omega
theorem path_one {l : List (List UInt8)} (h : ¬ 2 ≤ l.length) (i : Nat) : pathN l i = [] := by rw [pathN, dif_neg h]
theorem path_left {l : List (List UInt8)} (h : 2 ≤ l.length) {i : Nat} (hi : i < leftN l.length) : pathN l i = pathN (l.take (leftN l.length)) i ++ [rootN (l.drop (leftN l.length))] := by rw [pathN, dif_pos h, if_pos hi]
theorem path_right {l : List (List UInt8)} (h : 2 ≤ l.length) {i : Nat} (hi : ¬ i < leftN l.length) : pathN l i = pathN (l.drop (leftN l.length)) (i - leftN l.length) ++ [rootN (l.take (leftN l.length))] := by rw [pathN, dif_pos h, if_neg hi]
theorem path_lt : ∀ (n : Nat) (l : List (List UInt8)) (i : Nat), l.length = n → ∀ x ∈ pathN l i, x < 18446744073709551616 := by
  intro n
  induction n using Nat.strongRecOn with
  | ind n ih =>
    intro l i hn x hx
    by_cases h : 2 ≤ l.length
    · have h1 := left_lt h
      have h2 := left_pos l.length
      by_cases hi : i < leftN l.length
      · rw [path_left h hi, List.mem_append] at hx
        rcases hx with hx | hx
        · exact ih (leftN l.length) (by omega) _ i (by rw [List.length_take]; omega) x hx
        · rw [List.mem_singleton.1 hx]; exact root_lt _
      · rw [path_right h hi, List.mem_append] at hx
        rcases hx with hx | hx
        · exact ih (l.length - leftN l.length) (by omega) _ _ (by rw [List.length_drop]) x hx
        · rw [List.mem_singleton.1 hx]; exact root_lt _
    · rw [path_one h] at hx; simp at hx
/-- What a string and a path give: the path is taken from its end. -/
def givenN (s : List UInt8) (i n : Nat) (path : List Nat) : Nat × Bool :=
  if n = 1 then (leafN s, path.length == 0)
  else if h : path.length = 0 then (0, false)
  else if i < leftN n then (pairN (givenN s i (leftN n) path.dropLast).1 (path.getLast (fun e => h (by rw [e]; rfl))), (givenN s i (leftN n) path.dropLast).2)
  else (pairN (path.getLast (fun e => h (by rw [e]; rfl))) (givenN s (i - leftN n) (n - leftN n) path.dropLast).1, (givenN s (i - leftN n) (n - leftN n) path.dropLast).2)
termination_by path.length
decreasing_by all_goals (rw [List.length_dropLast]; omega)
theorem given_one (s : List UInt8) (i : Nat) (path : List Nat) : givenN s i 1 path = (leafN s, path.length == 0) := by rw [givenN, if_pos rfl]
theorem given_nil (s : List UInt8) (i : Nat) {n : Nat} (h : n ≠ 1) : givenN s i n [] = (0, false) := by rw [givenN, if_neg h]; rfl
theorem given_left (s : List UInt8) {i n : Nat} (h : n ≠ 1) (path : List Nat) (x : Nat) (hi : i < leftN n) : givenN s i n (path ++ [x]) = (pairN (givenN s i (leftN n) path).1 x, (givenN s i (leftN n) path).2) := by
  rw [givenN, if_neg h, dif_neg (by simp), if_pos hi, List.dropLast_concat, List.getLast_concat]
theorem given_right (s : List UInt8) {i n : Nat} (h : n ≠ 1) (path : List Nat) (x : Nat) (hi : ¬ i < leftN n) : givenN s i n (path ++ [x]) = (pairN x (givenN s (i - leftN n) (n - leftN n) path).1, (givenN s (i - leftN n) (n - leftN n) path).2) := by
  rw [givenN, if_neg h, dif_neg (by simp), if_neg hi, List.dropLast_concat, List.getLast_concat]
theorem given_lt (s : List UInt8) (i n : Nat) (path : List Nat) : (givenN s i n path).1 < 18446744073709551616 := by
  by_cases h1 : n = 1
  · subst h1; rw [given_one]; exact leafN_lt _
  · rcases List.eq_nil_or_concat path with rfl | ⟨p, x, rfl⟩
    · rw [given_nil s i h1]; decide
    · rw [List.concat_eq_append]
      by_cases hi : i < leftN n
      · rw [given_left s h1 p x hi]; exact pairN_lt _ _
      · rw [given_right s h1 p x hi]; exact pairN_lt _ _
/-- How long the path of an element is. -/
def deep (i n : Nat) : Nat := if h : 2 ≤ n then if i < leftN n then deep i (leftN n) + 1 else deep (i - leftN n) (n - leftN n) + 1 else 0
termination_by n
decreasing_by
  · exact left_lt h
  · have := left_pos n; omega
theorem deep_one {n : Nat} (h : ¬ 2 ≤ n) (i : Nat) : deep i n = 0 := by rw [deep, dif_neg h]
theorem deep_left {i n : Nat} (h : 2 ≤ n) (hi : i < leftN n) : deep i n = deep i (leftN n) + 1 := by rw [deep, dif_pos h, if_pos hi]
theorem deep_right {i n : Nat} (h : 2 ≤ n) (hi : ¬ i < leftN n) : deep i n = deep (i - leftN n) (n - leftN n) + 1 := by rw [deep, dif_pos h, if_neg hi]
theorem path_deep : ∀ (n : Nat) (l : List (List UInt8)) (i : Nat), l.length = n → (pathN l i).length = deep i n := by
  intro n
  induction n using Nat.strongRecOn with
  | ind n ih =>
    intro l i hn
    subst hn
    by_cases h : 2 ≤ l.length
    · have h1 := left_lt h
      have h2 := left_pos l.length
      by_cases hi : i < leftN l.length
      · rw [path_left h hi, deep_left h hi, List.length_append, ih (leftN l.length) h1 _ i (by rw [List.length_take]; omega)]; rfl
      · rw [path_right h hi, deep_right h hi, List.length_append, ih (l.length - leftN l.length) (by omega) _ _ (by rw [List.length_drop])]; rfl
    · rw [path_one h, deep_one h]; rfl
/-- A path of another length is refused. -/
theorem given_len (s : List UInt8) : ∀ (n i : Nat) (path : List Nat), 1 ≤ n → (givenN s i n path).2 = true → path.length = deep i n := by
  intro n
  induction n using Nat.strongRecOn with
  | ind n ih =>
    intro i path hn h
    by_cases h1 : n = 1
    · subst h1
      rw [given_one] at h
      rw [deep_one (by omega)]
      simpa using h
    · have h2 : 2 ≤ n := by omega
      have hl := left_lt h2
      have hp := left_pos n
      rcases List.eq_nil_or_concat path with rfl | ⟨p, x, rfl⟩
      · rw [given_nil s i h1] at h; simp at h
      · rw [List.concat_eq_append] at h ⊢
        by_cases hi : i < leftN n
        · rw [given_left s h1 p x hi] at h
          rw [List.length_append, deep_left h2 hi, ih _ hl i p hp h]; rfl
        · rw [given_right s h1 p x hi] at h
          rw [List.length_append, deep_right h2 hi, ih _ (by omega) _ p (by omega) h]; rfl
/-- The path of an element gives the root. -/
theorem given_path : ∀ (n : Nat) (l : List (List UInt8)) (i : Nat), l.length = n → i < n → givenN (l.getD i []) i n (pathN l i) = (rootN l, true) := by
  intro n
  induction n using Nat.strongRecOn with
  | ind n ih =>
    intro l i hn hi
    subst hn
    by_cases h : 2 ≤ l.length
    · have h1 := left_lt h
      have h2 := left_pos l.length
      have hne : l.length ≠ 1 := by omega
      by_cases hil : i < leftN l.length
      · have e : (l.take (leftN l.length)).getD i [] = l.getD i [] := by simp [List.getD, hil]
        have := ih (leftN l.length) h1 (l.take (leftN l.length)) i (by rw [List.length_take]; omega) hil
        rw [e] at this
        rw [path_left h hil, given_left _ hne _ _ hil, this, root_two h]
      · have e : (l.drop (leftN l.length)).getD (i - leftN l.length) [] = l.getD i [] := by
          simp [List.getD, List.getElem?_drop, show leftN l.length + (i - leftN l.length) = i by omega]
        have := ih (l.length - leftN l.length) (by omega) (l.drop (leftN l.length)) (i - leftN l.length) (by rw [List.length_drop]) (by omega)
        rw [e] at this
        rw [path_right h hil, given_right _ hne _ _ hil, this, root_two h]
    · match l, h, hi with
      | [], _, hi => simp at hi
      | [s], _, hi =>
        obtain rfl : i = 0 := by simpa using hi
        rw [path_one (by simp), root_one]
        show givenN s 0 1 [] = _
        rw [given_one]; rfl
      | _ :: _ :: _, h, _ => simp at h
end Go.Proofs.YtandcacobahmbaaDoor.Dg
