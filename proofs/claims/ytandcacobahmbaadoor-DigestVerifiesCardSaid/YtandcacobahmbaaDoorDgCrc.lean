/-
  Plain mathematics of layer 6: the checksum.
-/
import Derived.Test.YtandcacobahmbaaDoorCbMath
namespace Go.Proofs.YtandcacobahmbaaDoor.Dg

/-! ### The checksum -/
def crcS (r : Nat) : Nat := if r % 2 = 1 then (r / 2) ^^^ 2197175160 else r / 2
def crc8 (r : Nat) : Nat := crcS (crcS (crcS (crcS (crcS (crcS (crcS (crcS r)))))))
def feed (r : Nat) (c : UInt8) : Nat := crc8 (r ^^^ c.toNat)
def crcR (r : Nat) (l : List UInt8) : Nat := l.foldl feed r
def crcN (l : List UInt8) : Nat := crcR 4294967295 l ^^^ 4294967295
theorem crcS_lt {r : Nat} (h : r < 2 ^ 32) : crcS r < 2 ^ 32 := by
  unfold crcS
  split
  · exact Nat.xor_lt_two_pow (by omega) (by decide)
  · omega
theorem crc8_lt {r : Nat} (h : r < 2 ^ 32) : crc8 r < 2 ^ 32 := crcS_lt (crcS_lt (crcS_lt (crcS_lt (crcS_lt (crcS_lt (crcS_lt (crcS_lt h)))))))
theorem byte_lt (c : UInt8) : c.toNat < 2 ^ 32 := Nat.lt_of_lt_of_le c.toNat_lt (by decide)
theorem feed_lt {r : Nat} (h : r < 2 ^ 32) (c : UInt8) : feed r c < 2 ^ 32 := crc8_lt (Nat.xor_lt_two_pow h (byte_lt c))
theorem crcR_lt : ∀ (l : List UInt8) {r : Nat}, r < 2 ^ 32 → crcR r l < 2 ^ 32
  | [], _, h => h
  | c :: l, _, h => crcR_lt l (feed_lt h c)
theorem crcN_lt (l : List UInt8) : crcN l < 2 ^ 32 := Nat.xor_lt_two_pow (crcR_lt l (by decide)) (by decide)
theorem crcR_app (r : Nat) (l m : List UInt8) : crcR r (l ++ m) = crcR (crcR r l) m := List.foldl_append ..
theorem crcR_snoc (r : Nat) (l : List UInt8) (c : UInt8) : crcR r (l ++ [c]) = feed (crcR r l) c := by rw [crcR_app]; rfl

theorem xor_div2 (a b : Nat) : (a ^^^ b) / 2 = a / 2 ^^^ b / 2 := by
  apply Nat.eq_of_testBit_eq
  intro i
  rw [Nat.testBit_div_two, Nat.testBit_xor, Nat.testBit_xor, Nat.testBit_div_two, Nat.testBit_div_two]
theorem xor_mod2 (a b : Nat) : (a ^^^ b) % 2 = (a % 2 + b % 2) % 2 := by
  have h := Nat.testBit_xor a b 0
  rw [Nat.testBit_zero, Nat.testBit_zero, Nat.testBit_zero] at h
  rcases Nat.mod_two_eq_zero_or_one a with ha | ha <;> rcases Nat.mod_two_eq_zero_or_one b with hb | hb <;> rcases Nat.mod_two_eq_zero_or_one (a ^^^ b) with hc | hc <;> simp [ha, hb, hc] at h ⊢
theorem crcS_xor (a b : Nat) : crcS (a ^^^ b) = crcS a ^^^ crcS b := by
  unfold crcS
  rw [xor_div2, xor_mod2]
  rcases Nat.mod_two_eq_zero_or_one a with ha | ha <;> rcases Nat.mod_two_eq_zero_or_one b with hb | hb <;> simp only [ha, hb, Nat.reduceAdd, Nat.reduceMod, Nat.zero_ne_one, if_true, if_false]
  · rw [Nat.xor_assoc]
  · rw [Nat.xor_assoc, Nat.xor_assoc, Nat.xor_comm (b / 2)]
  · rw [Nat.xor_assoc, Nat.xor_comm 2197175160, Nat.xor_assoc, Nat.xor_self, Nat.xor_zero]
theorem crc8_xor (a b : Nat) : crc8 (a ^^^ b) = crc8 a ^^^ crc8 b := by unfold crc8; simp only [crcS_xor]
theorem crcS_zero {r : Nat} (hr : r < 2 ^ 32) (h : crcS r = 0) : r = 0 := by
  unfold crcS at h
  split at h
  · have hx : r / 2 = 2197175160 := by
      have := congrArg (· ^^^ 2197175160) h
      simpa [Nat.xor_assoc] using this
    omega
  · omega
theorem crc8_zero {r : Nat} (hr : r < 2 ^ 32) (h : crc8 r = 0) : r = 0 := by
  have h1 := crcS_lt hr
  have h2 := crcS_lt h1
  have h3 := crcS_lt h2
  have h4 := crcS_lt h3
  have h5 := crcS_lt h4
  have h6 := crcS_lt h5
  have h7 := crcS_lt h6
  exact crcS_zero hr (crcS_zero h1 (crcS_zero h2 (crcS_zero h3 (crcS_zero h4 (crcS_zero h5 (crcS_zero h6 (crcS_zero h7 h)))))))
theorem crc8_shift (x : Nat) : crc8 (256 * x) = x := by
  have e : ∀ y, crcS (2 * y) = y := fun y => by unfold crcS; rw [if_neg (by omega)]; omega
  unfold crc8
  rw [show 256 * x = 2 * (2 * (2 * (2 * (2 * (2 * (2 * (2 * x))))))) by omega, e, e, e, e, e, e, e, e]

/-- The byte-wise exclusive or of two lists. -/
def xorB : List UInt8 → List UInt8 → List UInt8
  | a :: l, b :: m => (a ^^^ b) :: xorB l m
  | _, _ => []
theorem feed_xor (r t : Nat) (a b : UInt8) : feed (r ^^^ t) (a ^^^ b) = feed r a ^^^ feed t b := by
  unfold feed
  rw [← crc8_xor, UInt8.toNat_xor]
  congr 1
  rw [Nat.xor_assoc, Nat.xor_assoc, ← Nat.xor_assoc t, Nat.xor_comm t, Nat.xor_assoc]
theorem crcR_xor : ∀ (l m : List UInt8) (r t : Nat), l.length = m.length → crcR (r ^^^ t) (xorB l m) = crcR r l ^^^ crcR t m
  | [], [], _, _, _ => rfl
  | [], _ :: _, _, _, h => by simp at h
  | _ :: _, [], _, _, h => by simp at h
  | a :: l, b :: m, r, t, h => by
    show crcR (feed (r ^^^ t) (a ^^^ b)) (xorB l m) = crcR (feed r a) l ^^^ crcR (feed t b) m
    rw [feed_xor]
    exact crcR_xor l m _ _ (by simpa using h)
/-- Bytes as one number, the least significant first. -/
def word : List UInt8 → Nat
  | [] => 0
  | c :: l => c.toNat + 256 * word l
theorem word_lt : ∀ l : List UInt8, word l < 256 ^ l.length
  | [] => Nat.one_pos
  | c :: l => by
    have := word_lt l
    have := c.toNat_lt
    rw [word, List.length_cons, Nat.pow_succ]
    omega
theorem word_zero : ∀ l : List UInt8, word l = 0 → ∀ c ∈ l, c = 0
  | [], _, _, h => by simp at h
  | d :: l, h, c, hc => by
    rw [word] at h
    rcases List.mem_cons.1 hc with e | e
    · rw [e]; exact UInt8.toNat_inj.1 (by show d.toNat = 0; omega)
    · exact word_zero l (by omega) c e
def iter8 : Nat → Nat → Nat
  | 0, r => r
  | n + 1, r => iter8 n (crc8 r)
theorem low_xor (c : UInt8) (x : Nat) : c.toNat ^^^ 256 * x = c.toNat + 256 * x := by
  rw [Nat.xor_comm, show 256 * x = 2 ^ 8 * x from rfl]
  have := Nat.two_pow_add_eq_or_of_lt (i := 8) (b := c.toNat) c.toNat_lt x
  rw [Nat.add_comm, this]
  apply Nat.eq_of_testBit_eq
  intro i
  rw [Nat.testBit_xor, Nat.testBit_or]
  by_cases hi : i < 8
  · have : (2 ^ 8 * x).testBit i = false := by rw [Nat.testBit_two_pow_mul]; simp; omega
    rw [this]; simp
  · have : c.toNat.testBit i = false := Nat.testBit_lt_two_pow (Nat.lt_of_lt_of_le c.toNat_lt (Nat.pow_le_pow_right (n := 2) (by decide) (by omega)))
    rw [this]; simp
theorem crcR_word : ∀ (l : List UInt8) (r : Nat), crcR r l = iter8 l.length (r ^^^ word l)
  | [], r => by show r = r ^^^ 0; rw [Nat.xor_zero]
  | c :: l, r => by
    show crcR (feed r c) l = iter8 l.length (crc8 (r ^^^ word (c :: l)))
    rw [crcR_word l, feed, word, ← low_xor, ← Nat.xor_assoc, crc8_xor (r ^^^ c.toNat), crc8_shift]
theorem iter8_zero : ∀ (n r : Nat), r < 2 ^ 32 → iter8 n r = 0 → r = 0
  | 0, _, _, h => h
  | n + 1, _, hr, h => crc8_zero hr (iter8_zero n _ (crc8_lt hr) h)
theorem crc8_0 : crc8 0 = 0 := by decide
theorem crcR_zeros : ∀ (l : List UInt8), (∀ c ∈ l, c = 0) → crcR 0 l = 0
  | [], _ => rfl
  | c :: l, h => by
    have e : c = 0 := h c (List.mem_cons_self ..)
    subst e
    show crcR (feed 0 0) l = 0
    have : feed 0 0 = 0 := crc8_0
    rw [this]
    exact crcR_zeros l fun d hd => h d (List.mem_cons_of_mem _ hd)
theorem crcR_inj0 (l : List UInt8) {r : Nat} (hr : r < 2 ^ 32) (hl : ∀ c ∈ l, c = 0) (h : crcR r l = 0) : r = 0 := by
  induction l generalizing r with
  | nil => exact h
  | cons c l ih =>
    have e : c = 0 := hl c (List.mem_cons_self ..)
    subst e
    have h1 := ih (feed_lt hr 0) (fun d hd => hl d (List.mem_cons_of_mem _ hd)) h
    unfold feed at h1
    have := crc8_zero (r := r ^^^ (0 : UInt8).toNat) (Nat.xor_lt_two_pow hr (by decide)) h1
    simpa using this
/-- A burst of at most four bytes is seen. -/
theorem burst (A D B : List UInt8) (hA : ∀ c ∈ A, c = 0) (hB : ∀ c ∈ B, c = 0) (hD : D.length ≤ 4) (h : crcR 0 (A ++ D ++ B) = 0) : ∀ c ∈ D, c = 0 := by
  rw [crcR_app, crcR_app, crcR_zeros A hA] at h
  have h1 := crcR_inj0 B (crcR_lt D (by decide)) hB h
  rw [crcR_word, Nat.zero_xor] at h1
  have hw : word D < 2 ^ 32 := by
    have := word_lt D
    have h2 := Nat.pow_le_pow_right (n := 256) (by decide) hD
    have h3 : (256 : Nat) ^ 4 = 2 ^ 32 := by decide
    omega
  exact word_zero D (iter8_zero _ _ hw h1)
theorem xorB_self : ∀ l : List UInt8, ∀ c ∈ xorB l l, c = 0
  | [], _, h => by simp [xorB] at h
  | a :: l, c, h => by
    rw [xorB, List.mem_cons] at h
    rcases h with e | e
    · rw [e, UInt8.xor_self]
    · exact xorB_self l c e
theorem xorB_app : ∀ (l m p q : List UInt8), l.length = m.length → xorB (l ++ p) (m ++ q) = xorB l m ++ xorB p q
  | [], [], _, _, _ => rfl
  | [], _ :: _, _, _, h => by simp at h
  | _ :: _, [], _, _, h => by simp at h
  | a :: l, b :: m, p, q, h => by
    show (a ^^^ b) :: xorB (l ++ p) (m ++ q) = _
    rw [xorB_app l m p q (by simpa using h)]; rfl
theorem xorB_length : ∀ l m : List UInt8, l.length = m.length → (xorB l m).length = l.length
  | [], [], _ => rfl
  | [], _ :: _, h => by simp at h
  | _ :: _, [], h => by simp at h
  | _ :: l, _ :: m, h => by
    rw [xorB, List.length_cons, List.length_cons, xorB_length l m (by simpa using h)]
theorem xorB_eq : ∀ l m : List UInt8, l.length = m.length → (∀ c ∈ xorB l m, c = 0) → l = m
  | [], [], _, _ => rfl
  | [], _ :: _, h, _ => by simp at h
  | _ :: _, [], h, _ => by simp at h
  | a :: l, b :: m, h, hz => by
    have h0 : a ^^^ b = 0 := hz _ (List.mem_cons_self ..)
    have : a = b := UInt8.xor_eq_zero_iff.1 h0
    rw [this, xorB_eq l m (by simpa using h) fun c hc => hz c (List.mem_cons_of_mem _ hc)]
/-- Strings that differ only within four bytes have different checksums. -/
theorem crc_burst (A D E B : List UInt8) (h : D.length = E.length) (h4 : D.length ≤ 4) (he : crcN (A ++ D ++ B) = crcN (A ++ E ++ B)) : D = E := by
  unfold crcN at he
  have he : crcR 4294967295 (A ++ D ++ B) = crcR 4294967295 (A ++ E ++ B) := by
    have := congrArg (· ^^^ 4294967295) he
    simpa [Nat.xor_assoc] using this
  have hx := crcR_xor (A ++ D ++ B) (A ++ E ++ B) 4294967295 4294967295 (by simp [h])
  rw [he, Nat.xor_self, Nat.xor_self, xorB_app _ _ _ _ (by simp [h]), xorB_app _ _ _ _ rfl] at hx
  exact xorB_eq D E h (burst _ _ _ (xorB_self A) (xorB_self B) (by rw [xorB_length D E h]; exact h4) hx)

end Go.Proofs.YtandcacobahmbaaDoor.Dg
