/-
  Contracts of the program of layer 7: characters, blanks and remarks, marks.
-/
import Derived.Test.YtdpnmlgadieamaaLxR1
namespace Go.Proofs.Ytdpnmlgadieamaa.Lx
open Go.RowKit

/-- The character at a place; -1 behind the end. -/
def chA (s : ByteArray) (a : Nat) : Int := if h : a < s.size then (s[a].toNat : Int) else -1
theorem chA_in {s : ByteArray} {a : Nat} (h : a < s.size) : chA s a = (s[a].toNat : Int) := by unfold chA; rw [dif_pos h]
theorem chA_out {s : ByteArray} {a : Nat} (h : s.size ≤ a) : chA s a = -1 := by unfold chA; rw [dif_neg (by omega)]
theorem chA_bd (s : ByteArray) (a : Nat) : -1 ≤ chA s a ∧ chA s a ≤ 255 := by
  unfold chA
  split
  · rename_i h; have := s[a].toNat_lt; omega
  · omega
def ltI (c : Int) : Bool := decide (65 ≤ c) && decide (c ≤ 90) || decide (97 ≤ c) && decide (c ≤ 122)
def digI (c : Int) : Bool := decide (48 ≤ c) && decide (c ≤ 57)
def nmI (c : Int) : Bool := ltI c || digI c || c == 95 || c == 45
def blI (c : Int) : Bool := c == 32 || c == 9 || c == 10 || c == 13
def plI (c : Int) : Bool := decide (32 ≤ c) && decide (c ≤ 126) && c != 34 && c != 92
theorem charAt_any (s : ByteArray) (a : Nat) (w : World) : Calls Try.prog 25 #[.string s, .int .i64 (a : Int)] w fun e w' => e = .returned (.int .i32 (chA s a)) ∧ w = w' := by
  by_cases h : a < s.size
  · have h1 : ¬ (s.size : Int) ≤ (a : Int) := by omega
    have hv := Lib.hid (chA_in h)
    have hl := s[a].toNat_lt
    obtain ⟨D, hD⟩ : ∃ D, s[a].toNat = D := ⟨_, rfl⟩
    rw [hD] at hl hv
    go_enter Try.func25, Try.ntmps25
    go_wp2_with fail
    go_ret
    exact ⟨ret_int hv.out.symm, rfl⟩
  · have h1 : (s.size : Int) ≤ (a : Int) := by omega
    have hv := Lib.hid (chA_out (show s.size ≤ a by omega))
    go_enter Try.func25, Try.ntmps25
    go_wp2_with fail
    go_ret
    exact ⟨ret_int hv.out.symm, rfl⟩
theorem pletter_any (c : Int) (w : World) : Calls Try.prog 33 #[.int .i32 c] w fun e w' => e = .returned (.bool (ltI c)) ∧ w = w' := by
  go_enter Try.func33, Try.ntmps33
  go_wp2
  all_goals
    go_ret
    refine ⟨ret_bool (Bool.eq_iff_iff.2 ?_), rfl⟩
    first | (simp [ltI, *]; done) | (simp [ltI, *]; omega)
theorem pdigit_any (c : Int) (w : World) : Calls Try.prog 35 #[.int .i32 c] w fun e w' => e = .returned (.bool (digI c)) ∧ w = w' := by
  go_enter Try.func35, Try.ntmps35
  go_wp2
  all_goals
    go_ret
    refine ⟨ret_bool (Bool.eq_iff_iff.2 ?_), rfl⟩
    first | (simp [digI, *]; done) | (simp [digI, *]; omega)
theorem pblank_any (c : Int) (w : World) : Calls Try.prog 31 #[.int .i32 c] w fun e w' => e = .returned (.bool (blI c)) ∧ w = w' := by
  go_enter Try.func31, Try.ntmps31
  go_wp2
  all_goals
    go_ret
    refine ⟨ret_bool (Bool.eq_iff_iff.2 ?_), rfl⟩
    first | (simp [blI, *]; done) | (simp [blI, *]; omega)
theorem pplain_any (c : Int) (w : World) : Calls Try.prog 26 #[.int .i32 c] w fun e w' => e = .returned (.bool (plI c)) ∧ w = w' := by
  go_enter Try.func26, Try.ntmps26
  go_wp2
  all_goals
    go_ret
    refine ⟨ret_bool (Bool.eq_iff_iff.2 ?_), rfl⟩
    first | (simp [plI, *]; done) | (simp [plI, *]; omega)
/-- What a backslash and c stand for, and what stands behind a backslash for c. -/
def escI (c : Int) : Int := if c = 34 then 34 else if c = 92 then 92 else if c = 110 then 10 else -1
def escO (c : Int) : Int := if c = 34 then 34 else if c = 92 then 92 else if c = 10 then 110 else -1
theorem pescaped_any (c : Int) (w : World) : Calls Try.prog 53 #[.int .i32 c] w fun e w' => e = .returned (.int .i32 (escI c)) ∧ w = w' := by
  by_cases h1 : c = 34
  · subst h1
    go_enter Try.func53, Try.ntmps53
    go_wp2_with fail
    go_ret
    exact ⟨rfl, rfl⟩
  · by_cases h2 : c = 92
    · subst h2
      go_enter Try.func53, Try.ntmps53
      go_wp2_with fail
      go_ret
      exact ⟨rfl, rfl⟩
    · by_cases h3 : c = 110
      · subst h3
        go_enter Try.func53, Try.ntmps53
        go_wp2_with fail
        go_ret
        exact ⟨rfl, rfl⟩
      · have F := Lib.hid (show escI c = -1 by unfold escI; rw [if_neg h1, if_neg h2, if_neg h3])
        have b1 : (c == 34) = false := beq_false_of_ne h1
        have b2 : (c == 92) = false := beq_false_of_ne h2
        have b3 : (c == 110) = false := beq_false_of_ne h3
        go_enter Try.func53, Try.ntmps53
        go_wp2_with fail
        go_ret
        exact ⟨ret_int F.out.symm, rfl⟩
theorem pescape_any (c : Int) (w : World) : Calls Try.prog 27 #[.int .i32 c] w fun e w' => e = .returned (.int .i32 (escO c)) ∧ w = w' := by
  by_cases h1 : c = 34
  · subst h1
    go_enter Try.func27, Try.ntmps27
    go_wp2_with fail
    go_ret
    exact ⟨rfl, rfl⟩
  · by_cases h2 : c = 92
    · subst h2
      go_enter Try.func27, Try.ntmps27
      go_wp2_with fail
      go_ret
      exact ⟨rfl, rfl⟩
    · by_cases h3 : c = 10
      · subst h3
        go_enter Try.func27, Try.ntmps27
        go_wp2_with fail
        go_ret
        exact ⟨rfl, rfl⟩
      · have F := Lib.hid (show escO c = -1 by unfold escO; rw [if_neg h1, if_neg h2, if_neg h3])
        have b1 : (c == 34) = false := beq_false_of_ne h1
        have b2 : (c == 92) = false := beq_false_of_ne h2
        have b3 : (c == 10) = false := beq_false_of_ne h3
        go_enter Try.func27, Try.ntmps27
        go_wp2_with fail
        go_ret
        exact ⟨ret_int F.out.symm, rfl⟩
/-- The bridges to the classes of bytes. -/
theorem ltI_nat (D : Nat) : ltI (D : Int) = letN D := by
  rw [Bool.eq_iff_iff]; unfold ltI letN; simp; omega
theorem digI_nat (D : Nat) : digI (D : Int) = digN D := by
  rw [Bool.eq_iff_iff]; unfold digI digN; simp; omega
theorem nmI_nat (D : Nat) : nmI (D : Int) = nmN D := by
  unfold nmI nmN
  rw [ltI_nat, digI_nat]
  have h : ∀ k : Nat, (((D : Int)) == (k : Int)) = (D == k) := fun k => by rw [Bool.eq_iff_iff]; simp; omega
  rw [show ((D : Int) == 95) = (D == 95) from h 95, show ((D : Int) == 45) = (D == 45) from h 45]
theorem blI_nat (D : Nat) : blI (D : Int) = blN D := by
  rw [Bool.eq_iff_iff]; unfold blI blN; simp; omega
theorem plI_nat (D : Nat) : plI (D : Int) = (chN D && D != 34 && D != 92) := by
  rw [Bool.eq_iff_iff]; unfold plI chN; simp; omega
theorem pinname_any (c : Int) (w : World) : Calls Try.prog 47 #[.int .i32 c] w fun e w' => e = .returned (.bool (nmI c)) ∧ w = w' := by
  have cl := Lib.hid (fun w => pletter_any c w)
  have cd := Lib.hid (fun w => pdigit_any c w)
  have F := Lib.hid (show nmI c = (ltI c || digI c || c == 95 || c == 45) from rfl)
  generalize nmI c = R at F ⊢
  generalize ltI c = x at cl F
  generalize digI c = y at cd F
  cases x <;> cases y
  all_goals
    go_enter Try.func47, Try.ntmps47
    go_wp2_with (first | (go_at_call 33; refine (cl.out _).mono ?_; rintro e w1 ⟨rfl, rfl⟩) | (go_at_call 35; refine (cd.out _).mono ?_; rintro e w1 ⟨rfl, rfl⟩))
    all_goals
      go_ret
      refine ⟨ret_bool ?_, rfl⟩
      rw [F.out]
      simp [*]
/-! ### Blanks and remarks -/
set_option maxHeartbeats 1000000 in
set_option maxRecDepth 100000 in
theorem premark_any (s : ByteArray) (b : Nat) (w : World) (hs : s.size ≤ 1000000) (hb : b ≤ s.size) : Calls Try.prog 32 #[.string s, .int .i64 (b : Int)] w
    fun e w' => (∃ r : Nat, e = .returned (.int .i64 (r : Int)) ∧ b ≤ r ∧ r ≤ s.size ∧ skL true (rest s b) = skL false (rest s r) ∧ (chA s b = 35 → b < r)) ∧ w = w' := by
  have hs' : (s.size : Int) ≤ 1000000 := by omega
  have cc := Lib.hid (fun a w => charAt_any s a w)
  go_enter Try.func32, Try.ntmps32
  go_wp2_with fail
  go_loopw [1] (fun x wr => ∃ a : Nat, x = .int .i64 (a : Int) ∧ b ≤ a ∧ a ≤ s.size ∧ w = wr ∧ Hid (skL true (rest s a) = skL true (rest s b))) (fun x _ => s.size - (intOf x).toNat)
  case atStart => exact ⟨b, rfl, Nat.le_refl _, hb, by trivial, rfl⟩
  case round =>
    obtain ⟨a, rfl, hba, ha, rfl, he⟩ := hrel
    have ca := Lib.hid (cc.out a)
    clear cc
    by_cases hlt : a < s.size
    · have hv := Lib.hid (chA_in hlt)
      obtain ⟨D, hdn⟩ : ∃ D, s[a].toNat = D := ⟨_, rfl⟩
      rw [hdn] at hv
      rw [hv.out] at ca
      have n1 : ((D : Int) != -1) = true := bne_iff_ne.2 (by omega)
      by_cases h10 : D = 10
      · have F : Hid (skL true (rest s b) = skL false (rest s a) ∧ (chA s b = 35 → b < a)) := ⟨(sk_line hlt (by omega) he.out).symm, fun e35 => by
          rcases Nat.lt_or_ge b a with x | x
          · exact x
          · have : b = a := by omega
            subst this
            rw [hv.out] at e35; omega⟩
        subst h10
        clear he hv hdn
        go_wp2_with (go_at_call 25; refine (ca.out _).mono ?_; rintro e w1 ⟨rfl, rfl⟩)
        go_ret
        exact ⟨⟨a, rfl, hba, ha, F.out⟩, rfl⟩
      · have n2 : ((D : Int) != 10) = true := bne_iff_ne.2 (by omega)
        have hr := Lib.hid (sk_in hlt (by omega) he.out)
        clear he hv hdn
        go_wp2_with (go_at_call 25; refine (ca.out _).mono ?_; rintro e w1 ⟨rfl, rfl⟩)
        exact ⟨⟨a + 1, rfl, by omega, hlt, by trivial, hr.out⟩, by simp [intOf]; omega⟩
    · have hv := chA_out (show s.size ≤ a by omega)
      rw [hv] at ca
      have F : Hid (skL true (rest s b) = skL false (rest s a) ∧ (chA s b = 35 → b < a)) := ⟨(sk_out (by omega) he.out).symm, fun e35 => by
          rcases Nat.lt_or_ge b a with x | x
          · exact x
          · have : b = a := by omega
            subst this
            rw [hv] at e35; exact absurd e35 (by decide)⟩
      clear he hv
      go_wp2_with (go_at_call 25; refine (ca.out _).mono ?_; rintro e w1 ⟨rfl, rfl⟩)
      go_ret
      exact ⟨⟨a, rfl, hba, ha, F.out⟩, rfl⟩
theorem sk_hash2 {s : ByteArray} {a r : Nat} {Q : List UInt8} (h : a < s.size) (hd : s[a].toNat = 35) (hr : skL true (rest s a) = skL false (rest s r)) (e : skL false (rest s a) = Q) : skL false (rest s r) = Q := by
  rw [← hr]; exact sk_hash h hd e
set_option maxHeartbeats 1000000 in
set_option maxRecDepth 100000 in
theorem pskip_any (s : ByteArray) (b : Nat) (w : World) (hs : s.size ≤ 1000000) (hb : b ≤ s.size) : Calls Try.prog 21 #[.string s, .int .i64 (b : Int)] w fun e w' => e = .returned (.int .i64 (skA s b : Int)) ∧ w = w' := by
  have hs' : (s.size : Int) ≤ 1000000 := by omega
  have cc := Lib.hid (fun a w => charAt_any s a w)
  have cb := Lib.hid (fun c w => pblank_any c w)
  have cr := Lib.hid (fun a ha w => premark_any s a w hs ha)
  go_enter Try.func21, Try.ntmps21
  go_wp2_with fail
  go_loopw [1] (fun x wr => ∃ a : Nat, x = .int .i64 (a : Int) ∧ a ≤ s.size ∧ w = wr ∧ Hid (skL false (rest s a) = skL false (rest s b))) (fun x _ => s.size - (intOf x).toNat)
  case atStart => exact ⟨b, rfl, hb, by trivial, rfl⟩
  case round =>
    obtain ⟨a, rfl, ha, rfl, he⟩ := hrel
    have ca := Lib.hid (cc.out a)
    clear cc
    by_cases hlt : a < s.size
    · have hv := Lib.hid (chA_in hlt)
      obtain ⟨D, hdn⟩ : ∃ D, s[a].toNat = D := ⟨_, rfl⟩
      rw [hdn] at hv
      rw [hv.out] at ca
      have c1 := Lib.hid (cb.out (D : Int))
      rw [blI_nat] at c1
      by_cases hbl : blN D = true
      · have h35 : D ≠ 35 := fun e => by rw [e] at hbl; exact absurd hbl (by decide)
        have hq := Lib.hid (sk_blank hlt (by rw [hdn]; exact hbl) (by omega) he.out)
        rw [hbl] at c1
        clear he hv hdn cb cr
        go_wp2_with (first | (go_at_call 25; refine (ca.out _).mono ?_; rintro e w1 ⟨rfl, rfl⟩) | (go_at_call 31; refine (c1.out _).mono ?_; rintro e w1 ⟨rfl, rfl⟩))
        exact ⟨⟨a + 1, rfl, hlt, by trivial, hq.out⟩, by simp [intOf]; omega⟩
      · have hbl : blN D = false := by simpa using hbl
        rw [hbl] at c1
        by_cases h35 : D = 35
        · have cR := Lib.hid (cr.out a ha)
          have hq := Lib.hid (fun r hr => sk_hash2 (r := r) hlt (by omega) hr he.out)
          rw [h35] at hv
          have hv35 := Lib.hid (show chA s a = 35 from hv.out)
          subst h35
          clear he hv hdn cb cr
          go_wp2_with (first | (go_at_call 25; refine (ca.out _).mono ?_; rintro e w1 ⟨rfl, rfl⟩) | (go_at_call 31; refine (c1.out _).mono ?_; rintro e w1 ⟨rfl, rfl⟩))
          refine (cR.out _).mono ?_; rintro e w1 ⟨⟨r, rfl, r1, r2, r3, r4⟩, rfl⟩
          have r5 := r4 hv35.out
          have r6 := Lib.hid (hq.out r r3)
          clear r3 r4 hq
          go_wp2_with fail
          exact ⟨⟨r, rfl, r2, by trivial, r6.out⟩, by simp [intOf]; omega⟩
        · have b35 : ((D : Int) == 35) = false := beq_false_of_ne (by omega)
          have hq := Lib.hid (sk_here hlt (by omega) (by rw [hdn]; exact hbl) he.out)
          clear he hv hdn cb cr
          go_wp2_with (first | (go_at_call 25; refine (ca.out _).mono ?_; rintro e w1 ⟨rfl, rfl⟩) | (go_at_call 31; refine (c1.out _).mono ?_; rintro e w1 ⟨rfl, rfl⟩))
          go_ret
          exact ⟨ret_int (by rw [← hq.out]), rfl⟩
    · have hv := chA_out (show s.size ≤ a by omega)
      rw [hv] at ca
      have c1 := Lib.hid (cb.out (-1))
      rw [show blI (-1) = false from rfl] at c1
      have hq := Lib.hid (sk_none (show a = s.size by omega) he.out)
      clear he hv cb cr
      go_wp2_with (first | (go_at_call 25; refine (ca.out _).mono ?_; rintro e w1 ⟨rfl, rfl⟩) | (go_at_call 31; refine (c1.out _).mono ?_; rintro e w1 ⟨rfl, rfl⟩))
      go_ret
      exact ⟨ret_int (by rw [← hq.out]), rfl⟩
end Go.Proofs.Ytdpnmlgadieamaa.Lx
