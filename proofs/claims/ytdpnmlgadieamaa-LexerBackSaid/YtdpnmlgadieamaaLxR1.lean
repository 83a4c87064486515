/-
  Contracts of the reference of layer 7: IsMark, skip, name.
-/
import Derived.Test.YtdpnmlgadieamaaLxBase
namespace Go.Proofs.Ytdpnmlgadieamaa.Lx
open Go.RowKit

/-- A mark. -/
def mkL (l : List UInt8) : Bool := l == [45, 62] || (match l with | [c] => markN c.toNat | _ => false)
def marksL : List UInt8 := [123, 125, 40, 41, 91, 93, 44, 59, 58, 61, 43, 45, 42, 47, 46]
theorem markN_is (c : UInt8) : markN c.toNat = marksL.contains c := by
  have h : ∀ n, n < 256 → markN n = marksL.contains (UInt8.ofNat n) := by decide +kernel
  have := h c.toNat c.toNat_lt
  rw [UInt8.ofNat_toNat] at this
  exact this
theorem mk_one (c : UInt8) : mkL [c] = marksL.contains c := by
  rw [← markN_is]
  unfold mkL
  rw [beq_false_of_ne (by simp)]; rfl
theorem mk_not {l : List UInt8} (h1 : ¬ l = [45, 62]) (h2 : l.length ≠ 1) : mkL l = false := by
  unfold mkL
  rw [beq_false_of_ne h1]
  match l, h2 with
  | [], _ => rfl
  | _ :: _ :: _, _ => rfl
  | [_], h => exact absurd rfl h
theorem mark_next {c d : UInt8} {j : Nat} (hd : marksL[j]? = some d) (hn : (marksL.take j).contains c = false) (h : ¬ d = c) : (marksL.take (j + 1)).contains c = false := by
  rw [List.take_add_one, hd, List.contains_eq_mem] at *
  simp only [decide_eq_false_iff_not] at hn ⊢
  simp only [Option.toList_some, List.mem_append, List.mem_singleton, not_or]
  exact ⟨hn, fun e => h e.symm⟩
set_option maxHeartbeats 1000000 in
set_option maxRecDepth 100000 in
theorem rmark_any (s : ByteArray) (w : World) : Calls Try.prog 20 #[.string s] w fun e w' => e = .returned (.bool (mkL s.data.toList)) ∧ Below w.heap.size w w' := by
  by_cases h1 : s.data.toList = [45, 62]
  · have E := Lib.hid (show mkL s.data.toList = true by rw [h1]; rfl)
    have hq : (s.toList == [45, 62]) = true := by rw [Lib.toList_data, h1]; rfl
    clear h1
    go_enter Try.func20, Try.ntmps20
    go_wp2_with fail
    go_ret
    exact ⟨ret_bool E.out.symm, Below.refl _ _⟩
  · have hq : (s.toList == [45, 62]) = false := by rw [Lib.toList_data]; exact beq_false_of_ne h1
    by_cases h2 : s.size = 1
    · obtain ⟨c, hc⟩ : ∃ c, s.data.toList = [c] := by
        have := len_data s
        match s.data.toList, this with
        | [c], _ => exact ⟨c, rfl⟩
        | [], h => simp at h; omega
        | _ :: _ :: _, h => simp at h; omega
      have hs : s = ⟨#[c]⟩ := by
        apply ByteArray.ext
        apply Array.toList_inj.1
        exact hc
      subst hs
      have E := Lib.hid (mk_one c)
      rw [hc]
      have hc0 : ((ByteArray.mk #[c])[0]'(Nat.lt_succ_self 0)).toNat = c.toNat := rfl
      clear h1 h2 hc
      go_enter Try.func20, Try.ntmps20
      go_wp2_with fail
      go_loopw [4] (fun i wr => ∃ j : Nat, i = .int .i64 (j : Int) ∧ j ≤ 15 ∧ Below w.heap.size w wr ∧ Hid ((marksL.take j).contains c = false)) (fun i _ => 15 - (intOf i).toNat)
      case atStart => exact ⟨0, rfl, Nat.zero_le _, Below.refl _ _, rfl⟩
      case round =>
        obtain ⟨j, rfl, hj, hB, hn⟩ := hrel
        by_cases hlt : j < 15
        · have hlt' : (j : Int) < 15 := by omega
          obtain ⟨d, hd⟩ : ∃ d, (ByteArray.mk #[123, 125, 40, 41, 91, 93, 44, 59, 58, 61, 43, 45, 42, 47, 46])[j]'hlt = d := ⟨_, rfl⟩
          have hdl : marksL[j]? = some d := by
            rw [List.getElem?_eq_getElem (by exact hlt), ← hd]; rfl
          have hdn : ((ByteArray.mk #[123, 125, 40, 41, 91, 93, 44, 59, 58, 61, 43, 45, 42, 47, 46])[j]'hlt).toNat = d.toNat := by rw [hd]
          by_cases he : d = c
          · have hb : ((d.toNat : Int) == (c.toNat : Int)) = true := by rw [he]; exact beq_self_eq_true _
            have F := Lib.hid (show mkL [c] = true by
              rw [E.out, ← he, List.contains_eq_mem]
              exact decide_eq_true (List.mem_of_getElem? hdl))
            clear he hdl hd hn
            go_wp2_with fail
            go_quiet (fail)
            go_wp2_with fail
            go_ret
            exact ⟨ret_bool F.out.symm, below_drewN hB _⟩
          · have hb : ((d.toNat : Int) == (c.toNat : Int)) = false := beq_false_of_ne (fun e => he (UInt8.toNat_inj.1 (by omega)))
            have hn2 := Lib.hid (mark_next hdl hn.out he)
            clear he hdl hd hn
            go_wp2_with fail
            go_quiet (fail)
            go_wp2_with fail
            exact ⟨⟨j + 1, rfl, hlt, below_drewN hB _, hn2.out⟩, by simp [intOf]; omega⟩
        · obtain rfl : j = 15 := by omega
          have F := Lib.hid (show mkL [c] = false from E.out.trans hn.out)
          clear hn hlt
          go_wp2_with fail
          go_ret
          exact ⟨ret_bool F.out.symm, hB⟩
    · have hq2 : ((s.size : Int) != 1) = true := bne_iff_ne.2 (by omega)
      have E := Lib.hid (mk_not h1 (by rw [len_data]; exact h2))
      clear h1 h2
      go_enter Try.func20, Try.ntmps20
      go_wp2_with fail
      go_ret
      exact ⟨ret_bool E.out.symm, Below.refl _ _⟩

/-- Where blanks and remarks end. -/
def skA (s : ByteArray) (a : Nat) : Nat := s.size - (skL false (rest s a)).length
theorem skA_of {s : ByteArray} {a b : Nat} (h : a ≤ s.size) (e : rest s a = skL false (rest s b)) : a = skA s b := by
  unfold skA
  rw [← e, rest_len]; omega
theorem skA_le (s : ByteArray) (a : Nat) : skA s a ≤ s.size := Nat.sub_le _ _
theorem skA_rest {s : ByteArray} {a : Nat} (h : a ≤ s.size) : rest s (skA s a) = skL false (rest s a) := by
  have h1 := skL_le false (rest s a)
  have h2 := skL_suffix false (rest s a)
  rw [rest_drop, rest_len] at h2
  rw [rest_len] at h1
  rw [← h2]
  congr 1
  unfold skA; omega
theorem sk_hash {s : ByteArray} {a : Nat} {Q : List UInt8} (h : a < s.size) (hd : s[a].toNat = 35) (e : skL false (rest s a) = Q) : skL true (rest s a) = Q := by
  rw [← e, rest_at h, skL, skL, if_neg (by omega), if_pos hd]
theorem sk_blank {s : ByteArray} {a : Nat} {Q : List UInt8} (h : a < s.size) (hd : blN s[a].toNat = true) (h35 : s[a].toNat ≠ 35) (e : skL false (rest s a) = Q) : skL false (rest s (a + 1)) = Q := by
  rw [← e, rest_at h, skL, if_neg h35, if_pos hd]
theorem sk_in {s : ByteArray} {a : Nat} {Q : List UInt8} (h : a < s.size) (hd : s[a].toNat ≠ 10) (e : skL true (rest s a) = Q) : skL true (rest s (a + 1)) = Q := by
  rw [← e]
  conv => rhs; rw [rest_at h, skL, if_neg hd]
theorem sk_line {s : ByteArray} {a : Nat} {Q : List UInt8} (h : a < s.size) (hd : s[a].toNat = 10) (e : skL true (rest s a) = Q) : skL false (rest s a) = Q := by
  rw [← e, rest_at h, skL, skL, if_pos hd, if_neg (by omega), if_pos (by rw [hd]; rfl)]
theorem sk_out {s : ByteArray} {a : Nat} {Q : List UInt8} (h : s.size ≤ a) (e : skL true (rest s a) = Q) : skL false (rest s a) = Q := by
  rw [← e, rest_end h]; rfl
theorem sk_here {s : ByteArray} {a b : Nat} (h : a < s.size) (h1 : s[a].toNat ≠ 35) (h2 : blN s[a].toNat = false) (e : skL false (rest s a) = skL false (rest s b)) : a = skA s b :=
  skA_of (Nat.le_of_lt h) ((skL_stop (rest_at h) h1 h2).symm.trans e)
theorem sk_none {s : ByteArray} {a b : Nat} (h : a = s.size) (e : skL false (rest s a) = skL false (rest s b)) : a = skA s b :=
  skA_of (Nat.le_of_eq h) (by rw [← e, rest_end (Nat.le_of_eq h.symm)]; rfl)
set_option maxHeartbeats 1000000 in
set_option maxRecDepth 100000 in
theorem rskip_any (s : ByteArray) (b : Nat) (w : World) (hs : s.size ≤ 1000000) (hb : b ≤ s.size) : Calls Try.prog 23 #[.string s, .int .i64 (b : Int)] w fun e w' => e = .returned (.int .i64 (skA s b : Int)) ∧ w = w' := by
  have hs' : (s.size : Int) ≤ 1000000 := by omega
  go_enter Try.func23, Try.ntmps23
  go_wp2_with fail
  go_loopw [1] (fun x wr => ∃ a : Nat, x = .int .i64 (a : Int) ∧ a ≤ s.size ∧ w = wr ∧ Hid (skL false (rest s a) = skL false (rest s b))) (fun x _ => s.size - (intOf x).toNat)
  case atStart => exact ⟨b, rfl, hb, by trivial, rfl⟩
  case round =>
    obtain ⟨a, rfl, ha, rfl, he⟩ := hrel
    by_cases hlt : a < s.size
    · have hlt' : (a : Int) < (s.size : Int) := by omega
      obtain ⟨D, hdn⟩ : ∃ D, s[a].toNat = D := ⟨_, rfl⟩
      have HD := Lib.hid hdn
      by_cases h35 : D = 35
      · have hq := Lib.hid (sk_hash hlt (by omega) he.out)
        subst h35
        clear he
        go_wp2_with fail
        go_loopw [1] (fun x wr => ∃ c : Nat, x = .int .i64 (c : Int) ∧ a ≤ c ∧ c ≤ s.size ∧ w = wr ∧ Hid (skL true (rest s c) = skL false (rest s b))) (fun x _ => s.size - (intOf x).toNat)
        case atStart => exact ⟨a, rfl, Nat.le_refl _, ha, by trivial, hq.out⟩
        case round =>
          obtain ⟨c, rfl, hac, hc, rfl, hr⟩ := hrel
          by_cases hlc : c < s.size
          · have hlc' : (c : Int) < (s.size : Int) := by omega
            obtain ⟨E, hen⟩ : ∃ E, s[c].toNat = E := ⟨_, rfl⟩
            have HE := Lib.hid hen
            by_cases h10 : E = 10
            · have hr2 := Lib.hid (sk_line hlc (by omega) hr.out)
              have hne : ¬ c = a := fun e => by subst e; have := HD.out; omega
              subst h10
              clear hr
              go_wp2_with fail
              exact ⟨⟨c, rfl, hc, by trivial, hr2.out⟩, by simp [intOf]; omega⟩
            · have hr2 := Lib.hid (sk_in hlc (by omega) hr.out)
              have hb10 : ((E : Int) != 10) = true := bne_iff_ne.2 (by omega)
              clear hr
              go_wp2_with fail
              exact ⟨⟨c + 1, rfl, by omega, hlc, by trivial, hr2.out⟩, by simp [intOf]; omega⟩
          · have hr2 := Lib.hid (sk_out (by omega) hr.out)
            have hlc' : ¬ (c : Int) < (s.size : Int) := by omega
            clear hr
            go_wp2_with fail
            exact ⟨⟨c, rfl, hc, by trivial, hr2.out⟩, by simp [intOf]; omega⟩
      · have hb35 : ((D : Int) == 35) = false := beq_false_of_ne (by omega)
        by_cases hbl : blN D = true
        · have hq := Lib.hid (sk_blank hlt (by rw [hdn]; exact hbl) (by omega) he.out)
          have h4 : D = 32 ∨ D = 9 ∨ D = 10 ∨ D = 13 := by unfold blN at hbl; simpa [or_assoc] using hbl
          clear he hbl HD
          rcases h4 with rfl | rfl | rfl | rfl <;>
          · go_wp2_with fail
            exact ⟨⟨a + 1, rfl, hlt, by trivial, hq.out⟩, by simp [intOf]; omega⟩
        · have hbl : blN D = false := by simpa using hbl
          have hq := Lib.hid (sk_here hlt (by omega) (by rw [hdn]; exact hbl) he.out)
          have h4 : ¬ D = 32 ∧ ¬ D = 9 ∧ ¬ D = 10 ∧ ¬ D = 13 := by unfold blN at hbl; simp at hbl; omega
          have b1 : ((D : Int) == 32) = false := beq_false_of_ne (by omega)
          have b2 : ((D : Int) == 9) = false := beq_false_of_ne (by omega)
          have b3 : ((D : Int) == 10) = false := beq_false_of_ne (by omega)
          have b4 : ((D : Int) == 13) = false := beq_false_of_ne (by omega)
          clear he hbl HD h4
          go_wp2_with fail
          go_ret
          exact ⟨by rw [← hq.out]; rfl, rfl⟩
    · obtain rfl : a = s.size := by omega
      have hq := Lib.hid (sk_none rfl he.out)
      have hlt' : ¬ (s.size : Int) < (s.size : Int) := by omega
      clear he
      go_wp2_with fail
      go_ret
      exact ⟨by rw [← hq.out]; rfl, rfl⟩

/-- Where a name ends. -/
def nmA (s : ByteArray) (a : Nat) : Nat := a + (nmL (rest s a)).length
theorem nm_step {s : ByteArray} {a b k : Nat} (h : a < s.size) (hn : nmN s[a].toNat = true) (h45 : ¬ (s[a].toNat = 45 ∧ gtB (rest s (a + 1)) = true)) (e : (nmL (rest s b)).length = k + (nmL (rest s a)).length) : (nmL (rest s b)).length = k + 1 + (nmL (rest s (a + 1))).length := by
  rw [e, rest_at h, nmL, if_pos ⟨hn, h45⟩, List.length_cons]; omega
theorem nm_stop {s : ByteArray} {a b k : Nat} (h : a < s.size) (hn : ¬ (nmN s[a].toNat = true ∧ ¬ (s[a].toNat = 45 ∧ gtB (rest s (a + 1)) = true))) (e : (nmL (rest s b)).length = k + (nmL (rest s a)).length) (ha : a = b + k) : a = nmA s b := by
  rw [rest_at h, nmL, if_neg hn] at e
  unfold nmA
  rw [e, ha]; rfl
theorem nm_out {s : ByteArray} {a b k : Nat} (h : a = s.size) (e : (nmL (rest s b)).length = k + (nmL (rest s a)).length) (ha : a = b + k) : a = nmA s b := by
  rw [rest_end (Nat.le_of_eq h.symm)] at e
  unfold nmA
  rw [e, ha]; rfl
theorem gt_end {s : ByteArray} {a : Nat} (h : s.size ≤ a) : gtB (rest s a) = false := by rw [rest_end h]; rfl
theorem gt_at {s : ByteArray} {a : Nat} (h : a < s.size) : gtB (rest s a) = (s[a].toNat == 62) := by rw [rest_at h]; rfl
set_option maxHeartbeats 1000000 in
set_option maxRecDepth 100000 in
theorem rnm_any (s : ByteArray) (b : Nat) (w : World) (hs : s.size ≤ 1000000) (hb : b ≤ s.size) : Calls Try.prog 39 #[.string s, .int .i64 (b : Int)] w fun e w' => e = .returned (.int .i64 (nmA s b : Int)) ∧ w = w' := by
  have hs' : (s.size : Int) ≤ 1000000 := by omega
  have cl := Lib.hid (fun c w => rletter_any c w)
  have cd := Lib.hid (fun c w => rdigit_any c w)
  go_enter Try.func39, Try.ntmps39
  go_wp2_with fail
  go_loopw [1] (fun x wr => ∃ k a : Nat, a = b + k ∧ x = .int .i64 (a : Int) ∧ a ≤ s.size ∧ w = wr ∧ Hid ((nmL (rest s b)).length = k + (nmL (rest s a)).length)) (fun x _ => s.size - (intOf x).toNat)
  case atStart => exact ⟨0, b, rfl, rfl, hb, by trivial, (Nat.zero_add _).symm⟩
  case round =>
    obtain ⟨k, a, hak, rfl, ha, rfl, he⟩ := hrel
    have HK := Lib.hid hak
    clear hak
    by_cases hlt : a < s.size
    · have hlt' : (a : Int) < (s.size : Int) := by omega
      obtain ⟨D, hdn⟩ : ∃ D, s[a].toNat = D := ⟨_, rfl⟩
      have st := Lib.hid (fun h1 h2 => nm_step hlt h1 h2 he.out)
      have en := Lib.hid (fun h1 => nm_stop hlt h1 he.out HK.out)
      rw [hdn] at st en
      have c1 := Lib.hid (cl.out D)
      have c2 := Lib.hid (cd.out D)
      clear he cl cd
      by_cases h45 : D = 45
      · subst h45
        have hl : letN 45 = false := rfl
        have hd : digN 45 = false := rfl
        rw [hl] at c1
        rw [hd] at c2
        by_cases hlt1 : a + 1 < s.size
        · have hlt1' : (a : Int) + 1 < (s.size : Int) := by omega
          have q1 : (0 : Int) ≤ (a : Int) + 1 := by omega
          have q2 : ((a : Int) + 1).toNat = a + 1 := by omega
          obtain ⟨E, hen⟩ : ∃ E, s[a + 1].toNat = E := ⟨_, rfl⟩
          have hgt := gt_at hlt1
          rw [hen] at hgt
          by_cases h62 : E = 62
          · have hq := Lib.hid (en.out (fun h => h.2 ⟨rfl, by rw [hgt, h62]; rfl⟩))
            subst h62
            clear st en hgt
            go_wp2_with (first | (go_at_call 38; refine (c1.out _).mono ?_; rintro e w1 ⟨rfl, rfl⟩) | (go_at_call 41; refine (c2.out _).mono ?_; rintro e w1 ⟨rfl, rfl⟩))
            go_ret
            exact ⟨by rw [← hq.out]; rfl, rfl⟩
          · have hn := Lib.hid (st.out rfl (fun h => by rw [hgt] at h; exact h62 (beq_iff_eq.1 h.2)))
            have hb62 : ((E : Int) == 62) = false := beq_false_of_ne (by omega)
            clear st en hgt
            go_wp2_with (first | (go_at_call 38; refine (c1.out _).mono ?_; rintro e w1 ⟨rfl, rfl⟩) | (go_at_call 41; refine (c2.out _).mono ?_; rintro e w1 ⟨rfl, rfl⟩))
            exact ⟨⟨k + 1, a + 1, by have := HK.out; omega, rfl, hlt, by trivial, hn.out⟩, by simp [intOf]; omega⟩
        · have hlt1' : ¬ (a : Int) + 1 < (s.size : Int) := by omega
          have hn := Lib.hid (st.out rfl (fun h => by rw [gt_end (by omega)] at h; exact absurd h.2 (by decide)))
          clear st en
          go_wp2_with (first | (go_at_call 38; refine (c1.out _).mono ?_; rintro e w1 ⟨rfl, rfl⟩) | (go_at_call 41; refine (c2.out _).mono ?_; rintro e w1 ⟨rfl, rfl⟩))
          exact ⟨⟨k + 1, a + 1, by have := HK.out; omega, rfl, hlt, by trivial, hn.out⟩, by simp [intOf]; omega⟩
      · have hb45 : ((D : Int) == 45) = false := beq_false_of_ne (by omega)
        by_cases hl : letN D = true
        · have hn := Lib.hid (st.out (letN_nm hl) (fun h => h45 h.1))
          rw [hl] at c1
          clear st en hl
          go_wp2_with (first | (go_at_call 38; refine (c1.out _).mono ?_; rintro e w1 ⟨rfl, rfl⟩) | (go_at_call 41; refine (c2.out _).mono ?_; rintro e w1 ⟨rfl, rfl⟩))
          exact ⟨⟨k + 1, a + 1, by have := HK.out; omega, rfl, hlt, by trivial, hn.out⟩, by simp [intOf]; omega⟩
        · have hl : letN D = false := by simpa using hl
          rw [hl] at c1
          by_cases hd : digN D = true
          · have hn := Lib.hid (st.out (by unfold nmN; rw [hd]; simp) (fun h => h45 h.1))
            rw [hd] at c2
            clear st en hl hd
            go_wp2_with (first | (go_at_call 38; refine (c1.out _).mono ?_; rintro e w1 ⟨rfl, rfl⟩) | (go_at_call 41; refine (c2.out _).mono ?_; rintro e w1 ⟨rfl, rfl⟩))
            exact ⟨⟨k + 1, a + 1, by have := HK.out; omega, rfl, hlt, by trivial, hn.out⟩, by simp [intOf]; omega⟩
          · have hd : digN D = false := by simpa using hd
            rw [hd] at c2
            by_cases h95 : D = 95
            · have hn := Lib.hid (st.out (by rw [h95]; rfl) (fun h => h45 h.1))
              subst h95
              clear st en hl hd
              go_wp2_with (first | (go_at_call 38; refine (c1.out _).mono ?_; rintro e w1 ⟨rfl, rfl⟩) | (go_at_call 41; refine (c2.out _).mono ?_; rintro e w1 ⟨rfl, rfl⟩))
              exact ⟨⟨k + 1, a + 1, by have := HK.out; omega, rfl, hlt, by trivial, hn.out⟩, by simp [intOf]; omega⟩
            · have hb95 : ((D : Int) == 95) = false := beq_false_of_ne (by omega)
              have hq := Lib.hid (en.out (fun h => by
                have := h.1
                unfold nmN at this
                rw [hl, hd, beq_false_of_ne h95, beq_false_of_ne h45] at this
                exact absurd this (by decide)))
              clear st en hl hd
              go_wp2_with (first | (go_at_call 38; refine (c1.out _).mono ?_; rintro e w1 ⟨rfl, rfl⟩) | (go_at_call 41; refine (c2.out _).mono ?_; rintro e w1 ⟨rfl, rfl⟩))
              go_ret
              exact ⟨by rw [← hq.out]; rfl, rfl⟩
    · obtain rfl : a = s.size := by omega
      have hq := Lib.hid (nm_out rfl he.out HK.out)
      have hlt' : ¬ (s.size : Int) < (s.size : Int) := by omega
      clear he
      go_wp2_with fail
      go_ret
      exact ⟨by rw [← hq.out]; rfl, rfl⟩
end Go.Proofs.Ytdpnmlgadieamaa.Lx
