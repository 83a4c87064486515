/-
  Contracts of the program of layer 7: readName, readNumber, readString, read.
-/
import Derived.Test.YtdpnmlgadieamaaLxP2
import Derived.Test.YtdpnmlgadieamaaLxR5
namespace Go.Proofs.Ytdpnmlgadieamaa.Lx
open Go.RowKit

theorem on_retF {fn : Func} (hr : fn.results = #[.cell 4 35, .tmp 5, .tmp 6]) {a : Act} {w W : World} {b : Nat} {o : One} (g : Nat) (k : Int) (t : ByteArray) (n p u x : Int) (hp : a.tmps.getD 4 undef = .pointer (some ⟨g, 0, none⟩)) (hv : a.tmps.getD 5 undef = .int .i64 u) (hx : a.tmps.getD 6 undef = .int .i64 x)
    (hg : Blk W g 35 (lxL k t n p)) (hB : Below w.heap.size w W) (hdf : a.defers = []) (ho : k = o.k ∧ t = toS o.t ∧ n = o.n ∧ p = onA b o ∧ u = ((b + o.u : Nat) : Int) ∧ x = o.e) : bodyPost Try.prog fn (OnEnd b o w) .ret a W := by
  obtain ⟨rfl, rfl, rfl, rfl, rfl, rfl⟩ := ho
  refine bodyPost_ret (v := .tuple #[.agg (lxL o.k (toS o.t) o.n (onA b o)), .int .i64 ((b + o.u : Nat) : Int), .int .i64 o.e]) ?_ hdf ⟨rfl, hB⟩
  have hl := run_loadVar_row (P := Try.prog) W g 35 35 (lxL o.k (toS o.t) o.n (onA b o)) (0, 0) _ hg Try.underlying35 rfl info_lex
  have hp' : a.tmps[4]?.getD undef = .pointer (some ⟨g, 0, none⟩) := by simpa using hp
  have hv' : a.tmps[5]?.getD undef = .int .i64 ((b + o.u : Nat) : Int) := by simpa using hv
  have hx' : a.tmps[6]?.getD undef = .int .i64 o.e := by simpa using hx
  simp only [results, hr]
  simp [Result.andThen, hp', hv', hx', asAddr, hl]

/-- The byte at a place is a letter, a digit. -/
def ltN_ (s : ByteArray) (b : Nat) : Bool := if h : b < s.size then letN s[b].toNat else false
def dgN_ (s : ByteArray) (b : Nat) : Bool := if h : b < s.size then digN s[b].toNat else false
theorem rest_let {s : ByteArray} {b : Nat} (hb : b < s.size) (hl : ltN_ s b = true) : ∃ c r, rest s b = c :: r ∧ letN c.toNat = true := by
  unfold ltN_ at hl
  rw [dif_pos hb] at hl
  exact ⟨_, _, rest_at hb, hl⟩
theorem name_good {s : ByteArray} {b K : Nat} {o : One} (hb : b < s.size) (hl : ltN_ s b = true) (ho : oneR (rest s b) = o) (hK : (nmL (rest s b)).length = K) (h : K ≤ 16) :
    (1 : Int) = o.k ∧ toS (nmL (rest s b)) = toS o.t ∧ (0 : Int) = o.n ∧ (b : Int) = onA b o ∧ (nmA s b : Int) = ((b + o.u : Nat) : Int) ∧ (0 : Int) = o.e := by
  obtain ⟨c, r, hr, h1⟩ := rest_let hb hl
  have e : o = ⟨1, nmL (rest s b), 0, (nmL (rest s b)).length, 0⟩ := by
    rw [← ho, hr, oneR_cons, if_pos h1, if_pos (by rw [← hr, hK]; exact h)]
  rw [e]
  exact ⟨rfl, rfl, rfl, (if_pos rfl).symm, rfl, rfl⟩
theorem name_bad {s : ByteArray} {b K : Nat} {o : One} (hb : b < s.size) (hl : ltN_ s b = true) (ho : oneR (rest s b) = o) (hK : (nmL (rest s b)).length = K) (h : ¬ K ≤ 16) :
    (0 : Int) = o.k ∧ (⟨#[]⟩ : ByteArray) = toS o.t ∧ (0 : Int) = o.n ∧ (0 : Int) = onA b o ∧ (b : Int) = ((b + o.u : Nat) : Int) ∧ (6 : Int) = o.e := by
  obtain ⟨c, r, hr, h1⟩ := rest_let hb hl
  have e : o = ⟨0, [], 0, 0, 6⟩ := by
    rw [← ho, hr, oneR_cons, if_pos h1, if_neg (by rw [← hr, hK]; exact h)]
  rw [e]
  exact ⟨rfl, rfl, rfl, (if_neg (by decide)).symm, rfl, rfl⟩
/-! ### Numbers -/
def capN (l : List UInt8) : Nat := l.foldl (fun n c => if n ≤ 1099511627776 then n * 10 + (c.toNat - 48) else n) 0
theorem capN_snoc (l : List UInt8) (c : UInt8) : capN (l ++ [c]) = if capN l ≤ 1099511627776 then capN l * 10 + (c.toNat - 48) else capN l := by unfold capN; rw [List.foldl_append]; rfl
theorem capN_val (l : List UInt8) : (valL l ≤ 1099511627776 → capN l = valL l) ∧ (1099511627776 < valL l → 1099511627776 < capN l) := by
  have gen : ∀ (l : List UInt8) (n m : Nat), ((n ≤ 1099511627776 → m = n) ∧ (1099511627776 < n → 1099511627776 < m)) →
      ((l.foldl (fun n c => 10 * n + (c.toNat - 48)) n ≤ 1099511627776 → l.foldl (fun n c => if n ≤ 1099511627776 then n * 10 + (c.toNat - 48) else n) m = l.foldl (fun n c => 10 * n + (c.toNat - 48)) n) ∧
       (1099511627776 < l.foldl (fun n c => 10 * n + (c.toNat - 48)) n → 1099511627776 < l.foldl (fun n c => if n ≤ 1099511627776 then n * 10 + (c.toNat - 48) else n) m)) := by
    intro l
    induction l with
    | nil => exact fun n m h => h
    | cons c l ih =>
      intro n m h
      refine ih _ _ ?_
      dsimp only
      by_cases hm : m ≤ 1099511627776
      · rw [if_pos hm]
        have : n ≤ 1099511627776 := by
          rcases Nat.lt_or_ge 1099511627776 n with x | x
          · have := h.2 x; omega
          · exact x
        have := h.1 this
        subst this
        exact ⟨fun _ => by omega, fun x => by omega⟩
      · rw [if_neg hm]
        have : 1099511627776 < n := by
          rcases Nat.lt_or_ge 1099511627776 n with x | x
          · exact x
          · have := h.1 x; omega
        exact ⟨fun x => by omega, fun x => by omega⟩
  exact gen l 0 0 ⟨fun _ => rfl, fun h => h⟩
theorem dgL_step {s : ByteArray} {a b : Nat} {t : List UInt8} {c : UInt8} (h : a < s.size) (hc : s[a] = c) (hd : digN c.toNat = true) (e : dgL (rest s b) = t ++ dgL (rest s a)) : dgL (rest s b) = (t ++ [c]) ++ dgL (rest s (a + 1)) := by
  rw [e, rest_at h, hc, dgL, if_pos hd, List.append_assoc]; rfl
theorem dgL_stop {s : ByteArray} {a b : Nat} {t : List UInt8} (h : a < s.size) (hd : digN s[a].toNat = false) (e : dgL (rest s b) = t ++ dgL (rest s a)) : dgL (rest s b) = t := by
  rw [e, rest_at h, dgL, if_neg (by rw [hd]; decide), List.append_nil]
theorem dgL_out {s : ByteArray} {a b : Nat} {t : List UInt8} (h : a = s.size) (e : dgL (rest s b) = t ++ dgL (rest s a)) : dgL (rest s b) = t := by
  rw [e, rest_end (Nat.le_of_eq h.symm)]
  exact List.append_nil _
theorem rest_dig {s : ByteArray} {b : Nat} (hb : b < s.size) (hl : dgN_ s b = true) : ∃ r, rest s b = s[b] :: r ∧ digN s[b].toNat = true := by
  unfold dgN_ at hl
  rw [dif_pos hb] at hl
  exact ⟨_, rest_at hb, hl⟩
theorem dig_par {c : UInt8} {r : List UInt8} (h : digN c.toNat = true) :
    (c.toNat = 48 → dgL r ≠ [] → parE (dgL (c :: r)) = 5) ∧ (¬ (c.toNat = 48 ∧ dgL r ≠ []) → parE (dgL (c :: r)) = valE (valL (dgL (c :: r))) ∧ parQ (dgL (c :: r)) = valQ (valL (dgL (c :: r)))) := by
  have hl := dgL_cons h r
  have hall : allDig (dgL (c :: r)) = true := by
    unfold allDig
    rw [List.all_eq_true]
    intro x hx
    have := dgL_all _ x hx
    unfold digN at this
    unfold dig
    exact this
  have hne : dgL (c :: r) ≠ [] := by rw [hl]; simp
  have h45 : ¬ (dgL (c :: r)).head? = some 45 := by
    rw [hl]
    intro e
    injection e with e
    rw [e] at h
    exact absurd h (by decide)
  have hbody : body (dgL (c :: r)) = dgL (c :: r) := by unfold body; rw [if_neg h45]
  have pe := par_else (dgL (c :: r)) hne
  refine ⟨fun h0 hr => ?_, fun hn => ?_⟩
  · have hc : c = 48 := UInt8.toNat_inj.1 (by rw [h0]; rfl)
    have h48 : dgL (c :: r) ≠ [48] := by
      rw [hl]
      intro e
      injection e with _ e
      exact hr e
    have hnat : natB (body (dgL (c :: r))) = false := by
      rw [hbody, hl, hc]
      unfold natB
      simp
    exact ((pe h48).1 hnat).2.symm
  · by_cases h0 : c.toNat = 48
    · have hr : dgL r = [] := Classical.byContradiction fun x => hn ⟨h0, x⟩
      have hc : c = 48 := UInt8.toNat_inj.1 (by rw [h0]; rfl)
      rw [hl, hr, hc]
      exact ⟨rfl, rfl⟩
    · have h48 : dgL (c :: r) ≠ [48] := by
        rw [hl]
        intro e
        injection e with e _
        rw [e] at h0
        exact h0 rfl
      have hnat : natB (body (dgL (c :: r))) = true := by
        rw [hbody]
        refine natB_of _ hne ?_ hall
        rw [hl]
        intro e
        injection e with e
        rw [e] at h0
        exact h0 rfl
      have := (pe h48).2.2 hnat h45
      rw [hbody] at this
      exact ⟨this.2.symm, this.1.symm⟩
/-- What follows from the digits t that begin at b. -/
theorem num_end {s : ByteArray} {b : Nat} {o : One} {t : List UInt8} (hb : b < s.size) (hl : dgN_ s b = true) (ho : oneR (rest s b) = o) (ht : dgL (rest s b) = t) :
    1 ≤ t.length ∧
    (s[b].toNat = 48 ∧ 1 < t.length → (0 : Int) = o.k ∧ (⟨#[]⟩ : ByteArray) = toS o.t ∧ (0 : Int) = o.n ∧ (0 : Int) = onA b o ∧ (b : Int) = ((b + o.u : Nat) : Int) ∧ (5 : Int) = o.e) ∧
    (¬ (s[b].toNat = 48 ∧ 1 < t.length) → 1099511627776 < capN t → (0 : Int) = o.k ∧ (⟨#[]⟩ : ByteArray) = toS o.t ∧ (0 : Int) = o.n ∧ (0 : Int) = onA b o ∧ (b : Int) = ((b + o.u : Nat) : Int) ∧ (9 : Int) = o.e) ∧
    (¬ (s[b].toNat = 48 ∧ 1 < t.length) → ¬ 1099511627776 < capN t → (2 : Int) = o.k ∧ toS t = toS o.t ∧ (capN t : Int) = o.n ∧ (b : Int) = onA b o ∧ ((b + t.length : Nat) : Int) = ((b + o.u : Nat) : Int) ∧ (0 : Int) = o.e) := by
  obtain ⟨r, hr, h2⟩ := rest_dig hb hl
  have hp := dig_par (r := r) h2
  rw [hr] at ho ht
  rw [ht] at hp
  have h1 : letN s[b].toNat = false := by
    cases hx : letN s[b].toNat
    · rfl
    · rw [letN_dig hx] at h2; exact absurd h2 (by decide)
  have hlen : t.length = 1 + (dgL r).length := by rw [← ht, dgL_cons h2 r, List.length_cons]; omega
  have hnil : dgL r ≠ [] ↔ 1 < t.length := by
    rw [hlen, ← List.length_pos_iff]; omega
  rw [hnil] at hp
  have ho1 : oneR (s[b] :: r) = if parE t = 0 then ⟨2, t, parQ t, t.length, 0⟩ else ⟨0, [], 0, 0, parE t⟩ := by
    rw [oneR_cons, if_neg (by rw [h1]; decide), if_pos h2, ht]
  rw [ho] at ho1
  have hv := capN_val t
  refine ⟨by omega, fun hc => ?_, fun hc hm => ?_, fun hc hm => ?_⟩
  · have := hp.1 hc.1 hc.2
    rw [this, if_neg (by decide)] at ho1
    rw [ho1]
    exact ⟨rfl, rfl, rfl, (if_neg (by decide)).symm, rfl, rfl⟩
  · have hbig : 1099511627776 < valL t := by
      rcases Nat.lt_or_ge 1099511627776 (valL t) with x | x
      · exact x
      · rw [hv.1 x] at hm; omega
    have := (hp.2 hc).1
    rw [this, show valE (valL t) = 9 by unfold valE; rw [if_neg (by omega)], if_neg (by decide)] at ho1
    rw [ho1]
    exact ⟨rfl, rfl, rfl, (if_neg (by decide)).symm, rfl, rfl⟩
  · have hsm : valL t ≤ 1099511627776 := by
      rcases Nat.lt_or_ge 1099511627776 (valL t) with x | x
      · exact absurd (hv.2 x) hm
      · exact x
    have e2 := hp.2 hc
    rw [e2.1, e2.2, show valE (valL t) = 0 by unfold valE; rw [if_pos hsm], if_pos rfl, show valQ (valL t) = (valL t : Int) by unfold valQ; rw [if_pos hsm]] at ho1
    rw [ho1, hv.1 hsm]
    exact ⟨rfl, rfl, rfl, (if_pos rfl).symm, rfl, rfl⟩

set_option maxHeartbeats 4000000 in
set_option maxRecDepth 100000 in
theorem preadName_any (s : ByteArray) (b : Nat) (w : World) (hs : s.size ≤ 100000) (hb : b < s.size) (hl : ltN_ s b = true) : Calls Try.prog 34 #[.string s, .int .i64 (b : Int)] w (OnEnd b (oneR (rest s b)) w) := by
  have hs' : (s.size : Int) ≤ 100000 := by omega
  have cc := Lib.hid (fun a w => charAt_any s a w)
  have cn := Lib.hid (fun c w => pinname_any c w)
  have cr := Lib.hid (fun a ha w => parrow_any s a w ha)
  obtain ⟨o, ho⟩ : ∃ o, oneR (rest s b) = o := ⟨_, rfl⟩
  obtain ⟨K, hK⟩ : ∃ K, (nmL (rest s b)).length = K := ⟨_, rfl⟩
  have good := Lib.hid (fun h => name_good hb hl ho hK h)
  have bad := Lib.hid (fun h => name_bad hb hl ho hK h)
  have hA : Hid (∀ a : Nat, a = nmA s b → a = b + K) := fun a h => by rw [h]; unfold nmA; rw [hK]
  have hcut := Lib.hid (nm_cut s b)
  rw [ho]
  generalize hX : toS (nmL (rest s b)) = X at good hcut
  clear hX
  have HK := Lib.hid hK
  have hz := Lib.hid (Blk.new w 35 lx0)
  have hB0 := Lib.hid ((Below.refl w.heap.size w).alloc (Nat.le_refl _) lxO)
  clear hl ho hK
  go_enter Try.func34, Try.ntmps34
  go_wp2_with fail
  generalize w.alloc lxO = W1 at hz hB0 ⊢
  go_loopw [5] (fun x wr => ∃ k a : Nat, a = b + k ∧ x = .int .i64 (a : Int) ∧ a ≤ s.size ∧ W1 = wr ∧ Hid ((nmL (rest s b)).length = k + (nmL (rest s a)).length)) (fun x _ => s.size - (intOf x).toNat)
  case atStart => exact ⟨0, b, rfl, rfl, Nat.le_of_lt hb, by trivial, (Nat.zero_add _).symm⟩
  case round =>
    obtain ⟨k, a, hak, rfl, ha, rfl, he⟩ := hrel
    have HK2 := Lib.hid hak
    have hba : b ≤ a := by omega
    clear hak
    have c1 := Lib.hid (cc.out a)
    have c3 := Lib.hid (cr.out a (by omega))
    by_cases hlt : a < s.size
    · have hv := chA_in hlt
      have hgt := arB_gt hlt
      obtain ⟨D, hdn⟩ : ∃ D, s[a].toNat = D := ⟨_, rfl⟩
      rw [hdn] at hv hgt
      rw [hv] at c1
      have c2 := Lib.hid (cn.out (D : Int))
      rw [nmI_nat] at c2
      by_cases hn : nmN D = true
      · rw [hn] at c2
        by_cases har : arB s a = true
        · have ha2 := Lib.hid (nm_stop hlt (fun h => h.2 (by rw [har] at hgt; have := hgt.symm; simp at this; exact ⟨by omega, this.2⟩)) he.out HK2.out)
          have HA := Lib.hid (hA.out a ha2.out)
          rw [har] at c3
          clear he hn hv hgt hdn har cc cn cr hA
          by_cases h16 : K ≤ 16
          · have hg : ¬ (16 : Int) < (a : Int) - (b : Int) := by have := HA.out; omega
            have F := Lib.hid (good.out h16)
            have hx := hcut.out
            rw [← ha2.out] at hx
            have q1 : (b : Int) ≤ (a : Int) := by omega
            have q2 : (a : Int) ≤ (s.size : Int) := by omega
            have he := Lib.hid (blk_row hz.out (lxL 1 X 0 (b : Int)))
            have hB := Lib.hid (below_row hB0.out (Nat.le_refl _) (lxL 1 X 0 (b : Int)))
            clear good bad h16 hcut
            go_wp2_with fail
            refine (c1.out _).mono ?_; rintro e w1 ⟨rfl, rfl⟩
            go_wp2_with fail
            refine (c2.out _).mono ?_; rintro e w1 ⟨rfl, rfl⟩
            go_wp2_with fail
            refine (c3.out _).mono ?_; rintro e w1 ⟨rfl, rfl⟩
            go_wp2_with (refine wpList_store_row rfl 35 (.tmp 4) (.tmp 31) rfl w.heap.size (lxL 1 X 0 (b : Int)) rfl rfl 35 _ hz.out (lx_size _ _ _ _) rfl (lx_ones _ _ _ _) ?_)
            exact on_retF rfl w.heap.size 1 X 0 (b : Int) (a : Int) 0 rfl rfl rfl he.out hB.out rfl ⟨F.out.1, F.out.2.1, F.out.2.2.1, F.out.2.2.2.1, by rw [ha2.out]; exact F.out.2.2.2.2.1, F.out.2.2.2.2.2⟩
          · have hg : (16 : Int) < (a : Int) - (b : Int) := by have := HA.out; omega
            have F := Lib.hid (bad.out h16)
            have he := Lib.hid (blk_row hz.out (lxL 0 ⟨#[]⟩ 0 0))
            have hB := Lib.hid (below_row hB0.out (Nat.le_refl _) (lxL 0 ⟨#[]⟩ 0 0))
            clear good bad h16 hcut
            go_wp2_with fail
            refine (c1.out _).mono ?_; rintro e w1 ⟨rfl, rfl⟩
            go_wp2_with fail
            refine (c2.out _).mono ?_; rintro e w1 ⟨rfl, rfl⟩
            go_wp2_with fail
            refine (c3.out _).mono ?_; rintro e w1 ⟨rfl, rfl⟩
            go_wp2_with (refine wpList_store_row rfl 35 (.tmp 4) (.tmp 24) rfl w.heap.size (lxL 0 ⟨#[]⟩ 0 0) rfl rfl 35 _ hz.out (lx_size _ _ _ _) rfl (lx_ones _ _ _ _) ?_)
            exact on_retF rfl w.heap.size 0 ⟨#[]⟩ 0 0 (b : Int) 6 rfl rfl rfl he.out hB.out rfl F.out
        · have har : arB s a = false := by simpa using har
          have hst := Lib.hid (nm_step hlt (by rw [hdn]; exact hn) (fun h => by rw [har] at hgt; have := hgt.symm; simp at this; rw [this (by omega)] at h; exact absurd h.2 (by decide)) he.out)
          rw [har] at c3
          clear he hn hv hgt hdn har cc cn cr hA good bad hcut
          go_wp2_with fail
          refine (c1.out _).mono ?_; rintro e w1 ⟨rfl, rfl⟩
          go_wp2_with fail
          refine (c2.out _).mono ?_; rintro e w1 ⟨rfl, rfl⟩
          go_wp2_with fail
          refine (c3.out _).mono ?_; rintro e w1 ⟨rfl, rfl⟩
          go_wp2_with fail
          exact ⟨⟨k + 1, a + 1, by have := HK2.out; omega, rfl, hlt, by trivial, hst.out⟩, by simp [intOf]; omega⟩
      · have ha2 := Lib.hid (nm_stop hlt (fun h => hn (by rw [← hdn]; exact h.1)) he.out HK2.out)
        have HA := Lib.hid (hA.out a ha2.out)
        have hn : nmN D = false := by simpa using hn
        rw [hn] at c2
        clear he hn hv hgt hdn cc cn cr hA c3
        by_cases h16 : K ≤ 16
        · have hg : ¬ (16 : Int) < (a : Int) - (b : Int) := by have := HA.out; omega
          have F := Lib.hid (good.out h16)
          have hx := hcut.out
          rw [← ha2.out] at hx
          have q1 : (b : Int) ≤ (a : Int) := by omega
          have q2 : (a : Int) ≤ (s.size : Int) := by omega
          have he := Lib.hid (blk_row hz.out (lxL 1 X 0 (b : Int)))
          have hB := Lib.hid (below_row hB0.out (Nat.le_refl _) (lxL 1 X 0 (b : Int)))
          clear good bad h16 hcut
          go_wp2_with fail
          refine (c1.out _).mono ?_; rintro e w1 ⟨rfl, rfl⟩
          go_wp2_with fail
          refine (c2.out _).mono ?_; rintro e w1 ⟨rfl, rfl⟩
          go_wp2_with (refine wpList_store_row rfl 35 (.tmp 4) (.tmp 31) rfl w.heap.size (lxL 1 X 0 (b : Int)) rfl rfl 35 _ hz.out (lx_size _ _ _ _) rfl (lx_ones _ _ _ _) ?_)
          exact on_retF rfl w.heap.size 1 X 0 (b : Int) (a : Int) 0 rfl rfl rfl he.out hB.out rfl ⟨F.out.1, F.out.2.1, F.out.2.2.1, F.out.2.2.2.1, by rw [ha2.out]; exact F.out.2.2.2.2.1, F.out.2.2.2.2.2⟩
        · have hg : (16 : Int) < (a : Int) - (b : Int) := by have := HA.out; omega
          have F := Lib.hid (bad.out h16)
          have he := Lib.hid (blk_row hz.out (lxL 0 ⟨#[]⟩ 0 0))
          have hB := Lib.hid (below_row hB0.out (Nat.le_refl _) (lxL 0 ⟨#[]⟩ 0 0))
          clear good bad h16 hcut
          go_wp2_with fail
          refine (c1.out _).mono ?_; rintro e w1 ⟨rfl, rfl⟩
          go_wp2_with fail
          refine (c2.out _).mono ?_; rintro e w1 ⟨rfl, rfl⟩
          go_wp2_with (refine wpList_store_row rfl 35 (.tmp 4) (.tmp 24) rfl w.heap.size (lxL 0 ⟨#[]⟩ 0 0) rfl rfl 35 _ hz.out (lx_size _ _ _ _) rfl (lx_ones _ _ _ _) ?_)
          exact on_retF rfl w.heap.size 0 ⟨#[]⟩ 0 0 (b : Int) 6 rfl rfl rfl he.out hB.out rfl F.out
    · have hv := chA_out (show s.size ≤ a by omega)
      rw [hv] at c1
      have c2 := Lib.hid (cn.out (-1))
      rw [show nmI (-1) = false from rfl] at c2
      have ha2 := Lib.hid (nm_out (show a = s.size by omega) he.out HK2.out)
      have HA := Lib.hid (hA.out a ha2.out)
      clear he hv cc cn cr hA c3
      by_cases h16 : K ≤ 16
      · have hg : ¬ (16 : Int) < (a : Int) - (b : Int) := by have := HA.out; omega
        have F := Lib.hid (good.out h16)
        have hx := hcut.out
        rw [← ha2.out] at hx
        have q1 : (b : Int) ≤ (a : Int) := by omega
        have q2 : (a : Int) ≤ (s.size : Int) := by omega
        have he := Lib.hid (blk_row hz.out (lxL 1 X 0 (b : Int)))
        have hB := Lib.hid (below_row hB0.out (Nat.le_refl _) (lxL 1 X 0 (b : Int)))
        clear good bad h16 hcut
        go_wp2_with fail
        refine (c1.out _).mono ?_; rintro e w1 ⟨rfl, rfl⟩
        go_wp2_with fail
        refine (c2.out _).mono ?_; rintro e w1 ⟨rfl, rfl⟩
        go_wp2_with (refine wpList_store_row rfl 35 (.tmp 4) (.tmp 31) rfl w.heap.size (lxL 1 X 0 (b : Int)) rfl rfl 35 _ hz.out (lx_size _ _ _ _) rfl (lx_ones _ _ _ _) ?_)
        exact on_retF rfl w.heap.size 1 X 0 (b : Int) (a : Int) 0 rfl rfl rfl he.out hB.out rfl ⟨F.out.1, F.out.2.1, F.out.2.2.1, F.out.2.2.2.1, by rw [ha2.out]; exact F.out.2.2.2.2.1, F.out.2.2.2.2.2⟩
      · have hg : (16 : Int) < (a : Int) - (b : Int) := by have := HA.out; omega
        have F := Lib.hid (bad.out h16)
        have he := Lib.hid (blk_row hz.out (lxL 0 ⟨#[]⟩ 0 0))
        have hB := Lib.hid (below_row hB0.out (Nat.le_refl _) (lxL 0 ⟨#[]⟩ 0 0))
        clear good bad h16 hcut
        go_wp2_with fail
        refine (c1.out _).mono ?_; rintro e w1 ⟨rfl, rfl⟩
        go_wp2_with fail
        refine (c2.out _).mono ?_; rintro e w1 ⟨rfl, rfl⟩
        go_wp2_with (refine wpList_store_row rfl 35 (.tmp 4) (.tmp 24) rfl w.heap.size (lxL 0 ⟨#[]⟩ 0 0) rfl rfl 35 _ hz.out (lx_size _ _ _ _) rfl (lx_ones _ _ _ _) ?_)
        exact on_retF rfl w.heap.size 0 ⟨#[]⟩ 0 0 (b : Int) 6 rfl rfl rfl he.out hB.out rfl F.out

set_option maxHeartbeats 4000000 in
set_option maxRecDepth 100000 in
theorem preadNumber_any (s : ByteArray) (b : Nat) (w : World) (hs : s.size ≤ 100000) (hb : b < s.size) (hl : dgN_ s b = true) : Calls Try.prog 36 #[.string s, .int .i64 (b : Int)] w (OnEnd b (oneR (rest s b)) w) := by
  have hs' : (s.size : Int) ≤ 100000 := by omega
  have cc := Lib.hid (fun a w => charAt_any s a w)
  have cd := Lib.hid (fun c w => pdigit_any c w)
  obtain ⟨o, ho⟩ : ∃ o, oneR (rest s b) = o := ⟨_, rfl⟩
  have HO := Lib.hid ho
  rw [ho]
  obtain ⟨C, hC⟩ : ∃ C, s[b].toNat = C := ⟨_, rfl⟩
  have hC := Lib.hid hC
  have c9 := Lib.hid (cc.out b)
  rw [chA_in hb, hC.out] at c9
  have hz := Lib.hid (Blk.new w 35 lx0)
  have hB0 := Lib.hid ((Below.refl w.heap.size w).alloc (Nat.le_refl _) lxO)
  clear ho
  go_enter Try.func36, Try.ntmps36
  go_wp2_with fail
  generalize w.alloc lxO = W1 at hz hB0 ⊢
  go_loopw [5, 7] (fun x y wr => ∃ (t : List UInt8) (a m : Nat), x = .int .i64 (a : Int) ∧ y = .int .i64 (m : Int) ∧ a ≤ s.size ∧ W1 = wr ∧ m ≤ 10995116278000 ∧ Hid (capN t = m) ∧ Hid (a = b + t.length) ∧ Hid (dgL (rest s b) = t ++ dgL (rest s a))) (fun x _ _ => s.size - (intOf x).toNat)
  case atStart => exact ⟨[], b, 0, rfl, rfl, Nat.le_of_lt hb, by trivial, Nat.zero_le _, rfl, rfl, rfl⟩
  case round =>
    obtain ⟨t, a, m, rfl, rfl, ha, rfl, hm1, hm, HK2, he⟩ := hrel
    have c1 := Lib.hid (cc.out a)
    by_cases hlt : a < s.size
    · have hv := chA_in hlt
      obtain ⟨c, hc⟩ : ∃ c, s[a] = c := ⟨_, rfl⟩
      obtain ⟨D, hD⟩ : ∃ D, c.toNat = D := ⟨_, rfl⟩
      rw [hc, hD] at hv
      rw [hv] at c1
      have c2 := Lib.hid (cd.out (D : Int))
      rw [digI_nat] at c2
      by_cases hd : digN D = true
      · have hst := Lib.hid (dgL_step hlt hc (by rw [hD]; exact hd) he.out)
        have hd2 : 48 ≤ D ∧ D ≤ 57 := by unfold digN at hd; simpa using hd
        rw [hd] at c2
        have hcap : Hid (capN (t ++ [c]) = if m ≤ 1099511627776 then m * 10 + (D - 48) else m) := by show _ = _; rw [capN_snoc, hm.out, hD]
        clear he hd hv hc hD cc cd hl HO
        by_cases hsm : m ≤ 1099511627776
        · have hsm' : (m : Int) ≤ 1099511627776 := by omega
          have hcap2 := Lib.hid (hcap.out.trans (if_pos hsm))
          have hM : Hid (m * 10 + (D - 48) ≤ 10995116278000 ∧ ((m : Int) * 10 + ((D : Int) - 48)) = ((m * 10 + (D - 48) : Nat) : Int)) := ⟨by omega, by omega⟩
          have d1 : (48 : Int) ≤ (D : Int) := by omega
          have d2 : (D : Int) ≤ 57 := by omega
          have e1 : IntKind.i32.wrap ((D : Int) - 48) = (D : Int) - 48 := by rw [IntKind.wrap_i32]; omega
          have e2 : IntKind.i64.wrap ((D : Int) - 48) = (D : Int) - 48 := IntWalk.i64_in _ (by omega)
          clear hcap hsm hd2
          go_wp2_with fail
          refine (c1.out _).mono ?_; rintro e w1 ⟨rfl, rfl⟩
          go_wp2_with fail
          refine (c2.out _).mono ?_; rintro e w1 ⟨rfl, rfl⟩
          go_wp2_with fail
          refine (c1.out _).mono ?_; rintro e w1 ⟨rfl, rfl⟩
          go_wp2_with fail
          exact ⟨⟨t ++ [c], a + 1, m * 10 + (D - 48), rfl, by first | (rw [← hM.out.2]; done) | (rw [← hM.out.2]; rfl), hlt, by trivial, hM.out.1, hcap2.out, by show a + 1 = _; rw [List.length_append, HK2.out]; rfl, hst.out⟩, by simp [intOf]; omega⟩
        · have hsm' : ¬ (m : Int) ≤ 1099511627776 := by omega
          have hcap2 := Lib.hid (hcap.out.trans (if_neg hsm))
          clear hcap hsm hd2
          go_wp2_with fail
          refine (c1.out _).mono ?_; rintro e w1 ⟨rfl, rfl⟩
          go_wp2_with fail
          refine (c2.out _).mono ?_; rintro e w1 ⟨rfl, rfl⟩
          go_wp2_with fail
          exact ⟨⟨t ++ [c], a + 1, m, rfl, rfl, hlt, by trivial, hm1, hcap2.out, by show a + 1 = _; rw [List.length_append, HK2.out]; rfl, hst.out⟩, by simp [intOf]; omega⟩
      · have hd : digN D = false := by simpa using hd
        have ht := dgL_stop hlt (by rw [hc, hD]; exact hd) he.out
        rw [hd] at c2
        clear he hd hv hc hD cc cd
        have E := Lib.hid (num_end hb hl HO.out ht)
        have q0 := E.out.1
        rw [hm.out] at E
        by_cases h48 : C = 48
        · have e48 : s[b].toNat = 48 := by rw [hC.out]; exact h48
          by_cases hlong : 1 < t.length
          · have F := Lib.hid (E.out.2.1 ⟨e48, hlong⟩)
            have hg : (b : Int) + 1 < (a : Int) := by have := HK2.out; omega
            have he := Lib.hid (blk_row hz.out (lxL 0 ⟨#[]⟩ 0 0))
            have hB := Lib.hid (below_row hB0.out (Nat.le_refl _) (lxL 0 ⟨#[]⟩ 0 0))
            clear E hlong e48
            subst h48
            go_wp2_with fail
            refine (c1.out _).mono ?_; rintro e w1 ⟨rfl, rfl⟩
            go_wp2_with fail
            refine (c2.out _).mono ?_; rintro e w1 ⟨rfl, rfl⟩
            go_wp2_with fail
            refine (c9.out _).mono ?_; rintro e w1 ⟨rfl, rfl⟩
            go_wp2_with (refine wpList_store_row rfl 35 (.tmp 4) (.tmp 35) rfl w.heap.size (lxL 0 ⟨#[]⟩ 0 0) rfl rfl 35 _ hz.out (lx_size _ _ _ _) rfl (lx_ones _ _ _ _) ?_)
            exact on_retF rfl w.heap.size 0 ⟨#[]⟩ 0 0 (b : Int) 5 rfl rfl rfl he.out hB.out rfl F.out
          · have hno : ¬ (s[b].toNat = 48 ∧ 1 < t.length) := fun h => hlong h.2
            have hg : ¬ (b : Int) + 1 < (a : Int) := by have := HK2.out; omega
            clear hlong e48
            subst h48
            by_cases hbig : 1099511627776 < m
            · have F := Lib.hid (E.out.2.2.1 hno hbig)
              have hbig' : (1099511627776 : Int) < (m : Int) := by omega
              have he := Lib.hid (blk_row hz.out (lxL 0 ⟨#[]⟩ 0 0))
              have hB := Lib.hid (below_row hB0.out (Nat.le_refl _) (lxL 0 ⟨#[]⟩ 0 0))
              clear E hno hbig
              go_wp2_with fail
              refine (c1.out _).mono ?_; rintro e w1 ⟨rfl, rfl⟩
              go_wp2_with fail
              refine (c2.out _).mono ?_; rintro e w1 ⟨rfl, rfl⟩
              go_wp2_with fail
              refine (c9.out _).mono ?_; rintro e w1 ⟨rfl, rfl⟩
              go_wp2_with (refine wpList_store_row rfl 35 (.tmp 4) (.tmp 39) rfl w.heap.size (lxL 0 ⟨#[]⟩ 0 0) rfl rfl 35 _ hz.out (lx_size _ _ _ _) rfl (lx_ones _ _ _ _) ?_)
              exact on_retF rfl w.heap.size 0 ⟨#[]⟩ 0 0 (b : Int) 9 rfl rfl rfl he.out hB.out rfl F.out
            · have F := Lib.hid (E.out.2.2.2 hno hbig)
              have hbig' : ¬ (1099511627776 : Int) < (m : Int) := by omega
              have hx : s.extract b a = toS t := by rw [HK2.out, ← ht]; exact dg_cut s b
              generalize toS t = X at hx F
              have q1 : (b : Int) ≤ (a : Int) := by have := HK2.out; omega
              have q2 : (a : Int) ≤ (s.size : Int) := by omega
              have he := Lib.hid (blk_row hz.out (lxL 2 X (m : Int) (b : Int)))
              have hB := Lib.hid (below_row hB0.out (Nat.le_refl _) (lxL 2 X (m : Int) (b : Int)))
              clear E hno hbig
              go_wp2_with fail
              refine (c1.out _).mono ?_; rintro e w1 ⟨rfl, rfl⟩
              go_wp2_with fail
              refine (c2.out _).mono ?_; rintro e w1 ⟨rfl, rfl⟩
              go_wp2_with fail
              refine (c9.out _).mono ?_; rintro e w1 ⟨rfl, rfl⟩
              go_wp2_with (refine wpList_store_row rfl 35 (.tmp 4) (.tmp 47) rfl w.heap.size (lxL 2 X (m : Int) (b : Int)) rfl rfl 35 _ hz.out (lx_size _ _ _ _) rfl (lx_ones _ _ _ _) ?_)
              exact on_retF rfl w.heap.size 2 X (m : Int) (b : Int) (a : Int) 0 rfl rfl rfl he.out hB.out rfl ⟨F.out.1, F.out.2.1, F.out.2.2.1, F.out.2.2.2.1, by rw [HK2.out]; exact F.out.2.2.2.2.1, F.out.2.2.2.2.2⟩
        · have hno : ¬ (s[b].toNat = 48 ∧ 1 < t.length) := fun h => h48 (by rw [← hC.out]; exact h.1)
          have bC : ((C : Int) == 48) = false := beq_false_of_ne (by omega)
          clear h48
          by_cases hbig : 1099511627776 < m
          · have F := Lib.hid (E.out.2.2.1 hno hbig)
            have hbig' : (1099511627776 : Int) < (m : Int) := by omega
            have he := Lib.hid (blk_row hz.out (lxL 0 ⟨#[]⟩ 0 0))
            have hB := Lib.hid (below_row hB0.out (Nat.le_refl _) (lxL 0 ⟨#[]⟩ 0 0))
            clear E hno hbig
            go_wp2_with fail
            refine (c1.out _).mono ?_; rintro e w1 ⟨rfl, rfl⟩
            go_wp2_with fail
            refine (c2.out _).mono ?_; rintro e w1 ⟨rfl, rfl⟩
            go_wp2_with fail
            refine (c9.out _).mono ?_; rintro e w1 ⟨rfl, rfl⟩
            go_wp2_with (refine wpList_store_row rfl 35 (.tmp 4) (.tmp 39) rfl w.heap.size (lxL 0 ⟨#[]⟩ 0 0) rfl rfl 35 _ hz.out (lx_size _ _ _ _) rfl (lx_ones _ _ _ _) ?_)
            exact on_retF rfl w.heap.size 0 ⟨#[]⟩ 0 0 (b : Int) 9 rfl rfl rfl he.out hB.out rfl F.out
          · have F := Lib.hid (E.out.2.2.2 hno hbig)
            have hbig' : ¬ (1099511627776 : Int) < (m : Int) := by omega
            have hx : s.extract b a = toS t := by rw [HK2.out, ← ht]; exact dg_cut s b
            generalize toS t = X at hx F
            have q1 : (b : Int) ≤ (a : Int) := by have := HK2.out; omega
            have q2 : (a : Int) ≤ (s.size : Int) := by omega
            have he := Lib.hid (blk_row hz.out (lxL 2 X (m : Int) (b : Int)))
            have hB := Lib.hid (below_row hB0.out (Nat.le_refl _) (lxL 2 X (m : Int) (b : Int)))
            clear E hno hbig
            go_wp2_with fail
            refine (c1.out _).mono ?_; rintro e w1 ⟨rfl, rfl⟩
            go_wp2_with fail
            refine (c2.out _).mono ?_; rintro e w1 ⟨rfl, rfl⟩
            go_wp2_with fail
            refine (c9.out _).mono ?_; rintro e w1 ⟨rfl, rfl⟩
            go_wp2_with (refine wpList_store_row rfl 35 (.tmp 4) (.tmp 47) rfl w.heap.size (lxL 2 X (m : Int) (b : Int)) rfl rfl 35 _ hz.out (lx_size _ _ _ _) rfl (lx_ones _ _ _ _) ?_)
            exact on_retF rfl w.heap.size 2 X (m : Int) (b : Int) (a : Int) 0 rfl rfl rfl he.out hB.out rfl ⟨F.out.1, F.out.2.1, F.out.2.2.1, F.out.2.2.2.1, by rw [HK2.out]; exact F.out.2.2.2.2.1, F.out.2.2.2.2.2⟩
    · have hv := chA_out (show s.size ≤ a by omega)
      rw [hv] at c1
      have c2 := Lib.hid (cd.out (-1))
      rw [show digI (-1) = false from rfl] at c2
      have ht := dgL_out (show a = s.size by omega) he.out
      clear he hv cc cd
      have E := Lib.hid (num_end hb hl HO.out ht)
      have q0 := E.out.1
      rw [hm.out] at E
      by_cases h48 : C = 48
      · have e48 : s[b].toNat = 48 := by rw [hC.out]; exact h48
        by_cases hlong : 1 < t.length
        · have F := Lib.hid (E.out.2.1 ⟨e48, hlong⟩)
          have hg : (b : Int) + 1 < (a : Int) := by have := HK2.out; omega
          have he := Lib.hid (blk_row hz.out (lxL 0 ⟨#[]⟩ 0 0))
          have hB := Lib.hid (below_row hB0.out (Nat.le_refl _) (lxL 0 ⟨#[]⟩ 0 0))
          clear E hlong e48
          subst h48
          go_wp2_with fail
          refine (c1.out _).mono ?_; rintro e w1 ⟨rfl, rfl⟩
          go_wp2_with fail
          refine (c2.out _).mono ?_; rintro e w1 ⟨rfl, rfl⟩
          go_wp2_with fail
          refine (c9.out _).mono ?_; rintro e w1 ⟨rfl, rfl⟩
          go_wp2_with (refine wpList_store_row rfl 35 (.tmp 4) (.tmp 35) rfl w.heap.size (lxL 0 ⟨#[]⟩ 0 0) rfl rfl 35 _ hz.out (lx_size _ _ _ _) rfl (lx_ones _ _ _ _) ?_)
          exact on_retF rfl w.heap.size 0 ⟨#[]⟩ 0 0 (b : Int) 5 rfl rfl rfl he.out hB.out rfl F.out
        · have hno : ¬ (s[b].toNat = 48 ∧ 1 < t.length) := fun h => hlong h.2
          have hg : ¬ (b : Int) + 1 < (a : Int) := by have := HK2.out; omega
          clear hlong e48
          subst h48
          by_cases hbig : 1099511627776 < m
          · have F := Lib.hid (E.out.2.2.1 hno hbig)
            have hbig' : (1099511627776 : Int) < (m : Int) := by omega
            have he := Lib.hid (blk_row hz.out (lxL 0 ⟨#[]⟩ 0 0))
            have hB := Lib.hid (below_row hB0.out (Nat.le_refl _) (lxL 0 ⟨#[]⟩ 0 0))
            clear E hno hbig
            go_wp2_with fail
            refine (c1.out _).mono ?_; rintro e w1 ⟨rfl, rfl⟩
            go_wp2_with fail
            refine (c2.out _).mono ?_; rintro e w1 ⟨rfl, rfl⟩
            go_wp2_with fail
            refine (c9.out _).mono ?_; rintro e w1 ⟨rfl, rfl⟩
            go_wp2_with (refine wpList_store_row rfl 35 (.tmp 4) (.tmp 39) rfl w.heap.size (lxL 0 ⟨#[]⟩ 0 0) rfl rfl 35 _ hz.out (lx_size _ _ _ _) rfl (lx_ones _ _ _ _) ?_)
            exact on_retF rfl w.heap.size 0 ⟨#[]⟩ 0 0 (b : Int) 9 rfl rfl rfl he.out hB.out rfl F.out
          · have F := Lib.hid (E.out.2.2.2 hno hbig)
            have hbig' : ¬ (1099511627776 : Int) < (m : Int) := by omega
            have hx : s.extract b a = toS t := by rw [HK2.out, ← ht]; exact dg_cut s b
            generalize toS t = X at hx F
            have q1 : (b : Int) ≤ (a : Int) := by have := HK2.out; omega
            have q2 : (a : Int) ≤ (s.size : Int) := by omega
            have he := Lib.hid (blk_row hz.out (lxL 2 X (m : Int) (b : Int)))
            have hB := Lib.hid (below_row hB0.out (Nat.le_refl _) (lxL 2 X (m : Int) (b : Int)))
            clear E hno hbig
            go_wp2_with fail
            refine (c1.out _).mono ?_; rintro e w1 ⟨rfl, rfl⟩
            go_wp2_with fail
            refine (c2.out _).mono ?_; rintro e w1 ⟨rfl, rfl⟩
            go_wp2_with fail
            refine (c9.out _).mono ?_; rintro e w1 ⟨rfl, rfl⟩
            go_wp2_with (refine wpList_store_row rfl 35 (.tmp 4) (.tmp 47) rfl w.heap.size (lxL 2 X (m : Int) (b : Int)) rfl rfl 35 _ hz.out (lx_size _ _ _ _) rfl (lx_ones _ _ _ _) ?_)
            exact on_retF rfl w.heap.size 2 X (m : Int) (b : Int) (a : Int) 0 rfl rfl rfl he.out hB.out rfl ⟨F.out.1, F.out.2.1, F.out.2.2.1, F.out.2.2.2.1, by rw [HK2.out]; exact F.out.2.2.2.2.1, F.out.2.2.2.2.2⟩
      · have hno : ¬ (s[b].toNat = 48 ∧ 1 < t.length) := fun h => h48 (by rw [← hC.out]; exact h.1)
        have bC : ((C : Int) == 48) = false := beq_false_of_ne (by omega)
        clear h48
        by_cases hbig : 1099511627776 < m
        · have F := Lib.hid (E.out.2.2.1 hno hbig)
          have hbig' : (1099511627776 : Int) < (m : Int) := by omega
          have he := Lib.hid (blk_row hz.out (lxL 0 ⟨#[]⟩ 0 0))
          have hB := Lib.hid (below_row hB0.out (Nat.le_refl _) (lxL 0 ⟨#[]⟩ 0 0))
          clear E hno hbig
          go_wp2_with fail
          refine (c1.out _).mono ?_; rintro e w1 ⟨rfl, rfl⟩
          go_wp2_with fail
          refine (c2.out _).mono ?_; rintro e w1 ⟨rfl, rfl⟩
          go_wp2_with fail
          refine (c9.out _).mono ?_; rintro e w1 ⟨rfl, rfl⟩
          go_wp2_with (refine wpList_store_row rfl 35 (.tmp 4) (.tmp 39) rfl w.heap.size (lxL 0 ⟨#[]⟩ 0 0) rfl rfl 35 _ hz.out (lx_size _ _ _ _) rfl (lx_ones _ _ _ _) ?_)
          exact on_retF rfl w.heap.size 0 ⟨#[]⟩ 0 0 (b : Int) 9 rfl rfl rfl he.out hB.out rfl F.out
        · have F := Lib.hid (E.out.2.2.2 hno hbig)
          have hbig' : ¬ (1099511627776 : Int) < (m : Int) := by omega
          have hx : s.extract b a = toS t := by rw [HK2.out, ← ht]; exact dg_cut s b
          generalize toS t = X at hx F
          have q1 : (b : Int) ≤ (a : Int) := by have := HK2.out; omega
          have q2 : (a : Int) ≤ (s.size : Int) := by omega
          have he := Lib.hid (blk_row hz.out (lxL 2 X (m : Int) (b : Int)))
          have hB := Lib.hid (below_row hB0.out (Nat.le_refl _) (lxL 2 X (m : Int) (b : Int)))
          clear E hno hbig
          go_wp2_with fail
          refine (c1.out _).mono ?_; rintro e w1 ⟨rfl, rfl⟩
          go_wp2_with fail
          refine (c2.out _).mono ?_; rintro e w1 ⟨rfl, rfl⟩
          go_wp2_with fail
          refine (c9.out _).mono ?_; rintro e w1 ⟨rfl, rfl⟩
          go_wp2_with (refine wpList_store_row rfl 35 (.tmp 4) (.tmp 47) rfl w.heap.size (lxL 2 X (m : Int) (b : Int)) rfl rfl 35 _ hz.out (lx_size _ _ _ _) rfl (lx_ones _ _ _ _) ?_)
          exact on_retF rfl w.heap.size 2 X (m : Int) (b : Int) (a : Int) 0 rfl rfl rfl he.out hB.out rfl ⟨F.out.1, F.out.2.1, F.out.2.2.1, F.out.2.2.2.1, by rw [HK2.out]; exact F.out.2.2.2.2.1, F.out.2.2.2.2.2⟩
end Go.Proofs.Ytdpnmlgadieamaa.Lx
