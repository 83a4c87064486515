/-
  Contracts of the reference's Parse and Text of layer 1, for the later layers.
-/
import Derived.Test.YtdpnmlgadieamaaNtM
import Derived.Test.YtdpnmlgadieamaaProg
import Derived.WalkSpells
import Derived.WalkLawsBesides
import Derived.BigQuiet
import Derived.Deep.QuietTactic
import Derived.ProofKit
import Derived.Below
import Derived.LoopTactic
import Derived.OwnWalk
import Derived.Laws.IdiomStrings
import Derived.Deep.CutRange
import Derived.Deep.DeepCutAuto
namespace Go.Proofs.Ytdpnmlgadieamaa
open Go.RowKit

theorem ret2 {a b a' b' : Int} (h1 : a = a') (h2 : b = b') : Ending.returned (.tuple #[.int .i64 a, .int .i64 b]) = .returned (.tuple #[.int .i64 a', .int .i64 b']) := by rw [h1, h2]
theorem val_int {k : IntKind} {a b : Int} (h : a = b) : Value.int k a = .int k b := by rw [h]
theorem ret_str {a b : ByteArray} (h : a = b) : Ending.returned (.string a) = .returned (.string b) := by rw [h]
/-- The block of digits: zeros, then the last k digits. -/
def rowT (m k : Nat) : Array Value := (List.replicate (19 - k) (Value.int .u8 0) ++ (lowD m k).map (fun b => Value.int .u8 (b.toNat : Int))).toArray
def Blk (w : World) (g : Nat) (t : TypeId) (cs : Array Value) : Prop := w.heap[g]? = some (.cells cs t (0, 0))
theorem Blk.cell {w : World} {g : Nat} {t : TypeId} {cs : Array Value} (h : Blk w g t cs) (i : Nat) : w.cell? ⟨g, i, none⟩ = cs[i]? := cell_of_row w g i cs t (0, 0) h
theorem Blk.frozen {w : World} {g : Nat} {t : TypeId} {cs : Array Value} (h : Blk w g t cs) (i : Nat) : w.frozen? ⟨g, i, none⟩ = false := by
  unfold Blk at h
  simp [World.frozen?, h]
theorem Blk.new (w : World) (t : TypeId) (cs : Array Value) : Blk (w.alloc (.cells cs t)) w.heap.size t cs := heap_alloc_new w _
theorem Blk.set_ {w : World} {g : Nat} {t : TypeId} {cs : Array Value} (h : Blk w g t cs) (i : Nat) (u : Value) : Blk (w.setCell ⟨g, i, none⟩ u) g t (cs.setIfInBounds i u) := by
  unfold Blk at h ⊢
  simp [World.setCell, Array.getElem?_modify, h]

theorem ret_int {k : IntKind} {a b : Int} (h : a = b) : Ending.returned (.int k a) = .returned (.int k b) := by rw [h]

theorem mag_neg (a : Int) (h1 : -9223372036854775808 ≤ a) (h : a < 0) : IntKind.u64.wrap (-IntKind.u64.wrap a) = (a.natAbs : Int) := by
  rw [IntKind.wrap_u64, IntKind.wrap_u64]; omega
theorem mag_pos (a : Int) (h : 0 ≤ a) : a = (a.natAbs : Int) := by omega

theorem mag_any (a : Int) (w : World) (h1 : -9223372036854775808 ≤ a) (h2 : a ≤ 9223372036854775807) :
    Calls Try.prog 45 #[.int .i64 a] w fun e w' => e = .returned (.int .u64 (a.natAbs : Int)) ∧ w = w' := by
  by_cases h : a < 0
  · go_enter Try.func45, Try.ntmps45
    go_wp2
    go_ret
    exact ⟨ret_int (mag_neg a h1 h), rfl⟩
  · go_enter Try.func45, Try.ntmps45
    go_wp2
    go_ret
    exact ⟨ret_int (mag_pos a (by omega)), rfl⟩

def RPInv (t : ByteArray) (n i : Value) : Prop := ∃ k : Nat, k ≤ t.size ∧ i = .int .i64 k ∧ n = .int .i64 ((min (valL (t.data.toList.take k)) 1125899906842624 : Nat) : Int) ∧ Hid (allDig (t.data.toList.take k) = true)

set_option maxHeartbeats 1600000 in
theorem refParse_any (s : ByteArray) (w : World) (hs : s.size ≤ 9223372036854775806) :
    Calls Try.prog 51 #[.string s] w (ParEnd s w) := by
  by_cases h0 : s.size = 0
  · have hn := nil_of_zero s h0
    have E := Lib.hid (show 0 = parQ s.data.toList ∧ 3 = parE s.data.toList by rw [← Lib.toList_data, hn]; exact ⟨rfl, rfl⟩)
    clear h0
    go_enter Try.func51, Try.ntmps51
    go_wp2_with fail
    go_ret2
    exact ⟨ret2 E.out.1 E.out.2, rfl⟩
  · have h0 : 0 < s.size := by omega
    have hn := ne_nil_of s h0
    have hne : s.toList.isEmpty = false := by simpa using hn
    have hl : ¬ s.data.toList = [] := by rw [← Lib.toList_data]; exact hn
    have HL := Lib.hid hl
    have B1 := Lib.hid (body_minus s h0)
    have B2 := Lib.hid (body_plain s h0)
    have hx : (s.extract 1 s.size).size ≤ 9223372036854775806 := by rw [ByteArray.size_extract]; omega
    clear hl
    by_cases hz : s[0].toNat = 45
    · have hm := Lib.hid (body_minus s h0 hz).2
      have hz' : ((s[0].toNat : Int) == 45) = true := by simp; omega
      have HZ := Lib.hid hz
      clear hz
      go_enter Try.func51, Try.ntmps51
      go_upto_if 12 with fail
      go_cut [4] (fun s4 wx => ∃ t : ByteArray, s4 = .string t ∧ Hid (t.data.toList = body s.data.toList) ∧ t.size ≤ 9223372036854775806 ∧ wx = w)
      case first =>
        go_wp2_with fail
        go_meet
        exact ⟨_, rfl, (B1.out HZ.out).1, hx, rfl⟩
      case rest =>
        obtain ⟨t, rfl, hb, ht, rfl⟩ := hcut
        have hnb := Lib.hid (show natB t.data.toList = false → ¬ s.data.toList = [48] → 0 = parQ s.data.toList ∧ 5 = parE s.data.toList from fun h h' => ref_bad _ HL.out (by rw [← hb.out]; exact h) h')
        by_cases ht0 : t.size = 0
        · have htn := nil_of_zero t ht0
          have E := Lib.hid (hnb.out (natB_zero t ht0) (fun e => by
            have := hb.out
            rw [e, body_48, ← Lib.toList_data, htn] at this
            exact absurd this (by decide)))
          clear ht0
          go_wp2_with fail
          go_ret2
          exact ⟨ret2 E.out.1 E.out.2, rfl⟩
        · have ht0 : 0 < t.size := by omega
          have htn := ne_nil_of t ht0
          have htne : t.toList.isEmpty = false := by simpa using htn
          by_cases hbad : t[0].toNat = 48 ∧ ¬ s.toList = [48]
          · have E := Lib.hid (hnb.out (natB_head t ht0 hbad.1) (by rw [← Lib.toList_data]; exact hbad.2))
            have x1 : ((t[0].toNat : Int) == 48) = true := by simp; omega
            have x2 : (s.toList == [48]) = false := by simpa using hbad.2
            clear hbad
            go_wp2_with fail
            go_ret2
            exact ⟨ret2 E.out.1 E.out.2, rfl⟩
          · have ok : s.data.toList = [48] ∨ ¬ (body s.data.toList).head? = some 48 := by
              by_cases h : s.toList = [48]
              · left; rw [← Lib.toList_data]; exact h
              · right
                rw [← hb.out, head_of t ht0]
                intro e
                injection e with e
                exact hbad ⟨by rw [e]; rfl, h⟩
            have x : ((t[0].toNat : Int) == 48) = false ∨ (((t[0].toNat : Int) == 48) = true ∧ (s.toList == [48]) = true) := by
              by_cases h : t[0].toNat = 48
              · right
                refine ⟨by simp; omega, ?_⟩
                by_cases h' : s.toList = [48]
                · simpa using h'
                · exact absurd ⟨h, h'⟩ hbad
              · left; simp; omega
            have OK := Lib.hid ok
            clear ok hbad
            rcases x with x | ⟨x, x'⟩
            all_goals
              go_wp2_with fail
              go_loop [5, 6] (fun n i => RPInv t n i) (fun _ i => t.size - (intOf i).toNat)
              case atStart => exact ⟨0, by omega, rfl, by simp [valL], by show _ = _; simp [allDig]⟩
              case round =>
                obtain ⟨k, hk, rfl, rfl, ha⟩ := hrel
                by_cases hlt : k < t.size
                · have HT := Lib.hid (take_snoc t k hlt)
                  have HN := Lib.hid (show t[k].toNat < 48 ∨ 57 < t[k].toNat → 0 = parQ s.data.toList ∧ 5 = parE s.data.toList from fun h => by
                    have hd := allDig_no t k hlt h
                    refine hnb.out ?_ ?_
                    · cases hq : natB t.data.toList
                      · rfl
                      · rw [natB_dig _ hq] at hd; exact absurd hd (by decide)
                    · intro e
                      rw [hb.out, e, body_48] at hd
                      exact absurd hd (by decide))
                  generalize hv : min (valL (t.data.toList.take k)) 1125899906842624 = v
                  have hv1 : v ≤ 1125899906842624 := by omega
                  have hsn := Lib.hid (show 48 ≤ t[k].toNat → min (valL (t.data.toList.take (k + 1))) 1125899906842624 = min (10 * v + (t[k].toNat - 48)) 1125899906842624 by
                    intro _
                    rw [take_snoc t k hlt, valL_snoc]; omega)
                  clear hv
                  go_wp2_with fail
                  · rename_i hq _
                    go_ret2
                    exact ⟨ret2 (HN.out (by omega)).1 (HN.out (by omega)).2, rfl⟩
                  · rename_i hq
                    refine ⟨⟨k + 1, by omega, by go_num, val_int ?_, ?_⟩, by simp [intOf]; omega⟩
                    · rw [hsn.out (by omega)]
                      split <;> omega
                    · show _ = _
                      rw [HT.out, allDig_snoc, ha.out]
                      unfold dig
                      simp; omega
                  · rename_i hq
                    go_ret2
                    exact ⟨ret2 (HN.out (by omega)).1 (HN.out (by omega)).2, rfl⟩
                · obtain rfl : k = t.size := by omega
                  have hT := Lib.hid (show t.data.toList.take t.size = body s.data.toList by rw [List.take_of_length_le (by rw [← Lib.size_eq]; omega)]; exact hb.out)
                  have E := Lib.hid (ref_end s.data.toList HL.out (by rw [← hb.out, ← Lib.toList_data]; exact htn) OK.out (by rw [← hT.out]; exact ha.out))
                  rw [hT.out]
                  by_cases hle : valL (body s.data.toList) ≤ 1099511627776
                  · have F := Lib.hid (E.out.2.1 hle hm.out)
                    have hmin := Lib.hid (show min (valL (body s.data.toList)) 1125899906842624 = valL (body s.data.toList) by omega)
                    rw [hmin.out]
                    go_wp2_with fail
                    go_ret2
                    exact ⟨ret2 F.out.1 F.out.2, rfl⟩
                  · have F := Lib.hid (E.out.1 (by omega))
                    have hg : 1099511627776 < min (valL (body s.data.toList)) 1125899906842624 := by omega
                    clear hle
                    generalize min (valL (body s.data.toList)) 1125899906842624 = v at hg ⊢
                    go_wp2_with fail
                    go_ret2
                    exact ⟨ret2 F.out.1 F.out.2, rfl⟩
    · have hm := Lib.hid (body_plain s h0 hz).2
      have hz' : ((s[0].toNat : Int) == 45) = false := by simp; omega
      have HZ := Lib.hid hz
      clear hz
      go_enter Try.func51, Try.ntmps51
      go_upto_if 12 with fail
      go_cut [4] (fun s4 wx => ∃ t : ByteArray, s4 = .string t ∧ Hid (t.data.toList = body s.data.toList) ∧ t.size ≤ 9223372036854775806 ∧ wx = w)
      case first =>
        go_wp2_with fail
        go_meet
        exact ⟨_, rfl, (B2.out HZ.out).1, hs, rfl⟩
      case rest =>
        obtain ⟨t, rfl, hb, ht, rfl⟩ := hcut
        have hnb := Lib.hid (show natB t.data.toList = false → ¬ s.data.toList = [48] → 0 = parQ s.data.toList ∧ 5 = parE s.data.toList from fun h h' => ref_bad _ HL.out (by rw [← hb.out]; exact h) h')
        by_cases ht0 : t.size = 0
        · have htn := nil_of_zero t ht0
          have E := Lib.hid (hnb.out (natB_zero t ht0) (fun e => by
            have := hb.out
            rw [e, body_48, ← Lib.toList_data, htn] at this
            exact absurd this (by decide)))
          clear ht0
          go_wp2_with fail
          go_ret2
          exact ⟨ret2 E.out.1 E.out.2, rfl⟩
        · have ht0 : 0 < t.size := by omega
          have htn := ne_nil_of t ht0
          have htne : t.toList.isEmpty = false := by simpa using htn
          by_cases hbad : t[0].toNat = 48 ∧ ¬ s.toList = [48]
          · have E := Lib.hid (hnb.out (natB_head t ht0 hbad.1) (by rw [← Lib.toList_data]; exact hbad.2))
            have x1 : ((t[0].toNat : Int) == 48) = true := by simp; omega
            have x2 : (s.toList == [48]) = false := by simpa using hbad.2
            clear hbad
            go_wp2_with fail
            go_ret2
            exact ⟨ret2 E.out.1 E.out.2, rfl⟩
          · have ok : s.data.toList = [48] ∨ ¬ (body s.data.toList).head? = some 48 := by
              by_cases h : s.toList = [48]
              · left; rw [← Lib.toList_data]; exact h
              · right
                rw [← hb.out, head_of t ht0]
                intro e
                injection e with e
                exact hbad ⟨by rw [e]; rfl, h⟩
            have x : ((t[0].toNat : Int) == 48) = false ∨ (((t[0].toNat : Int) == 48) = true ∧ (s.toList == [48]) = true) := by
              by_cases h : t[0].toNat = 48
              · right
                refine ⟨by simp; omega, ?_⟩
                by_cases h' : s.toList = [48]
                · simpa using h'
                · exact absurd ⟨h, h'⟩ hbad
              · left; simp; omega
            have OK := Lib.hid ok
            clear ok hbad
            rcases x with x | ⟨x, x'⟩
            all_goals
              go_wp2_with fail
              go_loop [5, 6] (fun n i => RPInv t n i) (fun _ i => t.size - (intOf i).toNat)
              case atStart => exact ⟨0, by omega, rfl, by simp [valL], by show _ = _; simp [allDig]⟩
              case round =>
                obtain ⟨k, hk, rfl, rfl, ha⟩ := hrel
                by_cases hlt : k < t.size
                · have HT := Lib.hid (take_snoc t k hlt)
                  have HN := Lib.hid (show t[k].toNat < 48 ∨ 57 < t[k].toNat → 0 = parQ s.data.toList ∧ 5 = parE s.data.toList from fun h => by
                    have hd := allDig_no t k hlt h
                    refine hnb.out ?_ ?_
                    · cases hq : natB t.data.toList
                      · rfl
                      · rw [natB_dig _ hq] at hd; exact absurd hd (by decide)
                    · intro e
                      rw [hb.out, e, body_48] at hd
                      exact absurd hd (by decide))
                  generalize hv : min (valL (t.data.toList.take k)) 1125899906842624 = v
                  have hv1 : v ≤ 1125899906842624 := by omega
                  have hsn := Lib.hid (show 48 ≤ t[k].toNat → min (valL (t.data.toList.take (k + 1))) 1125899906842624 = min (10 * v + (t[k].toNat - 48)) 1125899906842624 by
                    intro _
                    rw [take_snoc t k hlt, valL_snoc]; omega)
                  clear hv
                  go_wp2_with fail
                  · rename_i hq _
                    go_ret2
                    exact ⟨ret2 (HN.out (by omega)).1 (HN.out (by omega)).2, rfl⟩
                  · rename_i hq
                    refine ⟨⟨k + 1, by omega, by go_num, val_int ?_, ?_⟩, by simp [intOf]; omega⟩
                    · rw [hsn.out (by omega)]
                      split <;> omega
                    · show _ = _
                      rw [HT.out, allDig_snoc, ha.out]
                      unfold dig
                      simp; omega
                  · rename_i hq
                    go_ret2
                    exact ⟨ret2 (HN.out (by omega)).1 (HN.out (by omega)).2, rfl⟩
                · obtain rfl : k = t.size := by omega
                  have hT := Lib.hid (show t.data.toList.take t.size = body s.data.toList by rw [List.take_of_length_le (by rw [← Lib.size_eq]; omega)]; exact hb.out)
                  have E := Lib.hid (ref_end s.data.toList HL.out (by rw [← hb.out, ← Lib.toList_data]; exact htn) OK.out (by rw [← hT.out]; exact ha.out))
                  rw [hT.out]
                  by_cases hle : valL (body s.data.toList) ≤ 1099511627776
                  · have F := Lib.hid (E.out.2.2 hle hm.out)
                    have hmin := Lib.hid (show min (valL (body s.data.toList)) 1125899906842624 = valL (body s.data.toList) by omega)
                    rw [hmin.out]
                    go_wp2_with fail
                    go_ret2
                    exact ⟨ret2 F.out.1 F.out.2, rfl⟩
                  · have F := Lib.hid (E.out.1 (by omega))
                    have hg : 1099511627776 < min (valL (body s.data.toList)) 1125899906842624 := by omega
                    clear hle
                    generalize min (valL (body s.data.toList)) 1125899906842624 = v at hg ⊢
                    go_wp2_with fail
                    go_ret2
                    exact ⟨ret2 F.out.1 F.out.2, rfl⟩
def strB (m k : Nat) : ByteArray := ⟨(lowD m k).toArray⟩
def RTInv (M : Nat) (s m : Value) : Prop := ∃ k : Nat, k ≤ 19 ∧ s = .string (strB M k) ∧ m = .int .u64 ((M / 10 ^ k : Nat) : Int) ∧ (k ≤ 1 ∨ M / 10 ^ (k - 1) ≠ 0)

theorem conv_one (w : World) (q : Nat) :
    (convert 30 9 (.slice (some ⟨w.heap.size, 0, none⟩) 1 1)).run Try.prog (w.alloc (.cells #[.int .u8 (48 + (q : Int) % 10)] 5)) = .ok (.string ⟨#[UInt8.ofNat (48 + q % 10)]⟩) (w.alloc (.cells #[.int .u8 (48 + (q : Int) % 10)] 5)) := by
  exact run_convert_bytes_back (P := Try.prog) _ 30 9 5 ⟨w.heap.size, 0, none⟩ 1 [UInt8.ofNat (48 + q % 10)] Try.underlying30 Try.underlying5 Try.underlying9 (fun j hj => by
    have : j = 0 := by simpa using hj
    subst this
    rw [Go.WideShapes.add_plain, (Blk.new w 5 _).cell]
    simp only [Nat.zero_add, List.getElem_cons_zero]
    show some _ = some _
    congr 1
    refine val_int ?_
    rw [UInt8.toNat_ofNat']
    omega)
theorem strB_size (m k : Nat) : (strB m k).size = k := by
  show (lowD m k).toArray.size = k
  simp [lowD_length]
theorem strB_list (m k : Nat) : (strB m k).data.toList = lowD m k := by simp [strB]
theorem strB_succ (M k q : Nat) (h : M / 10 ^ k = q) : (⟨#[UInt8.ofNat (48 + q % 10)]⟩ ++ strB M k : ByteArray) = strB M (k + 1) := by
  subst h
  apply ByteArray.ext
  unfold strB
  simp [lowD]
theorem div19 (M k : Nat) (hm : M ≤ 9223372036854775808) (h : 0 < M / 10 ^ k) : k ≤ 18 := by
  rcases Nat.lt_or_ge k 19 with x | x
  · omega
  · have h1 : 10 ^ 19 ≤ 10 ^ k := Nat.pow_le_pow_right (by decide) x
    have := Nat.div_eq_of_lt (Nat.lt_of_lt_of_le (Nat.lt_of_le_of_lt hm (by decide)) h1)
    omega

set_option maxHeartbeats 400000 in
theorem refText_any (n : Int) (w : World) (h0 : -9223372036854775808 ≤ n) (h2 : n ≤ 9223372036854775807) :
    Calls Try.prog 29 #[.int .i64 n] w fun e w' => e = .returned (.string (textB n)) ∧ Below w.heap.size w w' := by
  obtain ⟨M, hM⟩ : ∃ M, n.natAbs = M := ⟨_, rfl⟩
  have HM := Lib.hid hM
  have hmm : M ≤ 9223372036854775808 := by omega
  clear hM
  go_enter Try.func29, Try.ntmps29
  go_wp2_with (go_at_call 45; refine (mag_any _ _ (by assumption) (by assumption)).mono ?_; rintro e w' ⟨rfl, rfl⟩)
  rw [HM.out]
  go_loopw [3, 4] (fun s m wr => RTInv M s m ∧ Below w.heap.size w wr) (fun s m _ => (match s with | .string b => 19 - b.size | _ => 0))
  case atStart => exact ⟨⟨0, by omega, rfl, by simp, .inl (by omega)⟩, Below.refl _ _⟩
  case round =>
    obtain ⟨⟨k, hk, rfl, rfl, hz⟩, hB⟩ := hrel
    generalize hq : M / 10 ^ k = q
    have hqb : q ≤ 9223372036854775808 := by rw [← hq]; exact Nat.le_trans (Nat.div_le_self _ _) hmm
    have HQ := Lib.hid hq
    have HZ := Lib.hid hz
    have hcv := conv_one wr q
    have hS := strB_size M k
    have hlen : (strB M k).size ≤ 19 := by omega
    have HS := Lib.hid hS
    have hcat := Lib.hid (strB_succ M k q hq)
    have hw : w.heap.size ≤ wr.heap.size := hB.size
    clear hS
    by_cases hgo : 0 < q ∨ k = 0
    · have hk18 : k ≤ 18 := by
        rcases hgo with h | h
        · exact div19 M k hmm (by rw [hq]; exact h)
        · omega
      have hx : 0 < q ∨ (q = 0 ∧ (strB M k).toList = []) := by
        rcases hgo with h | h
        · exact .inl h
        · rcases Nat.eq_zero_or_pos q with h' | h'
          · exact .inr ⟨h', by subst h; rw [Lib.toList_data, strB_list]; rfl⟩
          · exact .inl h'
      have hnz := Lib.hid (show k + 1 ≤ 1 ∨ M / 10 ^ (k + 1 - 1) ≠ 0 by
        rw [Nat.add_sub_cancel, hq]
        rcases hgo with h | h
        · right; omega
        · left; omega)
      clear hq hz hgo
      rcases hx with hx | ⟨hx, hx'⟩
      · go_wp2
        go_roundw
        case rel =>
          refine ⟨⟨k + 1, by omega, ?_, val_int ?_, hnz.out⟩, (hB.alloc hw _)⟩
          · rw [← hcat.out, UInt8.ofNat_add]; rfl
          · rw [Nat.pow_succ, ← Nat.div_div_eq_div_mul, HQ.out]; omega
        case measure =>
          show 19 - (_ ++ strB M k : ByteArray).size < 19 - (strB M k).size
          rw [ByteArray.size_append, HS.out]
          show 19 - (1 + k) < 19 - k
          omega
      · subst hx
        have hcv0 : (convert 30 9 (.slice (some ⟨wr.heap.size, 0, none⟩) 1 1)).run Try.prog (wr.alloc (.cells #[.int .u8 48] 5)) = .ok (.string ⟨#[48]⟩) (wr.alloc (.cells #[.int .u8 48] 5)) := conv_one wr 0
        have hcat0 : Hid (⟨#[48]⟩ ++ strB M k = strB M (k + 1)) := hcat
        clear hcv
        go_wp2
        go_roundw
        case rel =>
          refine ⟨⟨k + 1, by omega, ?_, val_int ?_, hnz.out⟩, (hB.alloc hw _)⟩
          · rw [← hcat0.out]
          · rw [Nat.pow_succ, ← Nat.div_div_eq_div_mul, HQ.out]; omega
        case measure =>
          show 19 - (_ ++ strB M k : ByteArray).size < 19 - (strB M k).size
          rw [ByteArray.size_append, HS.out]
          show 19 - (1 + k) < 19 - k
          omega
    · have hk1 : 1 ≤ k := by omega
      obtain rfl : q = 0 := by omega
      have hL : IsLen M k := ⟨hk1, hq, by rcases hz with z | z; exact .inl (by omega); exact .inr z⟩
      have HD := Lib.hid (digs_of M k hmm hL)
      have hn := ne_nil_of (strB M k) (by rw [HS.out]; omega)
      have hne : (strB M k).toList.isEmpty = false := by simpa using hn
      clear hq hz hgo hL hcv
      by_cases hneg : n < 0
      · have E := Lib.hid (show (⟨#[45]⟩ ++ strB M k : ByteArray) = textB n by
          unfold textB textL strB
          rw [if_pos hneg, HM.out, HD.out]
          apply ByteArray.ext
          simp)
        go_wp2
        go_ret
        exact ⟨ret_str E.out, hB⟩
      · have E := Lib.hid (show strB M k = textB n by
          unfold textB textL strB
          rw [if_neg hneg, HM.out, HD.out])
        go_wp2
        go_ret
        exact ⟨ret_str E.out, hB⟩
end Go.Proofs.Ytdpnmlgadieamaa
