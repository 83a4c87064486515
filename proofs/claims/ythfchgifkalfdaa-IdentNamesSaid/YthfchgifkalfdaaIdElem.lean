/-
  Contracts of compareBytes, significant, element, and of the reference's bytes, plain, first.
-/
import Derived.Test.YthfchgifkalfdaaIdOrd
namespace Go.Proofs.Ythfchgifkalfdaa.Id
open Go.RowKit

def cmpS (a b : ByteArray) : Int := cmpB a.data.toList b.data.toList
theorem cmpS_lt {a b : ByteArray} (h : Op.bytesLess a.toList b.toList = true) : cmpS a b = -1 := by
  unfold cmpS cmpB; rw [Lib.toList_data, Lib.toList_data] at h; rw [if_pos h]
theorem cmpS_gt {a b : ByteArray} (h1 : Op.bytesLess a.toList b.toList = false) (h : Op.bytesLess b.toList a.toList = true) : cmpS a b = 1 := by
  unfold cmpS cmpB; rw [Lib.toList_data, Lib.toList_data] at h h1; rw [if_neg (by rw [h1]; simp), if_pos h]
theorem cmpS_eq {a b : ByteArray} (h1 : Op.bytesLess a.toList b.toList = false) (h : Op.bytesLess b.toList a.toList = false) : cmpS a b = 0 := by
  unfold cmpS cmpB; rw [Lib.toList_data, Lib.toList_data] at h h1; rw [if_neg (by rw [h1]; simp), if_neg (by rw [h]; simp)]

theorem less_irr : ∀ l : List UInt8, Op.bytesLess l l = false
  | [] => rfl
  | a :: l => by rw [less_cons, less_irr l]; simp
theorem less_tri : ∀ a b : List UInt8, Op.bytesLess a b = false → a ≠ b → Op.bytesLess b a = true
  | [], [], _, h => absurd rfl h
  | [], _ :: _, h, _ => by rw [Op.bytesLess] at h; cases h
  | _ :: _, [], _, _ => rfl
  | a :: x, b :: y, h, hn => by
    rw [less_cons, Bool.or_eq_false_iff] at h
    rw [less_cons]
    have h1 : ¬ a.toNat < b.toNat := of_decide_eq_false h.1
    by_cases e : a = b
    · subst e
      have h2 : Op.bytesLess x y = false := by simpa using h.2
      rw [less_tri x y h2 (fun e => hn (by rw [e]))]
      simp
    · have : a.toNat ≠ b.toNat := fun h => e (UInt8.toNat_inj.1 h)
      rw [decide_eq_true (by omega : b.toNat < a.toNat)]; rfl
theorem less_other {a b : ByteArray} (h1 : Op.bytesLess a.toList b.toList = false) (h2 : (a.toList == b.toList) = false) : Op.bytesLess b.toList a.toList = true :=
  less_tri _ _ h1 (by simpa using h2)
theorem less_self {a b : ByteArray} (h2 : (a.toList == b.toList) = true) : Op.bytesLess b.toList a.toList = false := by
  rw [show a.toList = b.toList by simpa using h2]; exact less_irr _

set_option maxHeartbeats 1000000 in
theorem cmpBytes_any (a b : ByteArray) (w : World) : Calls Try.prog 34 #[.string a, .string b] w fun e w' => e = .returned (.int .i64 (cmpS a b)) ∧ w = w' := by
  cases h1 : Op.bytesLess a.toList b.toList
  · cases h2 : a.toList == b.toList
    · rw [cmpS_gt h1 (less_other h1 h2)]
      go_enter Try.func34, Try.ntmps34
      go_wp2
      go_ret
      exact ⟨rfl, rfl⟩
    · rw [cmpS_eq h1 (less_self h2)]
      go_enter Try.func34, Try.ntmps34
      go_wp2
      go_ret
      exact ⟨rfl, rfl⟩
  · rw [cmpS_lt h1]
    go_enter Try.func34, Try.ntmps34
    go_wp2
    go_ret
    exact ⟨rfl, rfl⟩
set_option maxHeartbeats 1000000 in
theorem rbytes_any (a b : ByteArray) (w : World) : Calls Try.prog 37 #[.string a, .string b] w fun e w' => e = .returned (.int .i64 (cmpS a b)) ∧ w = w' := by
  cases h1 : Op.bytesLess a.toList b.toList
  · cases h2 : a.toList == b.toList
    · rw [cmpS_gt h1 (less_other h1 h2)]
      go_enter Try.func37, Try.ntmps37
      go_wp2
      go_ret
      exact ⟨rfl, rfl⟩
    · rw [cmpS_eq h1 (less_self h2)]
      go_enter Try.func37, Try.ntmps37
      go_wp2
      go_ret
      exact ⟨rfl, rfl⟩
  · rw [cmpS_lt h1]
    go_enter Try.func37, Try.ntmps37
    go_wp2
    go_ret
    exact ⟨rfl, rfl⟩

/-! ### Digits without leading zeros -/
theorem drop_cons (s : ByteArray) (k : Nat) (h : k < s.size) : s.data.toList.drop k = s[k] :: s.data.toList.drop (k + 1) := by
  rw [List.drop_eq_getElem_cons (by rw [len_data]; exact h)]; rfl
theorem sig_skip {s : ByteArray} {k : Nat} (h : k < s.size) (hz : s[k].toNat = 48) : sigL (s.data.toList.drop k) = sigL (s.data.toList.drop (k + 1)) := by
  rw [drop_cons s k h]
  unfold sigL
  rw [List.dropWhile_cons_of_pos]
  have : s[k] = 48 := UInt8.toNat_inj.1 hz
  rw [this]; rfl
theorem sig_stop {s : ByteArray} {k : Nat} (h : k < s.size) (hz : ¬ s[k].toNat = 48) : sigL (s.data.toList.drop k) = s.data.toList.drop k := by
  rw [drop_cons s k h]
  unfold sigL
  rw [List.dropWhile_cons_of_neg]
  intro e
  have : s[k] = 48 := by simpa [zeroU] using e
  exact hz (by rw [this]; rfl)
theorem extract_end (s : ByteArray) (k : Nat) : s.extract k s.size = toB (s.data.toList.drop k) := by
  rw [Lib.extract_eq]
  unfold toB
  congr 2
  rw [List.take_of_length_le]
  rw [List.length_drop, len_data]; exact Nat.le_refl _
def SigInv (s : ByteArray) (pos : Nat) : Prop := pos ≤ s.size ∧ Hid (sigL s.data.toList = sigL (s.data.toList.drop pos))

set_option maxHeartbeats 1000000 in
set_option maxRecDepth 100000 in
theorem signif_any (s : ByteArray) (w : World) : Calls Try.prog 41 #[.string s] w fun e w' => e = .returned (.string (sigS s)) ∧ Below w.heap.size w w' := by
  go_enter Try.func41, Try.ntmps41
  go_wp2
  go_loopw [3, 4] (fun _ _ w' => ∃ pos : Nat, w' = w.iter s pos ∧ SigInv s pos) (fun _ _ w' => s.size - w'.iterPos w.heap.size)
  case atStart => exact ⟨0, rfl, Nat.zero_le _, rfl⟩
  case round =>
    obtain ⟨pos, rfl, hps, hsig⟩ := hrel
    by_cases hp : pos < s.size
    · have hnx : ∀ ty, (Instr.next (.pointer (some ⟨w.heap.size, 0, none⟩)) true ty).run Try.prog (w.iter s pos) = _ := fun ty => run_next_any w s pos ty hp
      have hr := atRune s pos hp
      obtain ⟨R, hR⟩ : ∃ R, (Utf8.decode s pos).1 = R := ⟨_, rfl⟩
      obtain ⟨K, hK⟩ : ∃ K, (Utf8.decode s pos).2 = K := ⟨_, rfl⟩
      rw [hR, hK] at hr hnx
      clear hR hK
      by_cases h48 : R = 48
      · subst h48
        have hk : K = 1 ∧ s[pos].toNat = 48 := by
          rcases hr with ⟨a, b, _⟩ | ⟨a, _⟩
          · exact ⟨b, a.symm⟩
          · omega
        obtain ⟨rfl, hb⟩ := hk
        have HS := Lib.hid (hsig.out.trans (sig_skip hp hb))
        clear hr hb hsig
        go_wp2
        exact ⟨⟨pos + 1, rfl, hp, HS⟩, by rw [World.iterPos_iter, World.iterPos_iter]; omega⟩
      · have hz : ¬ s[pos].toNat = 48 := by
          rcases hr with ⟨a, _⟩ | ⟨_, a, _⟩
          · rw [← a]; exact h48
          · omega
        have h48' : ((R : Int) == 48) = false := beq_false_of_ne (by omega)
        have HS := Lib.hid (show s.extract pos s.size = sigS s by rw [extract_end]; unfold sigS; rw [hsig.out, sig_stop hp hz])
        have hps' : (pos : Int) ≤ (s.size : Int) := by omega
        clear hr hz hsig h48
        go_wp2
        go_ret
        exact ⟨by rw [← HS.out]; rfl, below_iter _ _ _⟩
    · have hnx : ∀ ty, (Instr.next (.pointer (some ⟨w.heap.size, 0, none⟩)) true ty).run Try.prog (w.iter s pos) = _ := fun ty => run_next_end w s pos ty hp
      have HS := Lib.hid (show (⟨#[]⟩ : ByteArray) = sigS s by unfold sigS; rw [hsig.out, List.drop_eq_nil_of_le (by rw [len_data]; omega)]; rfl)
      clear hsig
      go_wp2
      go_ret
      exact ⟨by rw [← HS.out]; rfl, below_iter _ _ _⟩
end Go.Proofs.Ythfchgifkalfdaa.Id
