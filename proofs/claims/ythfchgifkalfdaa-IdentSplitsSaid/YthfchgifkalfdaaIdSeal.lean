/-
  Contracts of Seal of the program and of the reference.
-/
import Derived.Test.YthfchgifkalfdaaIdCheck
namespace Go.Proofs.Ythfchgifkalfdaa.Id
open Go.RowKit

theorem okU_ascii {c : UInt8} (h : okU c = true) : c.toNat < 128 := by
  rcases Nat.lt_or_ge c.toNat 128 with h1 | h1
  · exact h1
  · unfold okU at h; rw [okZ_high (by omega)] at h; cases h
theorem cut_bytes : ∀ (l cur : List UInt8), (∀ p ∈ cutF cur (l ++ [46]), ∀ c ∈ p, okU c = true) → ∀ c ∈ cur ++ l, okU c = true ∨ c = 46 := by
  intro l
  induction l with
  | nil =>
    intro cur h c hc
    rw [List.append_nil] at hc
    exact Or.inl (h cur (by simp [cutF]) c hc)
  | cons d l ih =>
    intro cur h c hc
    rw [List.cons_append, cutF] at h
    split at h
    · rename_i hd
      rcases List.mem_append.1 hc with hc | hc
      · exact Or.inl (h cur (by simp) c hc)
      · rcases List.mem_cons.1 hc with rfl | hc
        · exact Or.inr hd
        · exact ih [] (fun p hp => h p (by simp [hp])) c (by simpa using hc)
    · exact ih (cur ++ [d]) h c (by simpa using hc)
theorem nameS_ok {s : ByteArray} (h : nameS s = true) : ∀ c ∈ s.data.toList, okU c = true := by
  unfold nameS nameL at h
  rw [Bool.and_eq_true, List.all_eq_true] at h
  exact h.2
theorem id_bytes {s : ByteArray} (h : idOk s = true) : ∀ c ∈ s.data.toList, okU c = true ∨ c = 46 := by
  unfold idOk at h
  rw [Bool.and_eq_true, List.all_eq_true] at h
  have := cut_bytes s.data.toList [] (fun p hp c hc => nameS_ok (s := toB p) (h.2 (toB p) (List.mem_map_of_mem hp)) c hc)
  simpa using this
theorem id_ascii {s : ByteArray} (h : idOk s = true) : ∀ j (hj : j < s.size), s[j].toNat < 128 := by
  intro j hj
  rcases id_bytes h _ (mem_data s j hj) with h1 | h1
  · exact okU_ascii h1
  · rw [h1]; decide
theorem id_size {s : ByteArray} (h : idOk s = true) : s.size ≤ 64 := by
  rcases Nat.lt_or_ge 64 s.size with h1 | h1
  · rw [id_long h1] at h; cases h
  · exact h1
def sealB (s : ByteArray) : ByteArray := (s ++ ⟨#[47]⟩) ++ ckS s
def sealS (s : ByteArray) : ByteArray := if idOk s = true then sealB s else ⟨#[]⟩
def sealE (s : ByteArray) : Int := if idOk s = true then 0 else 6
def SealEnd (s : ByteArray) (w : World) (e : Ending) (w' : World) : Prop := e = .returned (.tuple #[.string (sealS s), .int .i64 (sealE s)]) ∧ Below w.heap.size w w'
theorem seal_no {s : ByteArray} {w w' : World} (h : idOk s = false) (hb : Below w.heap.size w w') : SealEnd s w (.returned (.tuple #[.string ⟨#[]⟩, .int .i64 6])) w' := by
  unfold SealEnd sealS sealE; rw [h]; exact ⟨rfl, hb⟩
theorem seal_ok {s : ByteArray} {w w' : World} (h : idOk s = true) (hb : Below w.heap.size w w') : SealEnd s w (.returned (.tuple #[.string (sealB s), .int .i64 0])) w' := by
  unfold SealEnd sealS sealE; rw [h]; exact ⟨rfl, hb⟩
theorem ckS_size (s : ByteArray) : (ckS s).size = 2 := rfl
theorem seal_e1 {s : ByteArray} (h : idOk s = true) (W : World) : (Op.stringOp .add s ⟨#[47]⟩).run Try.prog W = .ok (.string (s ++ ⟨#[47]⟩)) W :=
  run_string_add_sum W _ _ (by have := id_size h; show s.size + 1 ≤ _; omega)
theorem seal_e2 {s : ByteArray} (h : idOk s = true) (W : World) : (Op.stringOp .add (s ++ ⟨#[47]⟩) (ckS s)).run Try.prog W = .ok (.string (sealB s)) W :=
  run_string_add_sum W _ _ (by have := id_size h; rw [ByteArray.size_append, ckS_size]; show s.size + 1 + 2 ≤ _; omega)

set_option maxHeartbeats 1000000 in
set_option maxRecDepth 100000 in
theorem seal_any (s : ByteArray) (w : World) : Calls Try.prog 23 #[.string s] w (SealEnd s w) := by
  obtain ⟨B, hB⟩ : ∃ B, idOk s = B := ⟨_, rfl⟩
  have cI : Hid (∀ W, Calls Try.prog 14 #[.string s] W fun e w' => e = .returned (.bool B) ∧ Below W.heap.size W w') := fun W => by rw [← hB]; exact isId_any _ W
  have HB := Lib.hid hB
  clear hB
  cases B
  · go_enter Try.func23, Try.ntmps23
    go_wp2_with fail
    refine (cI.out _).mono ?_; rintro e w1 ⟨rfl, b1⟩
    go_wp2_with fail
    go_ret2
    exact seal_no HB.out b1
  · have cC := Lib.hid (fun w => check_any s w (id_ascii HB.out))
    have e1 := seal_e1 HB.out
    have e2 := seal_e2 HB.out
    obtain ⟨S, hS⟩ : ∃ S, s ++ ⟨#[47]⟩ = S := ⟨_, rfl⟩
    rw [hS] at e1 e2
    clear hS
    go_enter Try.func23, Try.ntmps23
    go_wp2_with fail
    refine (cI.out _).mono ?_; rintro e w1 ⟨rfl, b1⟩
    go_wp2_with fail
    refine (cC.out _).mono ?_; rintro e w2 ⟨rfl, b2⟩
    go_wp2_with fail
    go_ret2
    exact seal_ok HB.out (b1.trans (b2.mono b1.size))

set_option maxHeartbeats 1000000 in
set_option maxRecDepth 100000 in
theorem rseal_any (s : ByteArray) (w : World) (hs : s.size ≤ 1000) : Calls Try.prog 24 #[.string s] w (SealEnd s w) := by
  obtain ⟨B, hB⟩ : ∃ B, idOk s = B := ⟨_, rfl⟩
  have cI : Hid (∀ W, Calls Try.prog 15 #[.string s] W fun e w' => e = .returned (.bool B) ∧ Below W.heap.size W w') := fun W => by rw [← hB]; exact risId_any _ W hs
  have HB := Lib.hid hB
  clear hB
  cases B
  · go_enter Try.func24, Try.ntmps24
    go_wp2_with fail
    refine (cI.out _).mono ?_; rintro e w1 ⟨rfl, b1⟩
    go_wp2_with fail
    go_ret2
    exact seal_no HB.out b1
  · have cC := Lib.hid (fun w => rdigits_any s w (by omega))
    have e1 := seal_e1 HB.out
    have e2 := seal_e2 HB.out
    obtain ⟨S, hS⟩ : ∃ S, s ++ ⟨#[47]⟩ = S := ⟨_, rfl⟩
    rw [hS] at e1 e2
    clear hS
    go_enter Try.func24, Try.ntmps24
    go_wp2_with fail
    refine (cI.out _).mono ?_; rintro e w1 ⟨rfl, b1⟩
    go_wp2_with fail
    refine (cC.out _).mono ?_; rintro e w2 ⟨rfl, b2⟩
    go_wp2_with fail
    go_ret2
    exact seal_ok HB.out (b1.trans (b2.mono b1.size))
end Go.Proofs.Ythfchgifkalfdaa.Id
