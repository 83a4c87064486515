/-
  Contracts of Split and IsId of the program.
-/
import Derived.Test.YthfchgifkalfdaaIdCuts
import Derived.OwnWalk
namespace Go.Proofs.Ythfchgifkalfdaa.Id
open Go.RowKit

theorem info_str : (Try.prog.info? 9).map (fun i => (i.zero, i.size, i.bytes)) = some (some (.string ⟨#[]⟩), 1, 16) := by kernel_rfl
theorem own_slice {w : World} {B e n : Nat} {v : Value} {xs : List Value} (h : w.ownsRow B e 1 v n xs) : ∃ p c, v = .slice p n c := by
  rcases h.2 with ⟨rfl, rfl⟩ | ⟨g, cap, cur, rfl, _⟩
  · exact ⟨_, _, rfl⟩
  · exact ⟨_, _, rfl⟩
/-- What a function of a string hands back that returns a list of names and an error. -/
def SplEnd (w : World) (L : List ByteArray) (E : Int) (e : Ending) (w' : World) : Prop :=
  ∃ v, e = .returned (.tuple #[v, .int .i64 E]) ∧ w'.ownsRow w.heap.size 9 1 v L.length (L.map Value.string) ∧ Below w.heap.size w w'
theorem spl_end_no {s : ByteArray} {w w' : World} (h : idOk s = false) (hb : Below w.heap.size w w') : SplEnd w (splL s) (splE s) (.returned (.tuple #[.slice none 0 0, .int .i64 6])) w' := by
  rw [(spl_no h).1, (spl_no h).2]
  exact ⟨_, rfl, World.ownsRow_nil _ _ _ _, hb⟩
theorem spl_end_ok {s : ByteArray} {w w' : World} {v : Value} {done : List ByteArray} (h : idOk s = true) (hd : cuts s = done) (ho : w'.ownsRow w.heap.size 9 1 v done.length (done.map Value.string)) (hb : Below w.heap.size w w') :
    SplEnd w (splL s) (splE s) (.returned (.tuple #[v, .int .i64 0])) w' := by
  rw [(spl_ok h).1, (spl_ok h).2, hd]
  exact ⟨_, rfl, ho, hb⟩
/-- The string with a full stop behind it, as a string. -/
def dotS (s : ByteArray) : ByteArray := s ++ ⟨#[46]⟩
theorem dotS_size (s : ByteArray) : (dotS s).size = s.size + 1 := by unfold dotS; rw [ByteArray.size_append]; rfl
theorem dotS_data (s : ByteArray) : (dotS s).data.toList = s.data.toList ++ [46] := by unfold dotS; rw [ByteArray.data_append, Array.toList_append]
theorem dotS_at (s : ByteArray) (j : Nat) (h : j < s.size) (h' : j < (dotS s).size) : (dotS s)[j] = s[j] := by
  have a := get_data (dotS s) j h'
  have b := get_data s j h
  rw [dotS_data, List.getElem?_append_left (by rw [len_data]; exact h), b] at a
  exact (Option.some.inj a).symm
/-- What the loop keeps. -/
def SplInv (s : ByteArray) (w : World) (l bg : Value) (wr : World) : Prop :=
  ∃ (pos b : Nat) (done : List ByteArray), bg = .int .i64 b ∧ wr.heap[w.heap.size]? = some (.stringIter (dotS s) pos) ∧ wr.ownsRow w.heap.size 9 1 l done.length (done.map Value.string) ∧ Below w.heap.size w wr ∧
    done.length ≤ 8 ∧ Hid (done.all nameS = true) ∧ Hid (CutInv s done b pos)
/-- Where the range stands: a full stop, or other bytes. -/
theorem dot_rune {s : ByteArray} {pos R K : Nat} {hp : pos < (dotS s).size} (r : AtRune (dotS s) pos hp R K) :
    (R = 46 → K = 1 ∧ ∀ (hj : pos < s.size), s[pos] = 46) ∧ (R ≠ 46 → pos + K ≤ s.size ∧ ∀ j (hj : j < s.size), pos ≤ j → j < pos + K → s[j] ≠ 46) := by
  rcases r with ⟨h1, h2, h3⟩ | ⟨h1, h2, h3, h4, h5⟩
  · refine ⟨fun h => ⟨h2, fun hj => ?_⟩, fun h => ⟨?_, fun j hj a b => ?_⟩⟩
    · rw [dotS_at s pos hj hp] at h1
      exact UInt8.toNat_inj.1 (by rw [← h1, h]; rfl)
    · have hs := dotS_size s
      by_cases e : pos = s.size
      · subst e
        have g := get_data (dotS s) s.size hp
        rw [dotS_data, List.getElem?_append_right (by rw [len_data]; exact Nat.le_refl _), len_data, Nat.sub_self] at g
        rw [← Option.some.inj g] at h1
        exact absurd h1 h
      · omega
    · obtain rfl : j = pos := by omega
      rw [dotS_at s j hj hp] at h1
      intro e
      rw [e] at h1
      exact h h1
  · refine ⟨fun h => by omega, fun _ => ⟨?_, fun j hj a b e => ?_⟩⟩
    · have hs := dotS_size s
      by_cases e : pos + K = s.size + 1
      · have hx := h5 s.size (by omega) (by omega) (by omega)
        have g := get_data (dotS s) s.size (by omega)
        rw [dotS_data, List.getElem?_append_right (by rw [len_data]; exact Nat.le_refl _), len_data, Nat.sub_self] at g
        rw [← Option.some.inj g] at hx
        exact absurd hx (by decide)
      · omega
    · have hx := h5 j a b (by rw [dotS_size]; omega)
      rw [dotS_at s j hj (by rw [dotS_size]; omega), e] at hx
      exact absurd hx (by decide)

theorem spl_next {s : ByteArray} {w W1 w1 : World} {o : Obj} {v v' : Value} {pos b : Nat} {done : List ByteArray} (hps : pos ≤ s.size)
    (HS : Hid (CutInv s (done ++ [s.extract b pos]) (pos + 1) (pos + 1) ∧ ∃ rest, cuts s = done ++ s.extract b pos :: rest)) (hall : Hid (done.all nameS = true)) (hnm : Hid (nameS (s.extract b pos) = true)) (h8 : done.length + 1 ≤ 8)
    (hit : W1.heap[w.heap.size]? = some (.stringIter (dotS s) (pos + 1))) (hown : W1.ownsRow w.heap.size 9 1 v done.length (done.map Value.string)) (hbw : Below w.heap.size w W1)
    (hown' : w1.ownsRow w.heap.size 9 1 v' (done.length + 1) (done.map Value.string ++ [.string (s.extract b pos)])) (hgrow : (W1.alloc o).grownBy w1 v.ownBlock) :
    SplInv s w v' (.int .i64 ((pos : Int) + 1)) w1 ∧ s.size + 1 - w1.iterPos w.heap.size < s.size + 1 - pos := by
  have hIT := iter_lt hit
  have hit' : w1.heap[w.heap.size]? = some (.stringIter (dotS s) (pos + 1)) :=
    (hgrow.block w.heap.size (by simp; omega) (own_ne_iter hown hit)).trans ((Below.heap_alloc _ _ _ hIT).trans hit)
  refine ⟨⟨pos + 1, pos + 1, done ++ [s.extract b pos], rfl, hit', ?_, ?_, by simpa using h8, ?_, HS.out.1⟩, by rw [iterPos_of hit']; omega⟩
  · rw [List.length_append, List.map_append]; exact hown'
  · exact (hbw.alloc hbw.size _).grown hgrow (by have := hbw.size; simp; omega) (fun j hj => (hown.lt j hj).1)
  · show _ = _
    rw [List.all_append, hall.out]
    simp only [List.all_cons, List.all_nil, Bool.and_true, Bool.true_and]
    exact hnm.out

set_option maxHeartbeats 2000000 in
set_option maxRecDepth 100000 in
theorem split_any (s : ByteArray) (w : World) : Calls Try.prog 16 #[.string s] w (SplEnd w (splL s) (splE s)) := by
  by_cases h1 : 64 < s.size
  · have E := Lib.hid (id_long h1)
    have h1' : (64 : Int) < (s.size : Int) := by omega
    clear h1
    go_enter Try.func16, Try.ntmps16
    go_wp2_with fail
    go_ret2
    exact spl_end_no E.out (Below.refl _ _)
  · have h1' : (s.size : Int) ≤ 64 := by omega
    have hsz : s.size + 1 ≤ 9223372036854775807 := by omega
    obtain ⟨i0, hi, hz0, hz1, hz2⟩ := info_parts info_str
    have hT : (Op.stringOp .add s ⟨#[46]⟩).run Try.prog w = .ok (.string (dotS s)) w := run_string_add_sum w s ⟨#[46]⟩ hsz
    go_enter Try.func16, Try.ntmps16
    go_wp2_with fail
    go_loopw [2, 4, 5, 6] (fun l bg a c wr => SplInv s w l bg wr) (fun _ _ _ _ wr => s.size + 1 - wr.iterPos w.heap.size)
    case atStart => exact ⟨0, 0, [], rfl, World.iter_heap w (dotS s) 0, World.ownsRow_nil _ _ _ _, (Below.refl _ _).alloc (Nat.le_refl _) _, by simp, rfl, CutInv.start s⟩
    case round =>
      obtain ⟨pos, b, done, rfl, hit, hown, hbw, hd8, hall, hcut⟩ := hrel
      by_cases hp : pos < (dotS s).size
      · have hnx : ∀ ty, (Instr.next (.pointer (some ⟨w.heap.size, 0, none⟩)) true ty).run Try.prog wr = _ := fun ty => Lib.run_next_any_at wr w.heap.size (dotS s) pos ty hit hp
        have hr := atRune (dotS s) pos hp
        obtain ⟨R, hR⟩ : ∃ R, (Utf8.decode (dotS s) pos).1 = R := ⟨_, rfl⟩
        obtain ⟨K, hK⟩ : ∃ K, (Utf8.decode (dotS s) pos).2 = K := ⟨_, rfl⟩
        rw [hR, hK] at hr hnx
        clear hR hK
        have hps : pos ≤ s.size := by rw [dotS_size] at hp; omega
        have hit2 := Lib.iterAt_heap wr w.heap.size (dotS s) pos (pos + K) hit
        have hbw2 := Lib.below_iterAt hbw (k := w.heap.size) (Nat.le_refl _) (dotS s) (pos + K)
        have hown2 := own_iterAt hown hit (pos + K)
        have hm0 : wr.iterPos w.heap.size = pos := iterPos_of hit
        have hd := dot_rune hr
        have hK1 := hr.adv
        obtain ⟨W, hWd⟩ : ∃ W, wr.iterAt w.heap.size (dotS s) (pos + K) = W := ⟨_, rfl⟩
        rw [hWd] at hnx hit2 hbw2 hown2
        rw [hm0]
        clear hown hbw hr hWd hm0 hit
        by_cases h46 : R = 46
        · subst h46
          obtain ⟨rfl, hdot⟩ := hd.1 rfl
          have hstep := hcut.out.dot (by rw [dotS_size] at hp; exact hp) hdot
          have hbp : b ≤ pos := hcut.out.1
          have HS := Lib.hid hstep
          clear hd hdot hstep hcut
          obtain ⟨p, c, rfl⟩ := own_slice hown2
          by_cases h8 : done.length = 8
          · have E := Lib.hid (id_many HS.out.2 h8)
            go_wp2_with fail
            go_ret2
            exact spl_end_no E.out hbw2
          · obtain ⟨B, hB⟩ : ∃ B, nameS (s.extract b pos) = B := ⟨_, rfl⟩
            have cN : Hid (∀ W, Calls Try.prog 12 #[.string (s.extract b pos)] W fun e w' => e = .returned (.bool B) ∧ Below W.heap.size W w') := fun W => by rw [← hB]; exact isName_any _ W
            have h8' : ((done.length : Int) == 8) = false := by simp; omega
            cases B
            · have E := Lib.hid (id_name HS.out.2 hB)
              clear hB
              go_wp2_with fail
              refine (cN.out _).mono ?_; rintro e W1 ⟨rfl, b1⟩
              go_wp2_with fail
              go_ret2
              exact spl_end_no E.out (hbw2.trans (b1.mono hbw2.size))
            · have hnm := Lib.hid hB
              clear hB
              go_wp2_with fail
              refine (cN.out _).mono ?_; rintro e W1 ⟨rfl, b1⟩
              have hown3 := own_below hown2 b1
              have hit3 := (b1.block _ (iter_lt hit2)).trans hit2
              have hbw3 := hbw2.trans (b1.mono hbw2.size)
              clear hown2 hit2 hbw2 b1 hnx cN
              go_wp2_with (at_builtin; refine wpList_append_own _ rfl _ _ 24 rfl w.heap.size 9 i0 (.string ⟨#[]⟩) 1 16 Try.underlying24 hi hz0 hz1 hz2 rfl (by decide) _ _ _ rfl (hown3.alloc _) ⟨W1.heap.size, 0, none⟩ 1 1 [.string (s.extract b pos)] rfl rfl ?c1 ?c2 ?c3 ?c4 ?c5 ?_)
              case c1 =>
                intro j u hj
                match j, hj with
                | 0, hj => simp at hj; subst hj; simp [Addr.add]
              case c2 => intro u hu; simp at hu; subst hu; rfl
              case c3 => unfold maxLen; omega
              case c4 => omega
              case c5 => have := hbw3.size; simp; omega
              intro v' w1 hown' hgrow _
              go_wp2_with fail
              exact spl_next hps HS hall hnm (by omega) hit3 hown3 hbw3 hown' hgrow
        · obtain ⟨hle, hno⟩ := hd.2 h46
          have HC := Lib.hid (hcut.out.skip hle hno)
          have h46' : ((R : Int) == 46) = false := by simp; omega
          clear hno hd hcut h46
          go_wp2_with fail
          exact ⟨⟨pos + K, b, done, rfl, hit2, hown2, hbw2, hd8, hall, HC.out⟩, by rw [iterPos_of hit2]; omega⟩
      · have hnx : ∀ ty, (Instr.next (.pointer (some ⟨w.heap.size, 0, none⟩)) true ty).run Try.prog wr = _ := fun ty => Lib.run_next_end_at wr w.heap.size (dotS s) pos ty hit hp
        have hc := hcut.out.last (by rw [dotS_size] at hp; omega)
        have E := Lib.hid (id_good hc (by omega) hd8 hall.out)
        have HC := Lib.hid hc
        clear hc hcut hall
        go_wp2_with fail
        go_ret2
        exact spl_end_ok E.out HC.out hown hbw
end Go.Proofs.Ythfchgifkalfdaa.Id
