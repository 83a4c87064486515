/-
  Contracts of the reference of layer 7: number, one.
-/
import Derived.Test.YtdpnmlgadieamaaLxR3
import Derived.Laws.ResultCell
import Derived.Laws.Tables
namespace Go.Proofs.Ytdpnmlgadieamaa.Lx
open Go.RowKit

abbrev lxL (k : Int) (t : ByteArray) (n : Int) (a : Int) : Array Value := #[.int .i64 k, .string t, .int .i64 n, .int .i64 a]
theorem info_lex : (Try.prog.info? 35).map (·.size) = some 4 := by kernel_rfl
/-- A lexeme and an error. -/
def NuEnd (k : Int) (t : ByteArray) (n a x : Int) (w : World) (e : Ending) (w' : World) : Prop := e = .returned (.tuple #[.agg (lxL k t n a), .int .i64 x]) ∧ Below w.heap.size w w'
theorem nu_ret {a : Act} {w W : World} (g : Nat) (k : Int) (t : ByteArray) (n p x : Int) (hp : a.tmps.getD 4 undef = .pointer (some ⟨g, 0, none⟩)) (hv : a.tmps.getD 5 undef = .int .i64 x)
    (hg : Blk W g 35 (lxL k t n p)) (hB : Below w.heap.size w W) (hdf : a.defers = []) : bodyPost Try.prog Try.f42 (NuEnd k t n p x w) .ret a W := by
  refine bodyPost_ret (v := .tuple #[.agg (lxL k t n p), .int .i64 x]) ?_ hdf ⟨rfl, hB⟩
  have hl := run_loadVar_row (P := Try.prog) W g 35 35 (lxL k t n p) (0, 0) _ hg Try.underlying35 rfl info_lex
  rw [results_cell_tmp rfl]
  simp only [hp, hv, asAddr, Sem.run_pure, Result.andThen, hl]
theorem blk_old {w : World} {g : Nat} {t : TypeId} {cs : Array Value} (h : Blk w g t cs) (o : Obj) : Blk (w.alloc o) g t cs := by
  unfold Blk at h ⊢
  rw [Below.heap_alloc _ _ _ (Array.getElem?_eq_some_iff.1 h).1]
  exact h
theorem blk_below {w w1 : World} {g : Nat} {t : TypeId} {cs : Array Value} (h : Blk w g t cs) (hb : Below w.heap.size w w1) : Blk w1 g t cs := by
  unfold Blk at h ⊢
  rw [hb.block g (Array.getElem?_eq_some_iff.1 h).1]
  exact h
theorem blk_row {w : World} {g : Nat} {t : TypeId} {cs : Array Value} (h : Blk w g t cs) (cs' : Array Value) : Blk (w.setRow g cs') g t cs' := setRow_heap w g cs cs' t (0, 0) h
theorem blk_far {w : World} {g k : Nat} {t : TypeId} {cs : Array Value} (h : Blk w g t cs) (hk : g ≠ k) (cs' : Array Value) : Blk (w.setRow k cs') g t cs := by
  unfold Blk at h ⊢
  rw [setRow_other _ _ _ _ hk]
  exact h
theorem blk_lt {w : World} {g : Nat} {t : TypeId} {cs : Array Value} (h : Blk w g t cs) : g < w.heap.size := (Array.getElem?_eq_some_iff.1 h).1
theorem below_row {a w : World} {B g : Nat} (h : Below B a w) (hg : B ≤ g) (cs : Array Value) : Below B a (w.setRow g cs) :=
  h.trans ⟨rfl, rfl, rfl, by simp, fun k hk => setRow_other _ _ _ _ (by omega)⟩
theorem blk_set4 {W : World} {g : Nat} {c0 c1 c2 c3 : Value} {T : TypeId} (h : Blk W g T #[c0, c1, c2, c3]) (v0 v1 v2 v3 : Value) :
    Blk ((((W.setCell ⟨g, 0, none⟩ v0).setCell ⟨g, 1, none⟩ v1).setCell ⟨g, 2, none⟩ v2).setCell ⟨g, 3, none⟩ v3) g T #[v0, v1, v2, v3] := by
  unfold Blk at h ⊢
  simp [World.setCell, Array.getElem?_modify, h]
theorem below4 {w W : World} {g : Nat} (hB : Below w.heap.size w W) (hb : w.heap.size ≤ g) (v0 v1 v2 v3 : Value) :
    Below w.heap.size w ((((W.setCell ⟨g, 0, none⟩ v0).setCell ⟨g, 1, none⟩ v1).setCell ⟨g, 2, none⟩ v2).setCell ⟨g, 3, none⟩ v3) :=
  (((hB.setCell (p := ⟨g, 0, none⟩) hb _).setCell (p := ⟨g, 1, none⟩) hb _).setCell (p := ⟨g, 2, none⟩) hb _).setCell (p := ⟨g, 3, none⟩) hb _
abbrev lx0 : Array Value := #[.int .i64 0, .string ⟨#[]⟩, .int .i64 0, .int .i64 0]
abbrev lxO : Obj := .cells #[.int .i64 0, .string ⟨#[]⟩, .int .i64 0, .int .i64 0] 35
theorem lx_ones (k : Int) (t : ByteArray) (n a : Int) : (lxL k t n a).all (·.oneCell') = true := by simp [Value.oneCell']
theorem lx_size (k : Int) (t : ByteArray) (n a : Int) : (Try.prog.info? 35).map (·.size) = some (lxL k t n a).size := info_lex
/-- The digits from a place on. -/
theorem dg_step {s : ByteArray} {a b k : Nat} (h : a < s.size) (hn : digN s[a].toNat = true) (e : (dgL (rest s b)).length = k + (dgL (rest s a)).length) : (dgL (rest s b)).length = k + 1 + (dgL (rest s (a + 1))).length := by
  rw [e, rest_at h, dgL, if_pos hn, List.length_cons]; omega
theorem dg_stop {s : ByteArray} {a b k : Nat} (h : a < s.size) (hn : digN s[a].toNat = false) (e : (dgL (rest s b)).length = k + (dgL (rest s a)).length) : k = (dgL (rest s b)).length := by
  rw [rest_at h, dgL, if_neg (by rw [hn]; decide)] at e
  rw [e]; rfl
theorem dg_out {s : ByteArray} {a b k : Nat} (h : a = s.size) (e : (dgL (rest s b)).length = k + (dgL (rest s a)).length) : k = (dgL (rest s b)).length := by
  rw [rest_end (Nat.le_of_eq h.symm)] at e
  rw [e]; rfl
theorem dg_cut (s : ByteArray) (b : Nat) : s.extract b (b + (dgL (rest s b)).length) = toS (dgL (rest s b)) := by rw [cut_is, dgL_take]
theorem nm_cut (s : ByteArray) (b : Nat) : s.extract b (nmA s b) = toS (nmL (rest s b)) := by unfold nmA; rw [cut_is, nmL_take]
set_option maxHeartbeats 2000000 in
set_option maxRecDepth 100000 in
theorem rnumber_any (s : ByteArray) (b : Nat) (w : World) (hs : s.size ≤ 1000000) (hb : b ≤ s.size) : Calls Try.prog 42 #[.string s, .int .i64 (b : Int)] w (NuEnd 2 (toS (dgL (rest s b))) (parQ (dgL (rest s b))) (b : Int) (parE (dgL (rest s b))) w) := by
  have hs' : (s.size : Int) ≤ 1000000 := by omega
  have cd := Lib.hid (fun c w => rdigit_any c w)
  have hle := dgL_le (rest s b)
  rw [rest_len] at hle
  have cP := Lib.hid (fun w => refParse_any (toS (dgL (rest s b))) w (by rw [toS_size]; omega))
  have hcut := Lib.hid (dg_cut s b)
  have hz := Lib.hid (Blk.new w 35 lx0)
  have hB0 := Lib.hid ((Below.refl w.heap.size w).alloc (Nat.le_refl _) lxO)
  clear hle
  have hdata := data_toS (dgL (rest s b))
  generalize toS (dgL (rest s b)) = X at cP hcut hdata ⊢
  unfold ParEnd at cP
  rw [hdata] at cP
  clear hdata
  generalize parQ (dgL (rest s b)) = N at cP ⊢
  generalize parE (dgL (rest s b)) = E at cP ⊢
  go_enter Try.func42, Try.ntmps42
  go_wp2_with fail
  generalize w.alloc lxO = W1 at hz hB0 ⊢
  go_loopw [6] (fun x wr => ∃ k a : Nat, a = b + k ∧ x = .int .i64 (a : Int) ∧ a ≤ s.size ∧ W1 = wr ∧ Hid ((dgL (rest s b)).length = k + (dgL (rest s a)).length)) (fun x _ => s.size - (intOf x).toNat)
  case atStart => exact ⟨0, b, rfl, rfl, hb, by trivial, (Nat.zero_add _).symm⟩
  case round =>
    obtain ⟨k, a, hak, rfl, ha, rfl, he⟩ := hrel
    have fin : Hid (k = (dgL (rest s b)).length → (s.extract b a = X ∧ (b : Int) ≤ (a : Int))) := fun e => ⟨by rw [hak, e]; exact hcut.out, by omega⟩
    have HK := Lib.hid hak
    have hba : b ≤ a := by omega
    clear hak
    by_cases hlt : a < s.size
    · have hlt' : (a : Int) < (s.size : Int) := by omega
      obtain ⟨D, hdn⟩ : ∃ D, s[a].toNat = D := ⟨_, rfl⟩
      by_cases hd : digN D = true
      · have hn := Lib.hid (dg_step hlt (by rw [hdn]; exact hd) he.out)
        have c1 := Lib.hid (cd.out D)
        rw [hd] at c1
        clear he hd cd fin
        go_wp2_with (go_at_call 41; refine (c1.out _).mono ?_; rintro e w1 ⟨rfl, rfl⟩)
        exact ⟨⟨k + 1, a + 1, by have := HK.out; omega, rfl, hlt, by trivial, hn.out⟩, by simp [intOf]; omega⟩
      · have hd : digN D = false := by simpa using hd
        have hF := Lib.hid (fin.out (dg_stop hlt (by rw [hdn]; exact hd) he.out))
        have c1 := Lib.hid (cd.out D)
        rw [hd] at c1
        clear he hd cd fin
        have hx := hF.out.1
        have hba' : (b : Int) ≤ (a : Int) := hF.out.2
        have he := Lib.hid (blk_row hz.out (lxL 2 X N (b : Int)))
        have hB := Lib.hid (below_row hB0.out (Nat.le_refl _) (lxL 2 X N (b : Int)))
        clear hF hcut
        go_wp2_with (go_at_call 41; refine (c1.out _).mono ?_; rintro e w1 ⟨rfl, rfl⟩)
        refine (cP.out _).mono ?_; rintro e w2 ⟨rfl, rfl⟩
        go_wp2_with (refine wpList_store_row rfl 35 (.tmp 4) (.tmp 36) rfl w.heap.size (lxL 2 X N (b : Int)) rfl rfl 35 _ hz.out (lx_size _ _ _ _) rfl (lx_ones _ _ _ _) ?_)
        (try simp only [Exit.inBlock, Exit.then])
        exact nu_ret w.heap.size 2 X N (b : Int) E rfl rfl he.out hB.out rfl
    · obtain rfl : a = s.size := by omega
      have hlt' : ¬ (s.size : Int) < (s.size : Int) := by omega
      have hF := Lib.hid (fin.out (dg_out rfl he.out))
      clear he cd fin
      have hx := hF.out.1
      have hba' : (b : Int) ≤ (s.size : Int) := hF.out.2
      have he := Lib.hid (blk_row hz.out (lxL 2 X N (b : Int)))
      have hB := Lib.hid (below_row hB0.out (Nat.le_refl _) (lxL 2 X N (b : Int)))
      clear hF hcut
      go_wp2_with fail
      refine (cP.out _).mono ?_; rintro e w2 ⟨rfl, rfl⟩
      go_wp2_with (refine wpList_store_row rfl 35 (.tmp 4) (.tmp 36) rfl w.heap.size (lxL 2 X N (b : Int)) rfl rfl 35 _ hz.out (lx_size _ _ _ _) rfl (lx_ones _ _ _ _) ?_)
      (try simp only [Exit.inBlock, Exit.then])
      exact nu_ret w.heap.size 2 X N (b : Int) E rfl rfl he.out hB.out rfl
end Go.Proofs.Ytdpnmlgadieamaa.Lx
