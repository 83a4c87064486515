/-
  Rows of words in a block: read, written, and turned from one number's digits into another's.
-/
import Derived.Test.YtnpgikjahfhaoaaWMath
import Derived.Test.YtnpgikjahfhaoaaProg
import Derived.WalkKit
import Derived.WalkSpells
import Derived.WalkLawsBesides
import Derived.BigQuiet
import Derived.Deep.QuietTactic
import Derived.Deep.CutRange
import Derived.Deep.DeepCutAuto
import Derived.Lib.Hide
import Derived.Below
import Derived.Laws.Rows
import Derived.Laws.Tables
import Derived.Laws.ResultCell
import Derived.IntWalk
import Derived.Lib.Mul64
namespace Go.Proofs.Ytnpgikjahfhaoaa
open Go.RowKit Go.Proofs.WM

theorem val_u64 {a b : Int} (h : a = b) : Value.int .u64 a = .int .u64 b := by rw [h]
theorem val_i64 {a b : Int} (h : a = b) : Value.int .i64 a = .int .i64 b := by rw [h]
theorem ret_of {a b : Value} (h : a = b) : Ending.returned a = .returned b := by rw [h]
abbrev magL (n : Nat) : Array Value := #[.int .u64 ((wd n 0 : Nat) : Int), .int .u64 ((wd n 1 : Nat) : Int), .int .u64 ((wd n 2 : Nat) : Int), .int .u64 ((wd n 3 : Nat) : Int)]
abbrev halL (n : Nat) : Array Value := #[.int .u64 ((hw n 0 : Nat) : Int), .int .u64 ((hw n 1 : Nat) : Int), .int .u64 ((hw n 2 : Nat) : Int), .int .u64 ((hw n 3 : Nat) : Int), .int .u64 ((hw n 4 : Nat) : Int), .int .u64 ((hw n 5 : Nat) : Int), .int .u64 ((hw n 6 : Nat) : Int), .int .u64 ((hw n 7 : Nat) : Int)]
abbrev widL (s : Bool) (n : Nat) : Array Value := #[.bool s, .int .u64 ((wd n 0 : Nat) : Int), .int .u64 ((wd n 1 : Nat) : Int), .int .u64 ((wd n 2 : Nat) : Int), .int .u64 ((wd n 3 : Nat) : Int)]
theorem wraps_u64 (n : Int) (h0 : 0 ≤ n) (h1 : n < 2 ^ 64) : IntKind.u64.wrap n = n := by rw [IntKind.wrap_u64]; omega
theorem wrap_in (n : Int) (h0 : 0 ≤ n) (h1 : n < 18446744073709551616) : IntKind.u64.wrap n = n := by rw [IntKind.wrap_u64]; omega
theorem or_half (x b : Int) (h0 : 0 ≤ x) (h : x % 4294967296 = 0) (h1 : x < 18446744073709551616) (h2 : 0 ≤ b) (h3 : b < 4294967296) : bits .or .u64 x b = x + b :=
  bits_join .u64 64 (by decide) wraps_u64 32 x b h0 (by omega) (by omega) h2 (by omega) (by omega)
theorem or_bit (x b : Int) (h0 : 0 ≤ x) (h : x % 2 = 0) (h1 : x < 18446744073709551616) (h2 : 0 ≤ b) (h3 : b < 2) : bits .or .u64 x b = x + b :=
  bits_join .u64 64 (by decide) wraps_u64 1 x b h0 (by omega) (by omega) h2 (by omega) (by omega)
theorem or_top (x b : Int) (h0 : 0 ≤ x) (h : x % 9223372036854775808 = 0) (h1 : x < 18446744073709551616) (h2 : 0 ≤ b) (h3 : b < 9223372036854775808) : bits .or .u64 x b = x + b :=
  bits_join .u64 64 (by decide) wraps_u64 63 x b h0 (by omega) (by omega) h2 (by omega) (by omega)
theorem or_comm (x b : Int) : bits .or .u64 x b = bits .or .u64 b x := by
  show IntKind.u64.wrap ((BitVec.ofInt 64 x ||| BitVec.ofInt 64 b).toNat : Nat) = IntKind.u64.wrap ((BitVec.ofInt 64 b ||| BitVec.ofInt 64 x).toNat : Nat)
  rw [BitVec.or_comm]
/-- k words, word i at f i. -/
def rowF (k : Nat) (f : Nat → Nat) : Array Value := ((List.range k).map fun i => Value.int .u64 ((f i : Nat) : Int)).toArray
theorem rowF4 (n : Nat) : rowF 4 (wd n) = magL n := rfl
theorem rowF8 (n : Nat) : rowF 8 (hw n) = halL n := rfl
theorem rowF_at {k : Nat} (f : Nat → Nat) {i : Nat} (h : i < k) : (rowF k f)[i]? = some (.int .u64 ((f i : Nat) : Int)) := by
  unfold rowF
  rw [List.getElem?_toArray]
  simp [h]
theorem rowF_size (k : Nat) (f : Nat → Nat) : (rowF k f).size = k := by simp [rowF]
theorem rowF_same (k : Nat) (f g : Nat → Nat) : (rowF k f).size = (rowF k g).size := by rw [rowF_size, rowF_size]
theorem rowF_ext {k : Nat} {f g : Nat → Nat} (h : ∀ i, i < k → f i = g i) : rowF k f = rowF k g := by
  unfold rowF
  congr 1
  refine List.map_congr_left fun i hi => ?_
  rw [h i (by simpa using hi)]
def put (f : Nat → Nat) (i v : Nat) : Nat → Nat := fun j => if j = i then v else f j
theorem rowF_set {k : Nat} (f : Nat → Nat) (i v : Nat) : (rowF k f).setIfInBounds i (.int .u64 ((v : Nat) : Int)) = rowF k (put f i v) := by
  apply Array.ext_getElem?
  intro j
  rw [Array.getElem?_setIfInBounds]
  by_cases hj : j < k
  · rw [rowF_at (put f i v) hj]
    unfold put
    by_cases h : i = j
    · subst h
      simp [rowF_size, hj]
    · rw [if_neg h, if_neg (fun e => h e.symm), rowF_at _ hj]
  · have h1 : ∀ f, (rowF k f)[j]? = none := fun f => Array.getElem?_eq_none (by rw [rowF_size]; omega)
    rw [h1, h1, rowF_size]
    by_cases h : i = j
    · subst h
      simp [hj]
    · rw [if_neg h]
theorem rowF_one {k : Nat} (f : Nat → Nat) : ∀ v ∈ (rowF k f).toList, v.oneCell' = true := by
  intro v hv
  simp [rowF] at hv
  obtain ⟨i, _, rfl⟩ := hv
  rfl
/-- The digits of f below i, those of g from i on. -/
def mix (i : Nat) (f g : Nat → Nat) : Nat → Nat := fun j => if j < i then f j else g j
theorem mix_put (i : Nat) (f g : Nat → Nat) : put (mix i f g) i (f i) = mix (i + 1) f g := by
  funext j
  unfold put mix
  by_cases h : j = i
  · rw [if_pos h, if_pos (by omega), h]
  · rw [if_neg h]
    by_cases h2 : j < i
    · rw [if_pos h2, if_pos (by omega)]
    · rw [if_neg h2, if_neg (by omega)]
theorem mix_at (i : Nat) (f g : Nat → Nat) : mix i f g i = g i := by unfold mix; rw [if_neg (by omega)]
theorem mix_zero (f g : Nat → Nat) : mix 0 f g = g := by funext j; simp [mix]
theorem rowF_full {k : Nat} (f g : Nat → Nat) : rowF k (mix k f g) = rowF k f := rowF_ext fun i hi => by unfold mix; rw [if_pos hi]
/-- The digits of g below i, those of f from i on. -/
theorem mix_put_down (i : Nat) (f g : Nat → Nat) : put (mix (i + 1) g f) i (f i) = mix i g f := by
  funext j
  unfold put mix
  by_cases h : j = i
  · rw [if_pos h, if_neg (by omega), h]
  · rw [if_neg h]
    by_cases h2 : j < i
    · rw [if_pos h2, if_pos (by omega)]
    · rw [if_neg h2, if_neg (by omega)]

def Blk (w : World) (g : Nat) (t : TypeId) (cs : Array Value) : Prop := w.heap[g]? = some (.cells cs t (0, 0))
theorem Blk.cell {w : World} {g : Nat} {t : TypeId} {cs : Array Value} (h : Blk w g t cs) (i : Nat) : w.cell? ⟨g, i, none⟩ = cs[i]? := cell_of_row w g i cs t (0, 0) h
theorem Blk.at_ {w : World} {g : Nat} {t : TypeId} {k : Nat} {f : Nat → Nat} (h : Blk w g t (rowF k f)) {i : Nat} (hi : i < k) : w.cell? ⟨g, i, none⟩ = some (.int .u64 ((f i : Nat) : Int)) := by
  rw [h.cell, rowF_at f hi]
theorem Blk.frozen {w : World} {g : Nat} {t : TypeId} {cs : Array Value} (h : Blk w g t cs) (i : Nat) : w.frozen? ⟨g, i, none⟩ = false := by
  unfold Blk at h
  simp [World.frozen?, h]
theorem Blk.new (w : World) (t : TypeId) (cs : Array Value) : Blk (w.alloc (.cells cs t)) w.heap.size t cs := heap_alloc_new w _
theorem Blk.newAt {w : World} {g : Nat} (h : g = w.heap.size) (t : TypeId) (cs : Array Value) : Blk (w.alloc (.cells cs t)) g t cs := by rw [h]; exact Blk.new w t cs
theorem Blk.old {w : World} {g : Nat} {t : TypeId} {cs : Array Value} (h : Blk w g t cs) (o : Obj) : Blk (w.alloc o) g t cs := by
  unfold Blk at h ⊢
  rw [Below.heap_alloc _ _ _ (Array.getElem?_eq_some_iff.1 h).1]
  exact h
theorem Blk.lt {w : World} {g : Nat} {t : TypeId} {cs : Array Value} (h : Blk w g t cs) : g < w.heap.size := (Array.getElem?_eq_some_iff.1 h).1
theorem Blk.set_ {w : World} {g : Nat} {t : TypeId} {cs : Array Value} (h : Blk w g t cs) (i : Nat) (u : Value) : Blk (w.setCell ⟨g, i, none⟩ u) g t (cs.setIfInBounds i u) := by
  unfold Blk at h ⊢
  simp [World.setCell, Array.getElem?_modify, h]
theorem Blk.other {w : World} {g : Nat} {t : TypeId} {cs : Array Value} (h : Blk w g t cs) {p : Addr} (hp : g ≠ p.block) (u : Value) : Blk (w.setCell p u) g t cs := by
  unfold Blk at h ⊢
  rw [heap_setCell_other _ _ _ _ hp]
  exact h
theorem Blk.below {w w1 : World} {g : Nat} {t : TypeId} {cs : Array Value} (h : Blk w g t cs) (hb : Below w.heap.size w w1) : Blk w1 g t cs := by
  unfold Blk at h ⊢
  rw [hb.block g (Array.getElem?_eq_some_iff.1 h).1]
  exact h
theorem Blk.drew {w : World} {g : Nat} {t : TypeId} {cs : Array Value} (h : Blk w g t cs) : Blk w.drew g t cs := h
theorem Blk.row {w : World} {g : Nat} {t : TypeId} {cs : Array Value} (h : Blk w g t cs) (cs' : Array Value) : Blk (w.setRow g cs') g t cs' := setRow_heap w g cs cs' t (0, 0) h
theorem Blk.rowOther {w : World} {g k : Nat} {t : TypeId} {cs : Array Value} (h : Blk w g t cs) (hk : g ≠ k) (cs' : Array Value) : Blk (w.setRow k cs') g t cs := by
  unfold Blk at h ⊢
  rw [setRow_other _ _ _ _ hk]
  exact h
theorem Blk.of_eq {w : World} {g : Nat} {t : TypeId} {a b : Array Value} (h : Blk w g t a) (e : a = b) : Blk w g t b := e ▸ h
theorem rowF_ones (k : Nat) (f : Nat → Nat) : (rowF k f).all (·.oneCell') = true := by
  rw [Array.all_eq_true_iff_forall_mem]
  intro v hv
  exact rowF_one f v (by simpa using hv)
theorem below_row {a w : World} {B g : Nat} (h : Below B a w) (hg : B ≤ g) (cs : Array Value) : Below B a (w.setRow g cs) :=
  h.trans ⟨rfl, rfl, rfl, by simp, fun k hk => setRow_other _ _ _ _ (by omega)⟩
theorem mix_past (i j : Nat) (f g : Nat → Nat) (h : i ≤ j) : mix i f g j = g j := by unfold mix; rw [if_neg (by omega)]
theorem mix_under (i j : Nat) (f g : Nat → Nat) (h : j < i) : mix i f g j = f j := by unfold mix; rw [if_pos h]
theorem widL_at (s : Bool) (n : Nat) {k : Nat} (h : k < 4) : (widL s n)[1 + k]? = some (.int .u64 ((wd n k : Nat) : Int)) := by
  match k, h with
  | 0, _ => rfl
  | 1, _ => rfl
  | 2, _ => rfl
  | 3, _ => rfl
/-- The cells of a wide number with sign b, word i at f i. -/
def widF (b : Bool) (f : Nat → Nat) : Array Value := #[.bool b] ++ rowF 4 f
theorem widF_wd (b : Bool) (n : Nat) : widF b (wd n) = widL b n := rfl
theorem widF_size (b : Bool) (f : Nat → Nat) : (widF b f).size = 5 := by simp [widF, rowF_size]
theorem widF_same (b c : Bool) (f g : Nat → Nat) : (widF b f).size = (widF c g).size := by rw [widF_size, widF_size]
theorem widF_zero (b : Bool) (f : Nat → Nat) : (widF b f)[0]? = some (.bool b) := rfl
theorem widF_at (b : Bool) (f : Nat → Nat) {k : Nat} (h : k < 4) : (widF b f)[1 + k]? = some (.int .u64 ((f k : Nat) : Int)) := by
  match k, h with
  | 0, _ => rfl
  | 1, _ => rfl
  | 2, _ => rfl
  | 3, _ => rfl
theorem widF_set0 (b c : Bool) (f : Nat → Nat) : (widF b f).setIfInBounds 0 (.bool c) = widF c f := rfl
theorem widF_set (b : Bool) (f : Nat → Nat) (k v : Nat) : (widF b f).setIfInBounds (1 + k) (.int .u64 ((v : Nat) : Int)) = widF b (put f k v) := by
  unfold widF
  rw [Array.setIfInBounds_append_right (by simp), ← rowF_set]
  simp
theorem widF_ones (b : Bool) (f : Nat → Nat) : (widF b f).all (·.oneCell') = true := by
  unfold widF
  rw [Array.all_append, rowF_ones]
  simp [Value.oneCell']
/-- The result cell holds a row. -/
theorem gives_row {P : Program} {fn : Func} {p : Tmp} {ty : TypeId} (h : fn.results = #[.cell p ty]) {a : Act} {w : World} (g : Nat) (t : TypeId) (cs : Array Value) (d : TypeDesc)
    (hp : a.tmps.getD p undef = .pointer (some ⟨g, 0, none⟩)) (hg : Blk w g t cs) (hu : P.underlying ty = some d) (hd : (match d with | .struct _ | .array _ _ => true | _ => false) = true) (hi : (P.info? ty).map (·.size) = some cs.size)
    (hdf : a.defers = []) {R : Ending → World → Prop} (hR : R (.returned (.agg cs)) w) : bodyPost P fn R .ret a w :=
  bodyPost_ret (v := .agg cs) (results_cell_row h a.tmps w g t cs (0, 0) d hp hg hu hd hi) hdf hR
/-- The result cell holds a row, the second result lies in a slot. -/
theorem gives_row_tmp {P : Program} {fn : Func} {p u : Tmp} {ty : TypeId} (h : fn.results = #[.cell p ty, .tmp u]) {a : Act} {w : World} (g : Nat) (t : TypeId) (cs : Array Value) (d : TypeDesc) (v : Value)
    (hp : a.tmps.getD p undef = .pointer (some ⟨g, 0, none⟩)) (hv : a.tmps.getD u undef = v) (hg : Blk w g t cs) (hu : P.underlying ty = some d) (hd : (match d with | .struct _ | .array _ _ => true | _ => false) = true) (hi : (P.info? ty).map (·.size) = some cs.size)
    (hdf : a.defers = []) {R : Ending → World → Prop} (hR : R (.returned (.tuple #[.agg cs, v])) w) : bodyPost P fn R .ret a w := by
  refine bodyPost_ret (v := .tuple #[.agg cs, v]) ?_ hdf hR
  have hl := run_loadVar_row (P := P) w g t ty cs (0, 0) d hg hu hd hi
  rw [results_cell_tmp h]
  simp only [hp, hv, asAddr, Sem.run_pure, Result.andThen, hl]
/-- Two result cells hold rows. -/
theorem gives_rows {P : Program} {fn : Func} {p q : Tmp} {ty tz : TypeId} (h : fn.results = #[.cell p ty, .cell q tz]) {a : Act} {w : World} (g k : Nat) (t s : TypeId) (cs ds : Array Value) (d e : TypeDesc)
    (hp : a.tmps.getD p undef = .pointer (some ⟨g, 0, none⟩)) (hq : a.tmps.getD q undef = .pointer (some ⟨k, 0, none⟩)) (hg : Blk w g t cs) (hk : Blk w k s ds)
    (hu : P.underlying ty = some d) (hd : (match d with | .struct _ | .array _ _ => true | _ => false) = true) (hi : (P.info? ty).map (·.size) = some cs.size)
    (hu2 : P.underlying tz = some e) (hd2 : (match e with | .struct _ | .array _ _ => true | _ => false) = true) (hi2 : (P.info? tz).map (·.size) = some ds.size)
    (hdf : a.defers = []) {R : Ending → World → Prop} (hR : R (.returned (.tuple #[.agg cs, .agg ds])) w) : bodyPost P fn R .ret a w := by
  refine bodyPost_ret (v := .tuple #[.agg cs, .agg ds]) ?_ hdf hR
  have hl := run_loadVar_row (P := P) w g t ty cs (0, 0) d hg hu hd hi
  have hm := run_loadVar_row (P := P) w k s tz ds (0, 0) e hk hu2 hd2 hi2
  have hp' : a.tmps[p]?.getD undef = .pointer (some ⟨g, 0, none⟩) := by simpa using hp
  have hq' : a.tmps[q]?.getD undef = .pointer (some ⟨k, 0, none⟩) := by simpa using hq
  simp only [results, h]
  simp [Sem.run_bind, Result.andThen, asAddr, hp', hq', hl, hm]
theorem bcell {W w1 : World} (hb : Below W.heap.size W w1) : (∀ b o, b < W.heap.size → w1.cell? ⟨b, o, none⟩ = W.cell? ⟨b, o, none⟩) ∧ (∀ b o, b < W.heap.size → w1.frozen? ⟨b, o, none⟩ = W.frozen? ⟨b, o, none⟩) :=
  ⟨fun b o h => hb.cell (p := ⟨b, o, none⟩) h, fun b o h => hb.frozen (p := ⟨b, o, none⟩) h⟩
theorem cell_below {W w1 : World} {b o : Nat} {v : Value} (hb : Below W.heap.size W w1) (h : W.cell? ⟨b, o, none⟩ = some v) : w1.cell? ⟨b, o, none⟩ = some v := by
  rw [hb.cell (p := ⟨b, o, none⟩) (block_lt_of_cell h)]
  exact h
end Go.Proofs.Ytnpgikjahfhaoaa
