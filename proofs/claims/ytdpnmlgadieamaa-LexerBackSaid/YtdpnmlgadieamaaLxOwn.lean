/-
  Bytes in a row of the call's own, appended and turned into a string (layer 7).
-/
import Derived.Test.YtdpnmlgadieamaaLxR1
import Derived.Laws.BytesArg
import Derived.Deep.Onto
import Derived.Deep.AppendLies
namespace Go.Proofs.Ytdpnmlgadieamaa.Lx
open Go.RowKit

def bytC (l : List UInt8) : List Value := l.map fun c => Value.int .u8 (c.toNat : Int)
theorem bytC_snoc (l : List UInt8) (c : UInt8) : bytC (l ++ [c]) = bytC l ++ [.int .u8 (c.toNat : Int)] := by unfold bytC; rw [List.map_append]; rfl
theorem bytC_app (l m : List UInt8) : bytC (l ++ m) = bytC l ++ bytC m := by unfold bytC; rw [List.map_append]
theorem bytC_one (l : List UInt8) : ∀ u ∈ bytC l, u.oneCell' = true := fun u hu => by
  unfold bytC at hu
  obtain ⟨n, _, rfl⟩ := List.mem_map.1 hu
  rfl
/-- The bytes l, in a row of the call's own. -/
def OwnB (w : World) (B : Nat) (v : Value) (l : List UInt8) : Prop := w.ownsRow B 5 1 v l.length (bytC l)
theorem OwnB.nil (w : World) (B : Nat) : OwnB w B (.slice none 0 0) [] := World.ownsRow_nil _ _ _ _
theorem OwnB.alloc {w : World} {B : Nat} {v : Value} {l : List UInt8} (h : OwnB w B v l) (o : Obj) : OwnB (w.alloc o) B v l := World.ownsRow.alloc h o
theorem OwnB.lt {w : World} {B : Nat} {v : Value} {l : List UInt8} (h : OwnB w B v l) : ∀ k, v.ownBlock = some k → B ≤ k := fun k hk => (World.ownsRow.lt h k hk).1
theorem OwnB.drewN {w : World} {B : Nat} {v : Value} {l : List UInt8} (h : OwnB w B v l) (n : Nat) : OwnB (w.drewN n) B v l := h
theorem OwnB.conv {w : World} {B : Nat} {v : Value} {l : List UInt8} (h : OwnB w B v l) : (convert 30 9 v).run Try.prog w = .ok (.string (toS l)) w := by
  have h' := h
  rcases h.2 with ⟨rfl, h0⟩ | ⟨g, cap, cur, rfl, -⟩
  · have : l = [] := List.eq_nil_of_length_eq_zero h0
    subst this
    exact run_convert_bytes_nil (w := w) 30 5 Try.underlying30 Try.underlying5 0 0 9 Try.underlying9
  · refine run_convert_bytes_back (P := Try.prog) w 30 9 5 ⟨g, 0, none⟩ cap l Try.underlying30 Try.underlying5 Try.underlying9 (fun j hj => ?_)
    refine World.ownsRow.cells h' rfl j _ ?_
    unfold bytC
    rw [List.getElem?_map, List.getElem?_eq_getElem hj]; rfl
theorem info_u8 : (Try.prog.info? 5).map (fun i => (i.zero, i.size, i.bytes)) = some (some (.int .u8 0), 1, 1) := by kernel_rfl
theorem news_in {W : World} (m : List UInt8) (T : TypeId) : ∀ j u, (bytC m)[j]? = some u → (W.alloc (.cells (bytC m).toArray T)).cell? ((⟨W.heap.size, 0, none⟩ : Addr).add j) = some u := fun j u hu => by
  rw [Go.WideShapes.add_plain, Nat.zero_add, World.cell?_alloc_mark W (bytC m).toArray T (0, 0) j]
  simpa using hu
theorem news1 (W : World) (x : Value) : ∀ j u, [x][j]? = some u → (W.alloc (.cells #[x] 5)).cell? ((⟨W.heap.size, 0, none⟩ : Addr).add j) = some u :=
  World.news_of_block (cs := #[x]) (t := 5) (fr := (0, 0)) (heap_alloc_new W _)
theorem news2 (W : World) (x y : Value) : ∀ j u, [x, y][j]? = some u → (W.alloc (.cells #[x, y] 5)).cell? ((⟨W.heap.size, 0, none⟩ : Addr).add j) = some u :=
  World.news_of_block (cs := #[x, y]) (t := 5) (fr := (0, 0)) (heap_alloc_new W _)
theorem ones1 (z : Int) : ∀ u ∈ [Value.int .u8 z], u.oneCell' = true := fun u hu => by simp at hu; subst hu; rfl
theorem ones2 (z y : Int) : ∀ u ∈ [Value.int .u8 z, Value.int .u8 y], u.oneCell' = true := fun u hu => by simp at hu; rcases hu with rfl | rfl <;> rfl
theorem room1 {n : Nat} (h : n ≤ 1000000) : n + 1 ≤ maxLen ∧ (n + 1) * 1 ≤ 140737488355328 := ⟨by unfold maxLen; omega, by omega⟩
theorem room2 {n : Nat} (h : n ≤ 1000000) : n + 2 ≤ maxLen ∧ (n + 2) * 1 ≤ 140737488355328 := ⟨by unfold maxLen; omega, by omega⟩
theorem results_tmp3 {fn : Func} {t u v : Tmp} (h : fn.results = #[.tmp t, .tmp u, .tmp v]) (tmps : Array Value) (P : Program) (w : World) :
    (results fn tmps).run P w = .ok (.tuple #[tmps.getD t undef, tmps.getD u undef, tmps.getD v undef]) w := by
  simp [results, h]
theorem results_tmp2 {fn : Func} {t u : Tmp} (h : fn.results = #[.tmp t, .tmp u]) (tmps : Array Value) (P : Program) (w : World) :
    (results fn tmps).run P w = .ok (.tuple #[tmps.getD t undef, tmps.getD u undef]) w := by
  simp [results, h]
end Go.Proofs.Ytdpnmlgadieamaa.Lx
