/-
  Contracts of the program of layer 8: size, and the two closures (what merge and Gaps add one span with).
-/
import Derived.Test.YtmfhjgddpkecfaaSpR6
import Derived.Test.YtmfhjgddpkecfaaSpPM
import Derived.OneCell
namespace Go.Proofs.Ytmfhjgddpkecfaa.Sp
open Go.RowKit

set_option maxHeartbeats 1000000 in
set_option maxRecDepth 100000 in
theorem psize_any (p q : Int) (w : World) (hp : In64 p) (hq : In64 q) (h : p < q) :
    Calls Try.prog 31 #[.agg #[.int .i64 p, .int .i64 q]] w fun e w' => e = .returned (.int .u64 (q - p)) ∧ Below w.heap.size w w' := by
  have e1 := u64_gap hq hp h
  clear hp hq h
  go_enter Try.func31, Try.ntmps31
  go_wp2_with fail
  go_ret
  exact ⟨rfl, (Below.refl _ _).alloc (Nat.le_refl _) _⟩
/-- A variable that a closure captures: it holds the spans O, in a row of the call's own. -/
def BoxS (w : World) (b B : Nat) (O : List Spn) : Prop := ∃ v, w.heap[b]? = some (.cells #[v] 22 (0, 0)) ∧ OwnS w B v O
theorem own_ne_box {w : World} {b B : Nat} {v u : Value} {O : List Spn} (h : OwnS w B v O) (hb : w.heap[b]? = some (.cells #[u] 22 (0, 0))) : v.ownBlock ≠ some b := by
  intro e
  rcases h.2 with ⟨rfl, _⟩ | ⟨g, cap, cur, rfl, _, hg, _⟩
  · cases e
  · have : g = b := by simpa [Value.ownBlock] using e
    subst this
    rw [hg] at hb
    simp at hb
theorem BoxS.below {w w' : World} {b B : Nat} {O : List Spn} (h : BoxS w b B O) (hb : Below w.heap.size w w') : BoxS w' b B O := by
  obtain ⟨v, h1, h2⟩ := h
  exact ⟨v, (hb.block b (lt_of_block h1)).trans h1, h2.below hb⟩
/-- The variable behind a store of a new slice. -/
theorem box_put {w : World} {b B : Nat} {v u : Value} {O : List Spn} (hb : w.heap[b]? = some (.cells #[u] 22 (0, 0))) (h : OwnS w B v O) : BoxS (w.setCell ⟨b, 0, none⟩ v) b B O :=
  ⟨v, one_setCell hb, ownsRow_setCell_other h (own_ne_box h hb) v⟩
end Go.Proofs.Ytmfhjgddpkecfaa.Sp
