/-
  Tools of layer 7: strings as lists of bytes; letters, digits, marks (the reference's).
-/
import Derived.Test.YtdpnmlgadieamaaLxBack
import Derived.Test.YtdpnmlgadieamaaNtR
import Derived.Test.YtdpnmlgadieamaaNmR
import Derived.Test.YtdpnmlgadieamaaProg
import Derived.WalkKit
import Derived.WalkSpells
import Derived.WalkLawsBesides
import Derived.BigQuiet
import Derived.Deep.QuietTactic
import Derived.Lib.Hide
import Derived.Lib.OthersKept
import Derived.Lib.SmallJoins
import Derived.ProofKit
import Derived.Below
import Derived.OwnWalk
import Derived.LoopTactic
import Derived.Laws.IdiomStrings
import Derived.Laws.BitsAllLaws
namespace Go.Proofs.Ytdpnmlgadieamaa.Lx
open Go.RowKit

def toS (l : List UInt8) : ByteArray := ⟨l.toArray⟩
theorem toS_data (s : ByteArray) : toS s.data.toList = s := Lib.mk_data s
theorem data_toS (l : List UInt8) : (toS l).data.toList = l := rfl
theorem toS_size (l : List UInt8) : (toS l).size = l.length := by rw [Lib.size_eq]; rfl
theorem toS_app (a b : List UInt8) : toS a ++ toS b = toS (a ++ b) := by
  apply ByteArray.ext
  rw [ByteArray.data_append]
  simp [toS]
theorem toS_list (l : List UInt8) : (toS l).toList = l := by rw [Lib.toList_data]; rfl
theorem stepB {w W W' : World} (h : Below w.heap.size w W) (k : Below W.heap.size W W') : Below w.heap.size w W' := h.trans (k.mono h.size)
theorem below_drewN {w W : World} (h : Below w.heap.size w W) (n : Nat) : Below w.heap.size w (W.drewN n) := ⟨h.os, h.tape, h.output, h.size, h.block⟩
theorem add_lists (x y : List UInt8) (h : x.length + y.length ≤ 9223372036854775807) (W : World) : (Op.stringOp .add (toS x) (toS y)).run Try.prog W = .ok (.string (toS (x ++ y))) W := by
  rw [← toS_app]
  exact run_string_add_sum W _ _ (by rw [toS_size, toS_size]; exact h)
/-- What is left of a string from a place on. -/
def rest (s : ByteArray) (a : Nat) : List UInt8 := s.data.toList.drop a
theorem len_data (s : ByteArray) : s.data.toList.length = s.size := (Lib.size_eq s).symm
theorem rest_len (s : ByteArray) (a : Nat) : (rest s a).length = s.size - a := by unfold rest; rw [List.length_drop, len_data]
theorem rest_at {s : ByteArray} {a : Nat} (h : a < s.size) : rest s a = s[a] :: rest s (a + 1) := by
  unfold rest
  rw [List.drop_eq_getElem_cons (by rw [len_data]; exact h)]; rfl
theorem rest_end {s : ByteArray} {a : Nat} (h : s.size ≤ a) : rest s a = [] := by
  unfold rest
  exact List.drop_eq_nil_of_le (by rw [len_data]; exact h)
theorem rest_zero (s : ByteArray) : rest s 0 = s.data.toList := rfl
theorem rest_drop (s : ByteArray) (a k : Nat) : (rest s a).drop k = rest s (a + k) := by unfold rest; rw [List.drop_drop]
/-- A slice of a string. -/
theorem cut_is (s : ByteArray) (a k : Nat) : s.extract a (a + k) = toS ((rest s a).take k) := by
  apply ByteArray.ext
  rw [ByteArray.data_extract]
  show s.data.extract a (a + k) = ((s.data.toList.drop a).take k).toArray
  apply Array.toList_inj.1
  rw [Array.toList_extract, List.extract_eq_take_drop]
  simp
theorem ret_bool {a b : Bool} (h : a = b) : Ending.returned (.bool a) = .returned (.bool b) := by rw [h]
theorem ret_int {k : IntKind} {a b : Int} (h : a = b) : Ending.returned (.int k a) = .returned (.int k b) := by rw [h]
theorem rletter_any (c : Nat) (w : World) : Calls Try.prog 38 #[.int .u8 (c : Int)] w fun e w' => e = .returned (.bool (letN c)) ∧ w = w' := by
  go_enter Try.func38, Try.ntmps38
  go_wp2
  all_goals
    go_ret
    refine ⟨ret_bool (Bool.eq_iff_iff.2 ?_), rfl⟩
    first | (simp [letN, *]; done) | (simp [letN, *]; omega)
theorem rdigit_any (c : Nat) (w : World) : Calls Try.prog 41 #[.int .u8 (c : Int)] w fun e w' => e = .returned (.bool (digN c)) ∧ w = w' := by
  go_enter Try.func41, Try.ntmps41
  go_wp2
  all_goals
    go_ret
    refine ⟨ret_bool (Bool.eq_iff_iff.2 ?_), rfl⟩
    first | (simp [digN, *]; done) | (simp [digN, *]; omega)
end Go.Proofs.Ytdpnmlgadieamaa.Lx
