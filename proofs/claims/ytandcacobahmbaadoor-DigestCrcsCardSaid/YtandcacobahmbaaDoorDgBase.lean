/-
  Tools of layer 6: strings as lists of bytes, exclusive or.
-/
import Derived.Test.YtandcacobahmbaaDoorDgCrc
import Derived.Test.YtandcacobahmbaaDoorDgTree
import Derived.Test.YtandcacobahmbaaDoorProg
import Derived.WalkKit
import Derived.WalkSpells
import Derived.WalkLawsBesides
import Derived.BigQuiet
import Derived.Deep.QuietTactic
import Derived.Lib.Hide
import Derived.Lib.OthersKept
import Derived.Lib.SmallJoins
import Derived.ProofKit
import Derived.Below
import Derived.OwnWalk
import Derived.LoopTactic
import Derived.Laws.IdiomStrings
import Derived.Laws.BitsAllLaws
namespace Go.Proofs.YtandcacobahmbaaDoor.Dg
open Go.RowKit

def toS (l : List UInt8) : ByteArray := ⟨l.toArray⟩
theorem toS_data (s : ByteArray) : toS s.data.toList = s := Lib.mk_data s
theorem data_toS (l : List UInt8) : (toS l).data.toList = l := rfl
theorem toS_size (l : List UInt8) : (toS l).size = l.length := by rw [Lib.size_eq]; rfl
theorem toS_app (a b : List UInt8) : toS a ++ toS b = toS (a ++ b) := by
  apply ByteArray.ext
  rw [ByteArray.data_append]
  simp [toS]
theorem stepB {w W W' : World} (h : Below w.heap.size w W) (k : Below W.heap.size W W') : Below w.heap.size w W' := h.trans (k.mono h.size)
/-- string([]byte{byte(u % 256)}). -/
theorem conv_byte (W : World) (u : Nat) : (convert 49 9 (.slice (some ⟨W.heap.size, 0, none⟩) 1 1)).run Tryd.prog (W.alloc (.cells #[.int .u8 ((u : Int) % 256)] 5)) = .ok (.string (toS [UInt8.ofNat (u % 256)])) (W.alloc (.cells #[.int .u8 ((u : Int) % 256)] 5)) :=
  run_convert_bytes_back (P := Tryd.prog) _ 49 9 5 ⟨W.heap.size, 0, none⟩ 1 [UInt8.ofNat (u % 256)] Tryd.underlying49 Tryd.underlying5 Tryd.underlying9 (fun j hj => by
    match j, hj with
    | 0, _ => simp [Addr.add])
theorem add_lists (x y : List UInt8) (h : x.length + y.length ≤ 9223372036854775807) (W : World) : (Op.stringOp .add (toS x) (toS y)).run Tryd.prog W = .ok (.string (toS (x ++ y))) W := by
  rw [← toS_app]
  exact run_string_add_sum W _ _ (by rw [toS_size, toS_size]; exact h)
theorem add_strs (x y : ByteArray) (h : x.size + y.size ≤ 9223372036854775807) (W : World) : (Op.stringOp .add x y).run Tryd.prog W = .ok (.string (toS (x.data.toList ++ y.data.toList))) W := by
  have := add_lists x.data.toList y.data.toList (by rw [← Lib.size_eq, ← Lib.size_eq]; exact h) W
  rw [toS_data, toS_data] at this
  exact this
/-- Exclusive or of two numbers of 32 or 64 bits. -/
theorem xor32 (a b : Nat) (ha : a < 4294967296) (hb : b < 4294967296) : bits .xor .u32 (a : Int) (b : Int) = ((a ^^^ b : Nat) : Int) := u32_xor_nat a b ha hb
theorem xor64 (a b : Nat) (ha : a < 18446744073709551616) (hb : b < 18446744073709551616) : bits .xor .u64 (a : Int) (b : Int) = ((a ^^^ b : Nat) : Int) := u64_xor_nat a b ha hb
end Go.Proofs.YtandcacobahmbaaDoor.Dg
