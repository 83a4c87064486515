/-
  What the laws of layer 6 ask of the program. Crc reads the table of half bytes: it asks 'Halves' of its world.
-/
import Derived.Test.YtandcacobahmbaaDoorDgP4
namespace Go.Proofs.YtandcacobahmbaaDoor.Dg
open Go.RowKit

theorem qCrc_any (s : ByteArray) (w : World) (hT : Halves w) (hs : s.size ≤ 100000) : Calls Tryd.prog 11 #[.string s] w fun e w' => e = .returned (.int .u32 (crcN s.data.toList : Int)) ∧ Below w.heap.size w w' :=
  (pcrc_any s w hT (by omega)).mono fun _ _ ⟨h1, h2⟩ => ⟨h1, by rw [← h2]; exact Below.refl _ _⟩
theorem qHash_any (s : ByteArray) (w : World) (hs : s.size ≤ 100000) : Calls Tryd.prog 14 #[.string s] w fun e w' => e = .returned (.int .u64 (fnvN s.data.toList : Int)) ∧ Below w.heap.size w w' :=
  (phash_any s w (by omega)).mono fun _ _ ⟨h1, h2⟩ => ⟨h1, by rw [← h2]; exact Below.refl _ _⟩
theorem qPair_any (a b : Nat) (w : World) (ha : a < 18446744073709551616) (hb : b < 18446744073709551616) : Calls Tryd.prog 16 #[.int .u64 (a : Int), .int .u64 (b : Int)] w fun e w' => e = .returned (.int .u64 (pairN a b : Int)) ∧ Below w.heap.size w w' := ppair_any a b w ha hb
theorem qRoot_any (L : List ByteArray) (v : Value) (w : World) (hl : L.length ≤ 1000) (hs : Short L) (hv : Strs w v L) : Calls Tryd.prog 19 #[v] w fun e w' => e = .returned (.int .u64 (rootN (bytesL L) : Int)) ∧ Below w.heap.size w w' := proot_any L.length L v w rfl hl hs hv
theorem qProof_any (L : List ByteArray) (v : Value) (i : Int) (w : World) (hl : L.length ≤ 1000) (hs : Short L) (hv : Strs w v L) : Calls Tryd.prog 21 #[v, .int .i64 i] w (PfEnd w (pfP (bytesL L) i) (pfE (bytesL L) i)) := pproof_any L v i w hl hs hv
theorem qVerify_any (root : Nat) (l : List Nat) (v : Value) (s : ByteArray) (i n : Int) (w : World) (hl : l.length ≤ 1000000) (hn : n ≤ 9223372036854775807) (hs : s.size ≤ 100000) (hv : Nats w v l) :
    Calls Tryd.prog 24 #[.int .u64 (root : Int), .string s, .int .i64 i, .int .i64 n, v] w fun e w' => e = .returned (.bool (verV root s.data.toList i n l)) ∧ Below w.heap.size w w' := pverify_any root l v s i n w hl hn hs hv
end Go.Proofs.YtandcacobahmbaaDoor.Dg
