/-
  The table of half bytes of layer 6's checksum: what it holds, and that no call writes it.
-/
import Derived.Test.YtandcacobahmbaaDoorDgCrc
import Derived.Test.YtandcacobahmbaaDoorDgBase
namespace Go.Proofs.YtandcacobahmbaaDoor.Dg
open Go.RowKit

/-- Four steps of the register. -/
def crc4 (r : Nat) : Nat := crcS (crcS (crcS (crcS r)))
theorem crc4_twice (r : Nat) : crc4 (crc4 r) = crc8 r := rfl
theorem crc4_lt {r : Nat} (h : r < 2 ^ 32) : crc4 r < 2 ^ 32 := crcS_lt (crcS_lt (crcS_lt (crcS_lt h)))
theorem crc4_xor (a b : Nat) : crc4 (a ^^^ b) = crc4 a ^^^ crc4 b := by unfold crc4; simp only [crcS_xor]
theorem crc4_shift (x : Nat) : crc4 (16 * x) = x := by
  have e : ∀ y, crcS (2 * y) = y := fun y => by unfold crcS; rw [if_neg (by omega)]; omega
  unfold crc4
  rw [show 16 * x = 2 * (2 * (2 * (2 * x))) by omega, e, e, e, e]
/-- The table. -/
def halfT : List Nat := [0, 274646895, 549293790, 820201905, 1098587580, 1361435347, 1640403810, 1905808397, 2197175160, 2460548119, 2722870694, 2987750089, 3280807620, 3553878443, 3811616794, 4084100981]
theorem halfT_is : ∀ m, m < 16 → crc4 m = halfT.getD m 0 := by decide
theorem halfT_lt : ∀ m, m < 16 → halfT.getD m 0 < 4294967296 := by decide
theorem half_xor (m x : Nat) (hm : m < 16) : m ^^^ 16 * x = m + 16 * x := by
  rw [Nat.xor_comm, show 16 * x = 2 ^ 4 * x from rfl]
  have := Nat.two_pow_add_eq_or_of_lt (i := 4) (b := m) hm x
  rw [Nat.add_comm, this]
  apply Nat.eq_of_testBit_eq
  intro i
  rw [Nat.testBit_xor, Nat.testBit_or]
  by_cases hi : i < 4
  · have : (2 ^ 4 * x).testBit i = false := by rw [Nat.testBit_two_pow_mul]; simp; omega
    rw [this]; simp
  · have : m.testBit i = false := Nat.testBit_lt_two_pow (Nat.lt_of_lt_of_le hm (Nat.pow_le_pow_right (n := 2) (i := 4) (by decide) (by omega)))
    rw [this]; simp
/-- Four steps by the table. -/
theorem crc4_is (r : Nat) : crc4 r = (r / 16) ^^^ halfT.getD (r % 16) 0 := by
  have h := half_xor (r % 16) (r / 16) (Nat.mod_lt _ (by decide))
  rw [show r % 16 + 16 * (r / 16) = r by omega] at h
  rw [← halfT_is (r % 16) (Nat.mod_lt _ (by decide)), Nat.xor_comm]
  conv => lhs; rw [← h]
  rw [crc4_xor, crc4_shift]
/-- The variable holds the table. -/
structure Halves (w : World) : Prop where
  lt : 0 < w.heap.size
  at_ : ∀ m, m < 16 → w.cell? ⟨0, m, none⟩ = some (.int .u32 (halfT.getD m 0 : Int))
theorem Halves.below {w w' : World} (h : Halves w) (hb : Below w.heap.size w w') : Halves w' := ⟨Nat.lt_of_lt_of_le h.lt hb.size, fun m hm => (hb.cell h.lt).trans (h.at_ m hm)⟩
end Go.Proofs.YtandcacobahmbaaDoor.Dg
