/-
  The reference's even.
-/
import Derived.Test.YtnpgikjahfhaoaaWTool
namespace Go.Proofs.Ytnpgikjahfhaoaa
open Go.RowKit Go.Proofs.WM Go.Proofs.Reg

def evB (n : Nat) : Bool := n % 2 == 0
theorem even_any (n : Nat) (w : World) : Calls Try.prog 54 #[.agg (halL n)] w (Gives (.bool (evB n)) w) := by
  have E := Lib.hid (show (((hw n 0 : Nat) : Int) % 2 == 0) = evB n by
    unfold evB hw dg
    rw [Nat.pow_zero, Nat.div_one, Bool.eq_iff_iff]
    simp
    omega)
  unfold halL
  go_enter Try.func54, Try.ntmps54
  go_wp2
  go_ret
  exact ⟨by rw [← E.out]; rfl, (Below.refl _ _).alloc (Nat.le_refl _) _⟩

end Go.Proofs.Ytnpgikjahfhaoaa
