/-
  Contracts of the reference's readers of layer 5 after an error; NewReader.
-/
import Derived.Test.YtglhbjfogbcddaaCbRText
namespace Go.Proofs.Ytglhbjfogbcddaa.Cb
open Go.RowKit

set_option maxHeartbeats 1000000 in
theorem rNew_any (s : ByteArray) (w : World) : Calls Try.prog 21 #[.string s] w fun e w' => e = .returned (.pointer (some ⟨w.heap.size, 0, none⟩)) ∧ Rdr w' w.heap.size 59 s 0 0 ∧ Below w.heap.size w w' := by
  go_enter Try.func21, Try.ntmps21
  go_wp2_with fail
  go_ret
  refine ⟨rfl, ?_, (Below.refl _ w).alloc (Nat.le_refl _) _⟩
  show (w.heap.push _)[w.heap.size]? = _
  simp
set_option maxHeartbeats 1000000 in
theorem rInt_err (b at_ : Nat) (s : ByteArray) (x low high : Int) (T : TypeId) (w : World) (h : Rdr w b T s at_ x) (hx : x ≠ 0) :
    Calls Try.prog 23 #[.pointer (some ⟨b, 0, none⟩), .int .i64 low, .int .i64 high] w fun e w' => e = .returned (.int .i64 0) ∧ w = w' := by
  have h2 := h.c2
  have hx2 : (x != 0) = true := bne_iff_ne.2 hx
  clear h hx
  go_enter Try.func23, Try.ntmps23
  go_wp2_with fail
  go_ret
  exact ⟨rfl, rfl⟩
set_option maxHeartbeats 1000000 in
theorem rText_err (b at_ : Nat) (s : ByteArray) (x most : Int) (T : TypeId) (w : World) (h : Rdr w b T s at_ x) (hx : x ≠ 0) :
    Calls Try.prog 25 #[.pointer (some ⟨b, 0, none⟩), .int .i64 most] w fun e w' => e = .returned (.string ⟨#[]⟩) ∧ w = w' := by
  have h2 := h.c2
  have hx2 : (x != 0) = true := bne_iff_ne.2 hx
  clear h hx
  go_enter Try.func25, Try.ntmps25
  go_wp2_with fail
  go_ret
  exact ⟨rfl, rfl⟩
set_option maxHeartbeats 1000000 in
theorem rBool_err (b at_ : Nat) (s : ByteArray) (x : Int) (T : TypeId) (w : World) (h : Rdr w b T s at_ x) (hx : x ≠ 0) :
    Calls Try.prog 27 #[.pointer (some ⟨b, 0, none⟩)] w fun e w' => e = .returned (.bool false) ∧ w = w' := by
  have h2 := h.c2
  have hx2 : (x != 0) = true := bne_iff_ne.2 hx
  clear h hx
  go_enter Try.func27, Try.ntmps27
  go_wp2_with fail
  go_ret
  exact ⟨rfl, rfl⟩
set_option maxHeartbeats 1000000 in
theorem rList_err (b at_ : Nat) (s : ByteArray) (x most : Int) (T : TypeId) (w : World) (h : Rdr w b T s at_ x) (hx : x ≠ 0) :
    Calls Try.prog 29 #[.pointer (some ⟨b, 0, none⟩), .int .i64 most] w fun e w' => e = .returned (.int .i64 0) ∧ w = w' := by
  have h2 := h.c2
  have hx2 : (x != 0) = true := bne_iff_ne.2 hx
  clear h hx
  go_enter Try.func29, Try.ntmps29
  go_wp2_with fail
  go_ret
  exact ⟨rfl, rfl⟩
end Go.Proofs.Ytglhbjfogbcddaa.Cb
