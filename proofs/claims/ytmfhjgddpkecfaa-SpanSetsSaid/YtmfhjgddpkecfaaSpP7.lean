/-
  Contracts of the program of layer 8: Union, Inter, Minus.
-/
import Derived.Test.YtmfhjgddpkecfaaSpP6
namespace Go.Proofs.Ytmfhjgddpkecfaa.Sp
open Go.RowKit

theorem NoEnd.sp {L : List Spn} {w w' : World} {e : Ending} (h : NoEnd L w e w') : SpEnd L w e w' := no_sp h
set_option maxHeartbeats 1000000 in
set_option maxRecDepth 100000 in
theorem qUnion_any (a b : List Spn) (va vb : Value) (w : World) (ha : Spns w va a) (hb : Spns w vb b) (hla : a.length ≤ 300) (hlb : b.length ≤ 300) :
    Calls Try.prog 19 #[va, vb] w (SpEnd (unionL a b) w) := by
  have la := norm_len a
  have lb := norm_len b
  have c1 := Lib.hid (fun W (h : Below w.heap.size w W) => pnormal_rec a.length a va W rfl (by omega) (ha.below h))
  have HU := Lib.hid (mg_join a b)
  obtain ⟨pa, ca, rfl⟩ := ha.nil
  obtain ⟨pb, cb, rfl⟩ := hb.nil
  have c2 := Lib.hid (fun W (h : Below w.heap.size w W) => pnormal_rec b.length b (.slice pb b.length cb) W rfl (by omega) (hb.below h))
  have c3 := Lib.hid (fun W u v (h1 : Spns W u (normL a)) (h2 : Spns W v (normL b)) => pmerge_any (normL a) (normL b) u v W h1 h2 (by omega) (by omega))
  clear ha hb la lb
  go_enter Try.func19, Try.ntmps19
  go_wp2_with fail
  refine (c1.out _ (Below.refl _ _)).mono ?_; rintro e w1 ⟨v1, rfl, n1, k1⟩
  have n1 := Lib.hid n1
  go_wp2_with fail
  refine (c2.out _ k1).mono ?_; rintro e w2 ⟨v2, rfl, n2, k2⟩
  have m2 := stepB k1 k2
  have n1 := Lib.hid (n1.out.below k2)
  have n2 := Lib.hid n2
  go_wp2_with fail
  refine (c3.out _ _ _ n1.out n2.out).mono ?_; rintro e w3 ⟨v3, rfl, n3, k3⟩
  have n3 := Lib.hid n3.spns
  have m3 := stepB m2 k3
  clear n1 n2 k1 k2 k3 m2
  go_wp2_with fail
  go_ret
  exact ⟨_, rfl, by rw [HU.out] at n3; exact n3.out, m3⟩
set_option maxHeartbeats 1000000 in
set_option maxRecDepth 100000 in
theorem qInter_any (a b : List Spn) (va vb : Value) (w : World) (ha : Spns w va a) (hb : Spns w vb b) (hla : a.length ≤ 300) (hlb : b.length ≤ 300) :
    Calls Try.prog 21 #[va, vb] w (SpEnd (interL a b) w) := by
  have la := norm_len a
  have lb := norm_len b
  have c1 := Lib.hid (fun W (h : Below w.heap.size w W) => pnormal_rec a.length a va W rfl (by omega) (ha.below h))
  have HU := Lib.hid (co_inter a b)
  obtain ⟨pa, ca, rfl⟩ := ha.nil
  obtain ⟨pb, cb, rfl⟩ := hb.nil
  have c2 := Lib.hid (fun W (h : Below w.heap.size w W) => pnormal_rec b.length b (.slice pb b.length cb) W rfl (by omega) (hb.below h))
  have c3 := Lib.hid (fun W u v (h1 : Spns W u (normL a)) (h2 : Spns W v (normL b)) => pcommon_any (normL a) (normL b) u v W h1 h2 (by omega) (by omega))
  clear ha hb la lb
  go_enter Try.func21, Try.ntmps21
  go_wp2_with fail
  refine (c1.out _ (Below.refl _ _)).mono ?_; rintro e w1 ⟨v1, rfl, n1, k1⟩
  have n1 := Lib.hid n1
  go_wp2_with fail
  refine (c2.out _ k1).mono ?_; rintro e w2 ⟨v2, rfl, n2, k2⟩
  have m2 := stepB k1 k2
  have n1 := Lib.hid (n1.out.below k2)
  have n2 := Lib.hid n2
  go_wp2_with fail
  refine (c3.out _ _ _ n1.out n2.out).mono ?_; rintro e w3 ⟨v3, rfl, n3, k3⟩
  have n3 := Lib.hid n3.spns
  have m3 := stepB m2 k3
  clear n1 n2 k1 k2 k3 m2
  go_wp2_with fail
  go_ret
  exact ⟨_, rfl, by rw [HU.out] at n3; exact n3.out, m3⟩
set_option maxHeartbeats 1000000 in
set_option maxRecDepth 100000 in
theorem qMinus_any (a b : List Spn) (va vb : Value) (w : World) (ha : Spns w va a) (hb : Spns w vb b) (hla : a.length ≤ 300) (hlb : b.length ≤ 300) (hea : I64 a) :
    Calls Try.prog 23 #[va, vb] w (SpEnd (minusL a b) w) := by
  have la := norm_len a
  have lb := norm_len b
  have lg := minus_len [(-9223372036854775808, 9223372036854775807)] b
  have l1 : ([(-9223372036854775808, 9223372036854775807)] : List Spn).length = 1 := rfl
  have c1 := Lib.hid (fun W (h : Below w.heap.size w W) => pnormal_rec a.length a va W rfl (by omega) (ha.below h))
  have HU := Lib.hid (co_minus b hea)
  obtain ⟨pa, ca, rfl⟩ := ha.nil
  obtain ⟨pb, cb, rfl⟩ := hb.nil
  have c2 := Lib.hid (fun W (h : Below w.heap.size w W) => (pgaps_any b (-9223372036854775808) 9223372036854775807 (.slice pb b.length cb) W (hb.below h) (by omega)).mono (fun e w' h => no_sp h))
  rw [ga_is] at c2
  have c3 := Lib.hid (fun W u v (h1 : Spns W u (normL a)) (h2 : Spns W v (minusL [(-9223372036854775808, 9223372036854775807)] b)) => pcommon_any (normL a) (minusL [(-9223372036854775808, 9223372036854775807)] b) u v W h1 h2 (by omega) (by omega))
  clear ha hb la lb
  go_enter Try.func23, Try.ntmps23
  go_wp2_with fail
  refine (c1.out _ (Below.refl _ _)).mono ?_; rintro e w1 ⟨v1, rfl, n1, k1⟩
  have n1 := Lib.hid n1
  go_wp2_with fail
  refine (c2.out _ k1).mono ?_; rintro e w2 ⟨v2, rfl, n2, k2⟩
  have m2 := stepB k1 k2
  have n1 := Lib.hid (n1.out.below k2)
  have n2 := Lib.hid n2
  go_wp2_with fail
  refine (c3.out _ _ _ n1.out n2.out).mono ?_; rintro e w3 ⟨v3, rfl, n3, k3⟩
  have n3 := Lib.hid n3.spns
  have m3 := stepB m2 k3
  clear n1 n2 k1 k2 k3 m2
  go_wp2_with fail
  go_ret
  exact ⟨_, rfl, by rw [HU.out] at n3; exact n3.out, m3⟩
set_option maxHeartbeats 1000000 in
set_option maxRecDepth 100000 in
theorem qNormal_any (l : List Spn) (v : Value) (w : World) (hl : Spns w v l) (hll : l.length ≤ 10000) : Calls Try.prog 13 #[v] w (SpEnd (normL l) w) := pnormal_rec l.length l v w rfl (by omega) hl
theorem qGaps_any (l : List Spn) (p q : Int) (v : Value) (w : World) (hl : Spns w v l) (hll : l.length ≤ 300) : Calls Try.prog 29 #[v, .agg #[.int .i64 p, .int .i64 q]] w (SpEnd (minusL [(p, q)] l) w) := by
  rw [← ga_is]
  exact (pgaps_any l p q v w hl (by omega)).mono (fun e w' h => no_sp h)
end Go.Proofs.Ytmfhjgddpkecfaa.Sp
