/-
  The examples of the chapter hold (layer 8).
-/
import Derived.Test.YtmfhjgddpkecfaaSpPR
namespace Go.Proofs.Ytmfhjgddpkecfaa.Sp
open Go.RowKit

/-- A list of spans just made. -/
theorem made_spns (w : World) (l : List Spn) : Spns (w.alloc (.cells (spsC l).toArray 38)) (.slice (some ⟨w.heap.size, 0, none⟩) l.length l.length) l := by
  refine ⟨_, _, rfl, Nat.le_refl _, fun _ => ⟨w.heap.size, 0, rfl, by show _ < (w.heap.push _).size; rw [Array.size_push]; exact Nat.lt_succ_self _, Nat.le_refl _, fun j x hj => ?_⟩⟩
  have h := spsC_at l j x hj
  have e : ∀ i, (w.alloc (.cells (spsC l).toArray 38)).cell? ⟨w.heap.size, i, none⟩ = (spsC l)[i]? := fun i => by
    rw [World.cell?_alloc_mark w (spsC l).toArray 38 (0, 0) i]; simp
  simp only [Nat.zero_add]
  exact ⟨(e _).trans h.1, (e _).trans h.2⟩
theorem made_at (w : World) (l : List Spn) {g : Nat} (hg : w.heap.size = g) : Spns (w.alloc (.cells (spsC l).toArray 38)) (.slice (some ⟨g, 0, none⟩) l.length l.length) l := by
  rw [← hg]; exact made_spns w l
def exA : List Spn := [(2, 4), (8, 12)]
def exN : List Spn := [(5, 9), (1, 3), (3, 4), (7, 7)]
def exS : List Spn := [(2, 3), (9, 20)]
def exT : List Spn := [(1, 4), (2, 6)]
def exN2 : List Spn := [(1, 4), (5, 9)]
def exG2 : List Spn := [(0, 2), (4, 8)]
def exM2 : List Spn := [(0, 2), (3, 9)]
theorem ex64 {l : List Spn} (h : l.all (fun x => decide (-100 ≤ x.1) && decide (x.1 ≤ 100) && decide (-100 ≤ x.2) && decide (x.2 ≤ 100)) = true) : I64 l := fun x hx => by
  have := List.all_eq_true.1 h x hx
  simp at this
  omega
theorem in64_small {a : Int} (h : -100 ≤ a) (h2 : a ≤ 100) : In64 a := ⟨by omega, by omega⟩
set_option maxHeartbeats 4000000 in
set_option maxRecDepth 100000 in
theorem awake_any (w : World) : Calls Try.prog 11 #[] w fun e w' => e = .returned (.bool true) ∧ Below w.heap.size w w' := by
  have c1 := Lib.hid (fun v W (h : Spns W v exA) => qFit_any exA v 0 3 W h (by decide) (ex64 (by kernel_rfl)) (in64_small (by decide) (by decide)) (in64_small (by decide) (by decide)))
  have c2 := Lib.hid (fun v W (h : Spns W v exA) => qFit_any exA v 0 5 W h (by decide) (ex64 (by kernel_rfl)) (in64_small (by decide) (by decide)) (in64_small (by decide) (by decide)))
  unfold FiEnd at c1 c2
  rw [show fitV exA 0 3 = 4 by kernel_rfl, show fitB exA 0 3 = true by kernel_rfl] at c1
  rw [show fitV exA 0 5 = 12 by kernel_rfl, show fitB exA 0 5 = true by kernel_rfl] at c2
  have c3 := Lib.hid (fun v W (h : Spns W v exN) => qNormal_any exN v W h (by decide))
  rw [show normL exN = exN2 by kernel_rfl] at c3
  have c4 := Lib.hid (fun v W (h : Spns W v exA) => qGaps_any exA 0 10 v W h (by decide))
  rw [show minusL [(0, 10)] exA = exG2 by kernel_rfl] at c4
  have c5 := Lib.hid (fun va vb W (h : Spns W va [(0, 10)]) (h2 : Spns W vb exS) => qMinus_any [(0, 10)] exS va vb W h h2 (by decide) (by decide) (fun x hx => by rw [List.mem_singleton.1 hx]; decide))
  rw [show minusL [(0, 10)] exS = exM2 by kernel_rfl] at c5
  have c6 := Lib.hid (fun va vb W (h : Spns W va exN2) (h2 : Spns W vb exN2) => rsame_any exN2 exN2 va vb W h h2 (by decide) (by decide))
  have c7 := Lib.hid (fun va vb W (h : Spns W va exG2) (h2 : Spns W vb exG2) => rsame_any exG2 exG2 va vb W h h2 (by decide) (by decide))
  have c8 := Lib.hid (fun va vb W (h : Spns W va exM2) (h2 : Spns W vb exM2) => rsame_any exM2 exM2 va vb W h h2 (by decide) (by decide))
  rw [decide_eq_true rfl] at c6 c7 c8
  have c9 := Lib.hid (fun v W (h : Spns W v exT) => qTotal_any exT v W h (by decide) (ex64 (by kernel_rfl)))
  rw [show totV exT = 5 by kernel_rfl] at c9
  have c10 := Lib.hid (fun v W (h : Spns W v exA) => qHas_any exA v 2 W h (by decide))
  have c11 := Lib.hid (fun v W (h : Spns W v exA) => qHas_any exA v 4 W h (by decide))
  rw [show hasB exA 2 = true by kernel_rfl] at c10
  rw [show hasB exA 4 = false by kernel_rfl] at c11
  unfold SpEnd at c3 c4 c5
  have n0 := Lib.hid (made_spns w exA)
  have B0 := alloc_below w (.cells (spsC exA).toArray 38)
  go_enter Try.func11, Try.ntmps11
  go_wp2_with fail
  refine (c1.out _ _ n0.out).mono ?_; rintro e w1 ⟨rfl, k1⟩
  have n1 := Lib.hid (n0.out.below k1)
  have B1 := stepB B0 k1
  clear n0 B0 k1 c1
  go_wp2_with fail
  refine (c2.out _ _ n1.out).mono ?_; rintro e w2 ⟨rfl, k2⟩
  have b2 := alloc_below w2 (.cells (spsC exN).toArray 38)
  have n2 := Lib.hid ((n1.out.below k2).below b2)
  have B2 := stepB (stepB B1 k2) b2
  have s2 := Lib.hid (made_spns w2 exN)
  clear n1 B1 k2 c2 b2
  go_wp2_with fail
  refine (c3.out _ _ s2.out).mono ?_; rintro e w3 ⟨v3, rfl, o3, k3⟩
  have n3 := Lib.hid (n2.out.below k3)
  have B3 := stepB B2 k3
  obtain ⟨p3, q3, rfl⟩ := o3.nil
  have o3 := Lib.hid o3
  clear n2 B2 k3 c3 s2
  go_wp2_with fail
  refine (c4.out _ _ n3.out).mono ?_; rintro e w4 ⟨v4, rfl, o4, k4⟩
  have b4 := alloc_below w4 (.cells (spsC [(0, 10)]).toArray 38)
  have b4' := alloc_below (w4.alloc (.cells (spsC [(0, 10)]).toArray 38)) (.cells (spsC exS).toArray 38)
  have n4 := Lib.hid (((n3.out.below k4).below b4).below b4')
  have B4 := stepB (stepB (stepB B3 k4) b4) b4'
  obtain ⟨p4, q4, rfl⟩ := o4.nil
  have t3 := Lib.hid (((o3.out.below k4).below b4).below b4')
  have t4 := Lib.hid ((o4.below b4).below b4')
  have s4 := Lib.hid ((made_spns w4 [(0, 10)]).below b4')
  have s4' := Lib.hid (made_at (w4.alloc (.cells (spsC [(0, 10)]).toArray 38)) exS (size_alloc w4 _))
  clear n3 B3 k4 c4 o3 o4 b4 b4'
  go_wp2_with fail
  refine (c5.out _ _ _ s4.out s4'.out).mono ?_; rintro e w5 ⟨v5, rfl, o5, k5⟩
  have b5 := alloc_below w5 (.cells (spsC exN2).toArray 38)
  obtain ⟨p5, q5, rfl⟩ := o5.nil
  have n5 := Lib.hid ((n4.out.below k5).below b5)
  have B5 := stepB (stepB B4 k5) b5
  have u3 := Lib.hid ((t3.out.below k5).below b5)
  have u4 := Lib.hid ((t4.out.below k5).below b5)
  have u5 := Lib.hid (o5.below b5)
  have s5 := Lib.hid (made_spns w5 exN2)
  clear n4 B4 k5 c5 t3 t4 o5 b5 s4 s4'
  go_wp2_with fail
  refine (c6.out _ _ _ u3.out s5.out).mono ?_; rintro e w6 ⟨rfl, k6⟩
  have b6 := alloc_below w6 (.cells (spsC exG2).toArray 38)
  have n6 := Lib.hid ((n5.out.below k6).below b6)
  have B6 := stepB (stepB B5 k6) b6
  have x4 := Lib.hid ((u4.out.below k6).below b6)
  have x5 := Lib.hid ((u5.out.below k6).below b6)
  have s6 := Lib.hid (made_spns w6 exG2)
  clear n5 B5 k6 c6 u3 u4 u5 b6 s5
  go_wp2_with fail
  refine (c7.out _ _ _ x4.out s6.out).mono ?_; rintro e w7 ⟨rfl, k7⟩
  have b7 := alloc_below w7 (.cells (spsC exM2).toArray 38)
  have n7 := Lib.hid ((n6.out.below k7).below b7)
  have B7 := stepB (stepB B6 k7) b7
  have y5 := Lib.hid ((x5.out.below k7).below b7)
  have s7 := Lib.hid (made_spns w7 exM2)
  clear n6 B6 k7 c7 x4 x5 b7 s6
  go_wp2_with fail
  refine (c8.out _ _ _ y5.out s7.out).mono ?_; rintro e w8 ⟨rfl, k8⟩
  have b8 := alloc_below w8 (.cells (spsC exT).toArray 38)
  have n8 := Lib.hid ((n7.out.below k8).below b8)
  have B8 := stepB (stepB B7 k8) b8
  have s8 := Lib.hid (made_spns w8 exT)
  clear n7 B7 k8 c8 y5 b8 s7
  go_wp2_with fail
  refine (c9.out _ _ s8.out).mono ?_; rintro e w9 ⟨rfl, k9⟩
  have n9 := Lib.hid (n8.out.below k9)
  have B9 := stepB B8 k9
  clear n8 B8 k9 c9 s8
  go_wp2_with fail
  refine (c10.out _ _ n9.out).mono ?_; rintro e w10 ⟨rfl, k10⟩
  have n10 := Lib.hid (n9.out.below k10)
  have B10 := stepB B9 k10
  clear n9 B9 k10 c10
  go_wp2_with fail
  refine (c11.out _ _ n10.out).mono ?_; rintro e w11 ⟨rfl, k11⟩
  have B11 := stepB B10 k11
  go_wp2_with fail
  go_ret
  exact ⟨rfl, B11⟩
end Go.Proofs.Ytmfhjgddpkecfaa.Sp
