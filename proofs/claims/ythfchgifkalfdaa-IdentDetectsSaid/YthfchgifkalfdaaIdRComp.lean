/-
  Contract of the reference's Compare.
-/
import Derived.Test.YthfchgifkalfdaaIdComp
namespace Go.Proofs.Ythfchgifkalfdaa.Id
open Go.RowKit

theorem first_size {x : ByteArray} (h : 0 < x.size) : (firstS x).size = elN x.data.toList := by
  rw [Lib.size_eq, first_data, List.length_take, len_data]
  have := elN_size h
  omega

set_option maxHeartbeats 1000000 in
set_option maxRecDepth 100000 in
theorem rcompare_any (a b : ByteArray) (w : World) (ha : (a.size : Int) ≤ 100000) (hb : (b.size : Int) ≤ 100000) : Calls Try.prog 22 #[.string a, .string b] w fun e w' => e = .returned (.int .i64 (nordS a b)) ∧ Below w.heap.size w w' := by
  go_enter Try.func22, Try.ntmps22
  go_wp2_with fail
  go_loopw [5, 6] (fun v u wr => ∃ x y : ByteArray, v = .string x ∧ u = .string y ∧ Below w.heap.size w wr ∧ (x.size : Int) ≤ 100000 ∧ (y.size : Int) ≤ 100000 ∧ OrdInv a b x y) (fun v _ _ => lenOf v)
  case atStart => exact ⟨a, b, rfl, rfl, Below.refl _ _, ha, hb, rfl⟩
  case round =>
    obtain ⟨x, y, rfl, rfl, hbw, hxb, hyb, hinv⟩ := hrel
    by_cases hx : 0 < x.size
    · by_cases hy : 0 < y.size
      · have nx := ne_toList hx
        have ny := ne_toList hy
        have ex := elN_size hx
        have ey := elN_size hy
        have HX := Lib.hid (fun w => first_any x w hx hxb)
        have HY := Lib.hid (fun w => first_any y w hy hyb)
        have cE := Lib.hid (fun w => rpair_any (firstS x) (firstS y) w (isEl_size (first_isEl hx)) (isEl_size (first_isEl hy)))
        have F1 := Lib.hid (fun n hn h0 => hinv.found hx hy (n := n) hn h0)
        have F2 := Lib.hid (fun hn => hinv.next hx hy hn)
        have hrs := Lib.hid (rest_size hx)
        have hrt := Lib.hid (rest_size hy)
        have px := first_size hx
        have py := first_size hy
        unfold restS at F2 hrs hrt
        obtain ⟨f, hf⟩ : ∃ f, firstS x = f := ⟨_, rfl⟩
        obtain ⟨g, hg⟩ : ∃ g, firstS y = g := ⟨_, rfl⟩
        rw [hf] at HX cE F1 F2 px
        rw [hg] at HY cE F1 F2 py
        rw [← px] at ex F2 hrs
        rw [← py] at ey F2 hrt
        obtain ⟨n, hn⟩ : ∃ n, pairS f g = n := ⟨_, rfl⟩
        rw [hn] at cE F1 F2
        have ex' : (f.size : Int) ≤ (x.size : Int) := by omega
        have ey' : (g.size : Int) ≤ (y.size : Int) := by omega
        have hrs' := Lib.hid (show ((x.extract f.size x.size).size : Int) ≤ 100000 by have := hrs.out; omega)
        have hrt' := Lib.hid (show ((y.extract g.size y.size).size : Int) ≤ 100000 by have := hrt.out; omega)
        clear hf hg hinv hn px py hrt
        go_wp2_with fail
        refine (HX.out _).mono ?_; rintro e w1 ⟨rfl, rfl⟩
        go_wp2_with fail
        refine (HY.out _).mono ?_; rintro e w2 ⟨rfl, rfl⟩
        go_wp2_with fail
        refine (cE.out _).mono ?_; rintro e w3 ⟨rfl, b3⟩
        have hb3 : Below w.heap.size w w3 := hbw.trans (b3.mono hbw.size)
        clear hbw b3 cE HX HY
        by_cases h0 : n = 0
        · subst h0
          have HI := Lib.hid (F2.out (by trivial))
          clear F1 F2
          go_wp2_with fail
          go_quiet (fail)
          go_wp2_with fail
          exact ⟨⟨_, _, rfl, rfl, below_drew' hb3 _, hrs'.out, hrt'.out, HI.out⟩, hrs.out⟩
        · have h0' : (n != 0) = true := bne_iff_ne.2 h0
          have HF := Lib.hid (F1.out n (by trivial) h0)
          clear F1 F2 h0
          go_wp2_with fail
          go_ret
          exact ⟨by rw [HF.out]; rfl, hb3⟩
      · have nx := ne_toList hx
        have ny := nil_toList (x := y) (by omega)
        have HF := Lib.hid (hinv.left hx (by omega))
        clear hinv
        go_wp2_with fail
        go_ret
        exact ⟨by rw [HF.out]; rfl, hbw⟩
    · have nx := nil_toList (x := x) (by omega)
      by_cases hy : 0 < y.size
      · have ny := ne_toList hy
        have HF := Lib.hid (hinv.right (by omega) hy)
        clear hinv
        go_wp2_with fail
        go_ret
        exact ⟨by rw [HF.out]; rfl, hbw⟩
      · have ny := nil_toList (x := y) (by omega)
        have HF := Lib.hid (hinv.both (by omega) (by omega))
        clear hinv
        go_wp2_with fail
        refine (rbytes_any _ _ _).mono ?_; rintro e w3 ⟨rfl, rfl⟩
        go_wp2_with fail
        go_ret
        exact ⟨by rw [HF.out]; rfl, hbw⟩
end Go.Proofs.Ythfchgifkalfdaa.Id
