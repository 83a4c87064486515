/-
  Contract of the reference of layer 7: Same.
-/
import Derived.Test.YtdpnmlgadieamaaLxR7
import Derived.Lib.QuietBelow
import Derived.Laws.StructEq
namespace Go.Proofs.Ytdpnmlgadieamaa.Lx
open Go.RowKit

def eqI (x y : LexI) : Bool := x.k == y.k && x.t == y.t && x.n == y.n && x.a == y.a
def eqM (x y : LexI) : Bool := x.k == y.k && x.t == y.t && x.n == y.n
theorem eqFields_four (fs : List Field) (hf : fs.map (fun f => (f.name, f.type, f.offset)) = [("Kind", 3, 0), ("Text", 9, 1), ("N", 3, 2), ("At", 3, 3)]) (d : Nat) (k n p k' n' p' : Int) (t t' : ByteArray) (w : World) :
    (Op.eqFields (d + 1) (lxL k t n p) (lxL k' t' n' p') fs).run Try.prog w = .ok (k == k' && (t.toList == t'.toList && (n == n' && p == p'))) w := by
  have hi : ∀ (x : Array Value) (j : Nat) (z : Int), x[j]? = some (.int .i64 z) → (part 3 x j).run Try.prog w = .ok (.int .i64 z) w := fun x j z h => by
    simp [part, isAgg, run_underlying Try.underlying3, h]
  have hs : ∀ (x : Array Value) (j : Nat) (z : ByteArray), x[j]? = some (.string z) → (part 9 x j).run Try.prog w = .ok (.string z) w := fun x j z h => by
    simp [part, isAgg, run_underlying Try.underlying9, h]
  have i0 := hi (lxL k t n p) 0 k rfl
  have i2 := hi (lxL k t n p) 2 n rfl
  have i3 := hi (lxL k t n p) 3 p rfl
  have j0 := hi (lxL k' t' n' p') 0 k' rfl
  have j2 := hi (lxL k' t' n' p') 2 n' rfl
  have j3 := hi (lxL k' t' n' p') 3 p' rfl
  have i1 := hs (lxL k t n p) 1 t rfl
  have j1 := hs (lxL k' t' n' p') 1 t' rfl
  have e0 := fun a b => run_equalIn_int (P := Try.prog) w d 3 .i64 .i64 a b Try.underlying3
  have e1 := fun a b => run_equalIn_string (P := Try.prog) w d 9 a b Try.underlying9
  obtain ⟨f0, fs, rfl⟩ : ∃ f l, fs = f :: l := by cases fs with | nil => simp at hf | cons f l => exact ⟨f, l, rfl⟩
  obtain ⟨f1, fs, rfl⟩ : ∃ f l, fs = f :: l := by cases fs with | nil => simp at hf | cons f l => exact ⟨f, l, rfl⟩
  obtain ⟨f2, fs, rfl⟩ : ∃ f l, fs = f :: l := by cases fs with | nil => simp at hf | cons f l => exact ⟨f, l, rfl⟩
  obtain ⟨f3, fs, rfl⟩ : ∃ f l, fs = f :: l := by cases fs with | nil => simp at hf | cons f l => exact ⟨f, l, rfl⟩
  obtain rfl : fs = [] := by cases fs with | nil => rfl | cons f l => simp at hf
  · simp only [List.map_cons, List.map_nil, List.cons.injEq, Prod.mk.injEq, and_true] at hf
    obtain ⟨⟨n0, t0, o0⟩, ⟨n1, t1, o1⟩, ⟨n2, t2, o2⟩, ⟨n3, t3, o3⟩⟩ := hf
    generalize lxL k t n p = X at i0 i1 i2 i3
    generalize lxL k' t' n' p' = Y at j0 j1 j2 j3
    simp only [Op.eqFields, n0, t0, o0, n1, t1, o1, n2, t2, o2, n3, t3, o3]
    cases h0 : k == k' <;> cases h1 : t.toList == t'.toList <;> cases h2 : n == n' <;> cases h3 : p == p' <;> simp [Sem.run_bind, i0, i1, i2, i3, j0, j1, j2, j3, e0, e1, h0, h1, h2, h3]
theorem eq_lex (x y : LexI) (w : World) : (Op.equalIn 10000 35 (.agg (lxL x.k (toS x.t) x.n x.a)) (.agg (lxL y.k (toS y.t) y.n y.a))).run Try.prog w = .ok (eqI x y) w := by
  have hu : Try.prog.underlying 35 = some (.struct (Try.prog.fieldsOf 35)) := by kernel_rfl
  have h := eqFields_four (Try.prog.fieldsOf 35).toList (by kernel_rfl) 9998 x.k x.n x.a y.k y.n y.a (toS x.t) (toS y.t) w
  rw [show (10000 : Nat) = 9999 + 1 from rfl, run_equalIn_struct w 9999 _ _ _ hu (by kernel_rfl), h]
  unfold eqI
  rw [toS_list, toS_list, Bool.and_assoc, Bool.and_assoc]
def sameBy (f : LexI → LexI → Bool) : List LexI → List LexI → Bool
  | [], [] => true
  | x :: r, y :: q => f x y && sameBy f r q
  | _, _ => false
theorem sameBy_snoc (f : LexI → LexI → Bool) (x y : LexI) : ∀ (l m : List LexI), l.length = m.length → sameBy f (l ++ [x]) (m ++ [y]) = (sameBy f l m && f x y)
  | [], [], _ => by simp [sameBy]
  | [], _ :: _, h => by simp at h
  | _ :: _, [], h => by simp at h
  | a :: l, b :: m, h => by
    rw [List.cons_append, List.cons_append, sameBy, sameBy, sameBy_snoc f x y l m (by simpa using h), Bool.and_assoc]
theorem sameBy_len (f : LexI → LexI → Bool) : ∀ (l m : List LexI), l.length ≠ m.length → sameBy f l m = false
  | [], [], h => absurd rfl h
  | [], _ :: _, _ => rfl
  | _ :: _, [], _ => rfl
  | a :: l, b :: m, h => by rw [sameBy, sameBy_len f l m (by simpa using h), Bool.and_false]
theorem sameBy_next (f : LexI → LexI → Bool) {a b : List LexI} {j : Nat} {x y : LexI} (hl : a.length = b.length) (hx : a[j]? = some x) (hy : b[j]? = some y) : sameBy f (a.take (j + 1)) (b.take (j + 1)) = (sameBy f (a.take j) (b.take j) && f x y) := by
  rw [List.take_add_one, List.take_add_one, hx, hy]
  exact sameBy_snoc f x y _ _ (by rw [List.length_take, List.length_take, hl])
set_option maxHeartbeats 4000000 in
set_option maxRecDepth 100000 in
theorem rsame_any (a b : List LexI) (va vb : Value) (w : World) (ha : Lexs w va a) (hb : Lexs w vb b) (hla : a.length ≤ 1000000) (hlb : b.length ≤ 1000000) :
    Calls Try.prog 14 #[va, vb] w fun e w' => e = .returned (.tuple #[.bool (sameBy eqI a b), .bool (sameBy eqM a b)]) ∧ Below w.heap.size w w' := by
  have HA := Lib.hid ha
  have HB := Lib.hid hb
  obtain ⟨pa, ca, rfl⟩ := ha.nil
  obtain ⟨pb, cb, rfl⟩ := hb.nil
  clear ha hb
  by_cases hne : a.length = b.length
  · obtain ⟨R, hR⟩ : ∃ R, sameBy eqI a b = R := ⟨_, rfl⟩
    obtain ⟨S, hS⟩ : ∃ S, sameBy eqM a b = S := ⟨_, rfl⟩
    obtain ⟨N, hN⟩ : ∃ N, b.length = N := ⟨_, rfl⟩
    rw [hR, hS]
    rw [hN] at hne hlb HB ⊢
    rw [hne] at hla HA ⊢
    have HN := Lib.hid hN
    have HE := Lib.hid hne
    have HR := Lib.hid hR
    have HS := Lib.hid hS
    have hne1 : ((N : Int) != (N : Int)) = false := by simp
    clear hN hne hR hS
    go_enter Try.func14, Try.ntmps14
    go_wp2_with fail
    go_loopw [6, 7, 8] (fun p q i wr => ∃ (u v : Bool) (j : Nat), p = .bool u ∧ q = .bool v ∧ i = .int .i64 (j : Int) ∧ j ≤ N ∧ Below w.heap.size w wr ∧ Hid (sameBy eqI (a.take j) (b.take j) = u) ∧ Hid (sameBy eqM (a.take j) (b.take j) = v)) (fun _ _ i _ => N - (intOf i).toNat)
    case atStart => exact ⟨true, true, 0, rfl, rfl, rfl, Nat.zero_le _, Below.refl _ _, rfl, rfl⟩
    case round =>
      obtain ⟨u, v, j, rfl, rfl, rfl, hj, hB, hu, hv⟩ := hrel
      by_cases hlt : j < N
      · have hlt' : (j : Int) < (N : Int) := by omega
        obtain ⟨x, hx⟩ : ∃ x, a[j]? = some x := ⟨_, List.getElem?_eq_getElem (by rw [HE.out]; exact hlt)⟩
        obtain ⟨y, hy⟩ : ∃ y, b[j]? = some y := ⟨_, List.getElem?_eq_getElem (by rw [HN.out]; exact hlt)⟩
        have nI := Lib.hid (sameBy_next eqI (HE.out.trans HN.out.symm) hx hy)
        have nM := Lib.hid (sameBy_next eqM (HE.out.trans HN.out.symm) hx hy)
        obtain ⟨ba, oa, c1, e1, a1⟩ := HA.out.open (by rw [HE.out]; omega)
        obtain ⟨bb, ob, c2, e2, a2⟩ := HB.out.open (by rw [HN.out]; omega)
        rw [HE.out] at e1
        rw [HN.out] at e2
        simp only [Value.slice.injEq] at e1 e2
        obtain ⟨rfl, -, rfl⟩ := e1
        obtain ⟨rfl, -, rfl⟩ := e2
        obtain ⟨x0, x1, x2, x3⟩ := a1.at_ j x hx
        obtain ⟨y0, y1, y2, y3⟩ := a2.at_ j y hy
        have la := a1.lt
        have lb := a2.lt
        have x0 := (hB.cell la).trans x0
        have x1 := (hB.cell la).trans x1
        have x2 := (hB.cell la).trans x2
        have x3 := (hB.cell la).trans x3
        have y0 := (hB.cell lb).trans y0
        have y1 := (hB.cell lb).trans y1
        have y2 := (hB.cell lb).trans y2
        have y3 := (hB.cell lb).trans y3
        obtain ⟨k, t, n, p⟩ := x
        obtain ⟨k', t', n', p'⟩ := y
        simp only at x0 x1 x2 x3 y0 y1 y2 y3
        have q1 : ∀ W : World, (Op.equalIn 10000 35 (.agg #[.int .i64 k, .string (toS t), .int .i64 n, .int .i64 p]) (.agg #[.int .i64 k', .string (toS t'), .int .i64 n', .int .i64 p'])).run Try.prog W = .ok (eqI ⟨k, t, n, p⟩ ⟨k', t', n', p'⟩) W := fun W => eq_lex ⟨k, t, n, p⟩ ⟨k', t', n', p'⟩ W
        clear hx hy a1 a2 la lb
        have tk : Hid (∀ r, eqM ⟨k, t, n, p⟩ ⟨k', t', n', p'⟩ = r → sameBy eqM (a.take (j + 1)) (b.take (j + 1)) = (v && r)) := fun r h => by rw [nM.out, hv.out, h]
        have hts : ((toS t).toList == (toS t').toList) = (t == t') := by rw [toS_list, toS_list]
        have hu2 : Hid (sameBy eqI (a.take (j + 1)) (b.take (j + 1)) = (u && eqI ⟨k, t, n, p⟩ ⟨k', t', n', p'⟩)) := by show _ = _; rw [nI.out, hu.out]
        generalize eqI ⟨k, t, n, p⟩ ⟨k', t', n', p'⟩ = I at q1 hu2
        clear nI nM hu hv HA HB
        cases v with
        | false =>
          have hm := Lib.hid (tk.out _ rfl)
          rw [Bool.false_and] at hm
          clear tk hts
          cases u with
          | true =>
            have hu2 : Hid (sameBy eqI (a.take (j + 1)) (b.take (j + 1)) = I) := hu2.out
            go_wp2_with fail
            go_quiet (fail)
            go_wp2_with fail
            go_quiet (fail)
            go_wp2_with fail
            exact ⟨⟨_, _, j + 1, rfl, rfl, rfl, hlt, (by first | exact below_drewN hB _ | exact below_drewN (below_drewN hB _) _), hu2.out, hm.out⟩, by simp [intOf]; omega⟩
          | false =>
            have hu2 : Hid (sameBy eqI (a.take (j + 1)) (b.take (j + 1)) = false) := hu2.out
            go_wp2_with fail
            go_quiet (fail)
            go_wp2_with fail
            go_quiet (fail)
            go_wp2_with fail
            exact ⟨⟨_, _, j + 1, rfl, rfl, rfl, hlt, (by first | exact below_drewN hB _ | exact below_drewN (below_drewN hB _) _), hu2.out, hm.out⟩, by simp [intOf]; omega⟩
        | true =>
          cases hk : k == k' with
          | false =>
            have hm := Lib.hid (show sameBy eqM (a.take (j + 1)) (b.take (j + 1)) = false by rw [tk.out _ rfl]; unfold eqM; simp [hk])
            clear tk hts
            cases u with
            | true =>
              have hu2 : Hid (sameBy eqI (a.take (j + 1)) (b.take (j + 1)) = I) := hu2.out
              go_wp2_with fail
              go_quiet (fail)
              go_wp2_with fail
              go_quiet (fail)
              go_wp2_with fail
              exact ⟨⟨_, _, j + 1, rfl, rfl, rfl, hlt, (by first | exact below_drewN hB _ | exact below_drewN (below_drewN hB _) _), hu2.out, hm.out⟩, by simp [intOf]; omega⟩
            | false =>
              have hu2 : Hid (sameBy eqI (a.take (j + 1)) (b.take (j + 1)) = false) := hu2.out
              go_wp2_with fail
              go_quiet (fail)
              go_wp2_with fail
              go_quiet (fail)
              go_wp2_with fail
              exact ⟨⟨_, _, j + 1, rfl, rfl, rfl, hlt, (by first | exact below_drewN hB _ | exact below_drewN (below_drewN hB _) _), hu2.out, hm.out⟩, by simp [intOf]; omega⟩
          | true =>
            cases ht : t == t' with
            | false =>
              have hm := Lib.hid (show sameBy eqM (a.take (j + 1)) (b.take (j + 1)) = false by rw [tk.out _ rfl]; unfold eqM; simp [hk, ht])
              rw [ht] at hts
              clear tk
              cases u with
              | true =>
                have hu2 : Hid (sameBy eqI (a.take (j + 1)) (b.take (j + 1)) = I) := hu2.out
                go_wp2_with fail
                go_quiet (fail)
                go_wp2_with fail
                go_quiet (fail)
                go_wp2_with fail
                exact ⟨⟨_, _, j + 1, rfl, rfl, rfl, hlt, (by first | exact below_drewN hB _ | exact below_drewN (below_drewN hB _) _), hu2.out, hm.out⟩, by simp [intOf]; omega⟩
              | false =>
                have hu2 : Hid (sameBy eqI (a.take (j + 1)) (b.take (j + 1)) = false) := hu2.out
                go_wp2_with fail
                go_quiet (fail)
                go_wp2_with fail
                go_quiet (fail)
                go_wp2_with fail
                exact ⟨⟨_, _, j + 1, rfl, rfl, rfl, hlt, (by first | exact below_drewN hB _ | exact below_drewN (below_drewN hB _) _), hu2.out, hm.out⟩, by simp [intOf]; omega⟩
            | true =>
              have hm := Lib.hid (show sameBy eqM (a.take (j + 1)) (b.take (j + 1)) = (n == n') by rw [tk.out _ rfl]; unfold eqM; simp only [hk, ht, Bool.true_and])
              rw [ht] at hts
              clear tk
              cases u with
              | true =>
                have hu2 : Hid (sameBy eqI (a.take (j + 1)) (b.take (j + 1)) = I) := hu2.out
                go_wp2_with fail
                go_quiet (fail)
                go_wp2_with fail
                go_quiet (fail)
                go_wp2_with fail
                exact ⟨⟨_, _, j + 1, rfl, rfl, rfl, hlt, (by first | exact below_drewN hB _ | exact below_drewN (below_drewN hB _) _), hu2.out, hm.out⟩, by simp [intOf]; omega⟩
              | false =>
                have hu2 : Hid (sameBy eqI (a.take (j + 1)) (b.take (j + 1)) = false) := hu2.out
                go_wp2_with fail
                go_quiet (fail)
                go_wp2_with fail
                go_quiet (fail)
                go_wp2_with fail
                exact ⟨⟨_, _, j + 1, rfl, rfl, rfl, hlt, (by first | exact below_drewN hB _ | exact below_drewN (below_drewN hB _) _), hu2.out, hm.out⟩, by simp [intOf]; omega⟩
      · obtain rfl : j = N := by omega
        have hlt' : ¬ (j : Int) < (j : Int) := by omega
        have F : Hid (u = R) := by
          have := hu.out
          rw [← HN.out, List.take_length, HN.out, ← HE.out, List.take_length] at this
          exact this.symm.trans HR.out
        have G : Hid (v = S) := by
          have := hv.out
          rw [← HN.out, List.take_length, HN.out, ← HE.out, List.take_length] at this
          exact this.symm.trans HS.out
        clear hu hv
        go_wp2_with fail
        (try simp only [Exit.inBlock, Exit.then]); refine bodyPost_ret (results_tmp2 rfl _ _ _) rfl ?_
        exact ⟨by rw [← F.out, ← G.out]; rfl, hB⟩
  · have hne1 : ((a.length : Int) != (b.length : Int)) = true := bne_iff_ne.2 (by omega)
    rw [sameBy_len _ _ _ hne, sameBy_len _ _ _ hne]
    clear HA HB hla hlb hne
    go_enter Try.func14, Try.ntmps14
    go_wp2_with fail
    (try simp only [Exit.inBlock, Exit.then]); refine bodyPost_ret (results_tmp2 rfl _ _ _) rfl ?_
    exact ⟨rfl, Below.refl _ _⟩
end Go.Proofs.Ytdpnmlgadieamaa.Lx
