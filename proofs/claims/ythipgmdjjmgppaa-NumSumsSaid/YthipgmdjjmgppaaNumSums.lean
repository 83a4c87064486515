/-
  For every list of ints the law NumSums (P1.5) returns true and leaves its argument alone: Sum agrees with the reference, also in the opposite order (the law itself asks this of at most 10000 numbers). No condition.
-/
import Derived.Test.YthipgmdjjmgppaaRows
import Derived.WalkKit
import Derived.ProofKit
import Derived.OpenShut
import Derived.Test.YthipgmdjjmgppaaAlive
import Derived.ShutString
import Derived.ChangeOld
import Derived.Below
namespace Go.Proofs.Ythipgmdjjmgppaa.numSums
open Go.ChangeShapes Go.WideShapes Go.ChangeAt Go.RowKit
open Go.ChangeMaps (open_string shut_string)
set_option linter.unusedVariables false

theorem own : ownKnob Try.prog.godebug = none := by kernel_rfl
theorem laidOut : laidOutB Try.prog = true := by kernel_rfl

/-- WHAT THE WALK IS TOLD OF A SLICE OF INTEGERS THAT CAME IN: it is nil; or it leads to a row of 'cap' cells, the numbers 'zs' (the first 'len' are its elements, the rest its spare room), each fitting its kind. -/
def IsRow (k : IntKind) (w : World) (a : Option Addr) (len cap : Nat) (zs : List Int) : Prop :=
  (a = none ∧ len = 0 ∧ cap = 0 ∧ zs = []) ∨
  ∃ x, a = some x ∧ len ≤ cap ∧ cap ≤ maxLen ∧ zs.length = cap ∧ (∀ i, i < zs.length → w.cell? (x.add i) = some (.int k (zs.getD i 0))) ∧ ∀ n ∈ zs, (Lit.int k n).wf = true

theorem info3 : (Try.prog.info? 3).map (fun i => (i.zero, i.size, i.bytes)) = some (some (.int .i64 0), 1, 8) := by kernel_rfl
theorem sum_rev (l : List Int) : l.reverse.sum = l.sum := by
  induction l with
  | nil => rfl
  | cons x l ih => rw [List.reverse_cons, List.sum_append, ih]; simp; omega
theorem getD_bd {l : List Int} (h : ∀ n ∈ l, (Lit.int .i64 n).wf = true) (j : Nat) : -9223372036854775808 ≤ l.getD j 0 ∧ l.getD j 0 ≤ 9223372036854775807 := by
  by_cases hj : j < l.length
  · have := bounds_i64 (h l[j] (List.getElem_mem hj))
    simpa [List.getD, hj] using this
  · have : l.getD j 0 = 0 := by simp [List.getD, Nat.le_of_not_lt hj]
    rw [this]; omega
/-- The last k numbers, from the last one on, as cells. -/
def revK (zs : List Int) (k : Nat) : List Value := (zs.reverse.take k).map (Value.int .i64)
theorem revK_at (zs : List Int) (j : Nat) (hj : j < zs.length) : (revK zs zs.length)[j]? = some (.int .i64 (zs.reverse.getD j 0)) := by
  unfold revK
  rw [List.take_of_length_le (by simp)]
  have : j < zs.reverse.length := by simpa using hj
  have e : zs.reverse.getD j 0 = zs.reverse[j] := by unfold List.getD; rw [List.getElem?_eq_getElem this]; rfl
  rw [List.getElem?_map, List.getElem?_eq_getElem this, e]
  rfl
/-- The list so far, and the rest. -/
def SInv (w : World) (zs : List Int) (v i : Value) (wr : World) : Prop :=
  ∃ k : Nat, k ≤ zs.length ∧ i = .int .i64 ((zs.length : Int) - 1 - k) ∧ wr.ownsRow w.heap.size 3 1 v k (revK zs k) ∧ Below w.heap.size w wr
theorem sinv_step (w wr w1 : World) (zs : List Int) (v v' : Value) (k : Nat) (o : Obj) (hk : k < zs.length) (hown : wr.ownsRow w.heap.size 3 1 v k (revK zs k)) (hB : Below w.heap.size w wr)
    (hown' : w1.ownsRow w.heap.size 3 1 v' (k + 1) (revK zs k ++ [.int .i64 (zs.getD (zs.length - 1 - k) 0)])) (hgrow : (wr.alloc o).grownBy w1 v.ownBlock) :
    SInv w zs v' (.int .i64 ((zs.length : Int) - 1 - k - 1)) w1 := by
  refine ⟨k + 1, hk, by congr 1; omega, ?_, (hB.alloc hB.size o).grown hgrow (Nat.le_trans hB.size (by simp)) (fun j hj => (hown.lt j hj).1)⟩
  have e : zs.reverse.take (k + 1) = zs.reverse.take k ++ [zs.getD (zs.length - 1 - k) 0] := by
    rw [List.take_succ_eq_append_getElem (by simpa using hk), List.getElem_reverse]
    congr 2
    simp [List.getD, show zs.length - 1 - k < zs.length by omega]
  unfold revK
  rw [e, List.map_append]
  exact hown'
/-! ### The walk: the law returns true, and writes nothing that was there. -/
set_option maxRecDepth 100000 in
set_option maxHeartbeats 1600000 in
theorem walk (a0 : Option Addr) (len0 cap0 : Nat) (z0 : List Int) (w : World) (w0 : IsRow .i64 w a0 len0 cap0 z0) :
    Calls Try.prog 7 #[.slice a0 len0 cap0] w fun e w' => e = .returned (.bool true) ∧ Below w.heap.size w w' := by
  by_cases hbig : 10000 < len0
  · have hbig' : (10000 : Int) < (len0 : Int) := by omega
    clear hbig w0
    go_enter Try.func7, Try.ntmps7
    go_wp2_with fail
    refine (alive_any _).mono ?_; rintro e w1 ⟨rfl, hb⟩
    go_wp2_with fail
    go_ret
    exact ⟨rfl, hb⟩
  · by_cases h0 : len0 = 0
    · subst h0
      have c1 := Lib.hid (fun w => sum_empty a0 cap0 w)
      have c2 := Lib.hid (fun w => refSum_empty a0 cap0 w)
      have c3 := Lib.hid (fun w => sum_empty none 0 w)
      clear w0 hbig
      go_enter Try.func7, Try.ntmps7
      go_wp2_with fail
      go_loop [3, 4] (fun v i => v = .slice none 0 0 ∧ i = .int .i64 (-1)) (fun _ _ => 0)
      case atStart => exact ⟨rfl, rfl⟩
      case round =>
        obtain ⟨rfl, rfl⟩ := hrel
        go_wp2_with fail
        refine (c1.out _).mono ?_; rintro e w1 ⟨rfl, rfl⟩
        go_wp2_with fail
        refine (c2.out _).mono ?_; rintro e w1 ⟨rfl, rfl⟩
        go_wp2_with fail
        refine (c3.out _).mono ?_; rintro e w1 ⟨rfl, rfl⟩
        go_wp2_with fail
        refine (alive_any _).mono ?_; rintro e w1 ⟨rfl, hb⟩
        go_wp2_with fail
        go_ret
        exact ⟨rfl, hb⟩
    · rcases w0 with ⟨_, hl, _⟩ | ⟨x, rfl, hlc, hcm, hzl, hcell, hwf⟩
      · exact absurd hl h0
      · obtain ⟨b, off, rfl, hc⟩ := ints_at hcell (by omega)
        obtain ⟨zs, hzs⟩ : ∃ zs, z0.take len0 = zs := ⟨_, rfl⟩
        have hn : zs.length = len0 := by rw [← hzs, List.length_take]; omega
        have hcz : ∀ j, j < zs.length → w.cell? ⟨b, off + j, none⟩ = some (.int .i64 (zs.getD j 0)) := fun j hj => by
          rw [hc j (by omega), ← hzs]
          simp [List.getD, show j < len0 by omega]
        have hwz : ∀ n ∈ zs, (Lit.int .i64 n).wf = true := fun n hm => hwf n (List.mem_of_mem_take (by rw [hzs]; exact hm))
        have hbB : b < w.heap.size := by exact block_lt_of_cell (hcz 0 (by omega))
        have hle : zs.length ≤ 10000 := by omega
        have hpos : 0 < zs.length := by omega
        subst hn
        obtain ⟨S, hS⟩ : ∃ S, zs.sum = S := ⟨_, rfl⟩
        have cS : Hid (∀ W : World, Below w.heap.size w W → Calls Try.prog 24 #[.slice (some ⟨b, off, none⟩) zs.length cap0] W (SumEnd S W)) := fun W hB => by
          rw [← hS]; exact sum_any b off cap0 zs W (by omega) (fun j hj => (hB.cell hbB).trans (hcz j hj)) (getD_bd hwz)
        have cR : Hid (∀ W : World, Below w.heap.size w W → Calls Try.prog 25 #[.slice (some ⟨b, off, none⟩) zs.length cap0] W (SumEnd S W)) := fun W hB => by
          rw [← hS]; exact refSum_any b off cap0 zs W hle (fun j hj => (hB.cell hbB).trans (hcz j hj)) (getD_bd hwz)
        have cB : Hid (∀ (W : World) (g c : Nat), (∀ j, j < zs.length → W.cell? ⟨g, 0 + j, none⟩ = some (.int .i64 (zs.reverse.getD j 0))) → Calls Try.prog 24 #[.slice (some ⟨g, 0, none⟩) zs.length c] W (SumEnd S W)) := fun W g c hW => by
          rw [← hS, ← sum_rev]
          have := sum_any g 0 c zs.reverse W (by simp; omega) (by simpa using hW) (getD_bd (fun n hm => hwz n (List.mem_reverse.1 hm)))
          rw [List.length_reverse] at this
          exact this
        have HC := Lib.hid hcz
        obtain ⟨i0, hi, hz0, hz1, hz2⟩ := info_parts info3
        clear hcz hwz hS hc hcell hwf hzl hzs hbig h0
        obtain ⟨n, hn⟩ : ∃ n, zs.length = n := ⟨_, rfl⟩
        have HN := Lib.hid hn
        rw [hn] at hle hpos cS cR cB ⊢
        clear hn
        go_enter Try.func7, Try.ntmps7
        go_wp2_with fail
        go_loopw [3, 4] (fun v i wr => SInv w zs v i wr) (fun _ i _ => (intOf i + 1).toNat)
        case atStart => exact ⟨0, by omega, by rw [HN.out]; simp, World.ownsRow_nil _ _ _ _, Below.refl _ _⟩
        case round =>
          obtain ⟨k, hk, rfl, hown, hB⟩ := hrel
          rw [HN.out] at hk ⊢
          by_cases hlt : k < n
          · obtain ⟨z, hz⟩ : ∃ z, zs.getD (n - 1 - k) 0 = z := ⟨_, rfl⟩
            have hcx : wr.cell? ⟨b, off + (n - 1 - k), none⟩ = some (.int .i64 z) := by
              rw [← hz]; exact (hB.cell hbB).trans (HC.out _ (by rw [HN.out]; omega))
            have HZ := Lib.hid hz
            clear hz
            go_wp2_with (at_builtin; refine wpList_append_own _ rfl _ _ 33 rfl w.heap.size 3 i0 (.int .i64 0) 1 8 Try.underlying33 hi hz0 hz1 hz2 rfl (by decide) _ _ _ rfl (hown.alloc _) ⟨wr.heap.size, 0, none⟩ 1 1 [.int .i64 z] rfl rfl ?c1 ?c2 ?c3 ?c4 ?c5 ?_)
            case c1 =>
              intro j u hj
              match j, hj with
              | 0, hj => simp at hj; subst hj; simp [Addr.add]
            case c2 => intro u hu; simp at hu; subst hu; rfl
            case c3 => unfold maxLen; omega
            case c4 => omega
            case c5 => have := hB.size; simp; omega
            intro v' w1 hown' hgrow _
            have hs := sinv_step w wr w1 zs _ v' k _ (by rw [HN.out]; exact hlt) hown hB (by rw [HN.out, HZ.out]; exact hown') hgrow
            rw [HN.out] at hs
            clear hown' hgrow
            go_wp2
            exact ⟨hs, by simp [intOf]; omega⟩
          · obtain rfl : k = n := by omega
            have hsh : ∃ g c, u3 = .slice (some ⟨g, 0, none⟩) k c := by
              rcases hown.2 with ⟨hv, hx⟩ | ⟨g, c, cur, rfl, _⟩
              · have := hown.1
                rw [hx] at this
                simp at this; omega
              · exact ⟨g, c, rfl⟩
            obtain ⟨g, c, hv⟩ := hsh
            rw [hv] at hown
            rw [hv]
            have hcb : Hid (∀ j, j < k → wr.cell? ⟨g, 0 + j, none⟩ = some (.int .i64 (zs.reverse.getD j 0))) := fun j hj => by
              rw [Nat.zero_add, hown.cellAt j (by omega), ← HN.out]
              exact revK_at zs j (by rw [HN.out]; exact hj)
            clear hv hown
            go_wp2_with fail
            refine (cS.out wr hB).mono ?_; rintro e w1 ⟨rfl, rfl⟩
            go_wp2_with fail
            refine (cR.out wr hB).mono ?_; rintro e w1 ⟨rfl, rfl⟩
            go_wp2_with fail
            refine (cB.out wr g c hcb.out).mono ?_; rintro e w1 ⟨rfl, rfl⟩
            go_wp2_with fail
            refine (alive_any _).mono ?_; rintro e w1 ⟨rfl, hb⟩
            go_wp2_with fail
            go_ret
            exact ⟨rfl, hB.trans (hb.mono hB.size)⟩

/-! ### The row's step -/
set_option maxRecDepth 100000 in
theorem lifted (os : Os) (started : os.Started) (H : Type) (enc : TypeId × Value → H) :
    ReturnsInHanded {} Try.checked os 7 .any (Rows.numSumsSpec.pre6 enc Try.prog Try.f7 Rows.numSumsRow.domain false) (Rows.numSumsSpec.post enc Try.prog Try.f7 false true false false) := by
  refine returnsInHanded_of_change (C := Try.checked) own started (by kernel_rfl) Try.func7
    (ChangeSpec.witness6 (enc := enc) (C := Try.checked) false ⟨#[], #[.slice none 0 0], []⟩ 8 (by kernel_rfl) (by kernel_rfl) (by kernel_rfl) (by kernel_rfl)) ?_
  intro W base args ds gs before hval0 hW hcnd _
  have hval : ∀ (j : Nat) t v, Try.f7.params[j]? = some t → args[j]? = some v → Value.okWide Try.prog W .any base t v := hval0
  have hW' := hW
  obtain ⟨p, q, hA0, hV, rfl, hfz, hnd⟩ := hW
  have hA : DataW.TrodAll enc Try.prog W 0 (fun _ => true) true Try.f7.params.toList args.toList ds p := hA0
  rw [Try.params7] at hA hval
  obtain ⟨v0, vs0, d0, ds0, p0, q0, hargs, rfl, rfl, h0, r0⟩ := trodAll_cons hA
  obtain ⟨rfl, rfl, rfl⟩ := trodAll_nil r0
  obtain rfl : args = #[v0] := by cases args; simp_all
  obtain ⟨rfl, rfl⟩ := trodVars_none hV
  obtain ⟨a0, len0, cap0, rfl⟩ := okWide_slice Try.underlying33 (hval 0 33 v0 rfl rfl)
  have k0 := h0
  have lt0 : ∀ x ∈ p0, x.block < W.heap.size := by obtain ⟨m, hm⟩ := k0; exact DataW.trod_lt m _ _ _ hm
  obtain ⟨z0, w0⟩ : ∃ zs, IsRow .i64 W a0 len0 cap0 zs := by
    obtain ⟨fuel, hf⟩ := h0
    rcases open_ints Try.underlying33 Try.underlying3 (by kernel_rfl) hf with ⟨hcs, _⟩ | ⟨x, l, c, zs, hcs, _, hl, hm, hz, _, hcell, hwz⟩
    · simp [Value.cells] at hcs
      obtain ⟨rfl, rfl, rfl⟩ := hcs
      exact ⟨[], .inl ⟨rfl, rfl, rfl, rfl⟩⟩
    · simp [Value.cells] at hcs
      obtain ⟨rfl, rfl, rfl⟩ := hcs
      exact ⟨zs, .inr ⟨_, rfl, hl, hm, by simpa using hz, hcell, hwz⟩⟩
  clear hA0 hval0
  refine (walk a0 len0 cap0 z0 W w0).mono fun e W' ⟨he, bel⟩ => ?_
  subst he
  exact ⟨_, rfl, _, _, _, [], _, [], hW', trodAll_mk1 (shut_bool Try.underlying4 _), (trodAll_cons_mk (Below.trod laidOut (by kernel_rfl) (of_decide_eq_true (by kernel_rfl)) k0 bel lt0) trodAll_mk0), rfl, bel.frame _, fun h => by cases h⟩

theorem over : Rows.numSumsRow.holds Try.pinned (OpenSpec.ofChange Rows.numSumsSpec) :=
  OpenClaim.holds_of_wide 7 Try.f7 rfl rfl rfl rfl rfl rfl rfl ⟨rfl, rfl, rfl, rfl, rfl⟩ rfl rfl rfl rfl rfl (by kernel_rfl) Try.func7 (by kernel_rfl)
    (of_decide_eq_true (by kernel_rfl)) (by unfold Func.isWrapper; first | (rw [if_pos (by decide +kernel)]; kernel_rfl) | (rw [if_neg (by decide +kernel)]; exact ⟨rfl, rfl⟩))
    (fun os started H enc _ => lifted os started H enc)

/-- The statement. -/
theorem proved : Rows.NumSumsSaid := over
#print axioms proved
end Go.Proofs.Ythipgmdjjmgppaa.numSums
