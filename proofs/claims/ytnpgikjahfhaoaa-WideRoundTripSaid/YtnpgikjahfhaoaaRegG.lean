/-
  A region that draws its order and holds guarded operations, each of which is wanted.
-/
import Derived.Test.YtnpgikjahfhaoaaKit
namespace Go.Proofs.Reg
open Go.RowKit

section
variable {P : Program} {ops : Array Oper} {Q : Exit → Act → World → Prop}

/-- Operation j names operation i. -/
def direct (ops : Array Oper) (j i : Nat) : Bool := match ops[j]? with
  | some o => o.after.any fun e => Region.binds .any e && e.on == i
  | none => false
theorem reach_direct {j i : Nat} (h : direct ops j i = true) : reach ops ops.size j i = true := by
  unfold direct at h
  cases ho : ops[j]? with
  | none => rw [ho] at h; simp at h
  | some o =>
    rw [ho] at h
    have hlt := (Array.getElem?_eq_some_iff.1 ho).1
    obtain ⟨n, hn⟩ : ∃ n, ops.size = n + 1 := ⟨ops.size - 1, by omega⟩
    rw [hn]
    unfold reach
    rw [ho]
    simp only [Array.any_eq_true', Bool.and_eq_true, Bool.or_eq_true, beq_iff_eq] at h ⊢
    obtain ⟨e, he, hb, h⟩ := h
    exact ⟨e, he, hb, .inl h⟩
/-- A guard looks at an operation that comes before. -/
def guardOk (ds : List (Option Tmp)) (o : Oper) : Bool := match o.guard with
  | none => true
  | some (j, _) => (o.after.any fun e => Region.binds .any e && e.on == j) && decide (j < ds.length) && (match ds[j]? with | some (some _) => true | _ => false)
/-- What is checked of a region once: slots, guards, edges. -/
def okRegionG (ops : Array Oper) (ds : List (Option Tmp)) : Bool :=
  distinct ds && decide (ds.length ≤ ops.size) &&
  ((List.range ops.size).all fun i => match ops[i]? with
    | some o => (o.after.all fun e => !Region.binds .any e || decide (e.on < i)) && (decide (ds.length ≤ i) || (guardOk ds o && some o.dst == ds[i]?)) &&
      (decide (i ≤ ds.length) || o.after.any fun e => Region.binds .any e && e.on + 1 == i) && (!decide (i = ds.length) || (List.range ds.length).all fun k => direct ops i k)
    | none => false)
theorem okRegion_atG {ds : List (Option Tmp)} (h : okRegionG ops ds = true) {i : Nat} {o : Oper} (ho : ops[i]? = some o) :
    (∀ e ∈ o.after, Region.binds .any e = true → e.on < i) ∧ (i < ds.length → guardOk ds o = true ∧ some o.dst = ds[i]?) ∧ (ds.length < i → ∃ e ∈ o.after, Region.binds .any e = true ∧ e.on + 1 = i) ∧
      (i = ds.length → ∀ k, k < ds.length → reach ops ops.size i k = true) := by
  unfold okRegionG at h
  simp only [Bool.and_eq_true, List.all_eq_true, List.mem_range] at h
  have hi := h.2 i (Array.getElem?_eq_some_iff.1 ho).1
  rw [ho] at hi
  simp only [Bool.and_eq_true, Bool.or_eq_true, Array.all_eq_true_iff_forall_mem, decide_eq_true_eq, Bool.not_eq_true', Array.any_eq_true', beq_iff_eq, List.all_eq_true, List.mem_range, decide_eq_false_iff_not] at hi
  obtain ⟨⟨⟨h1, h2⟩, h3⟩, h4⟩ := hi
  refine ⟨fun e he hb => ?_, fun hlt => ?_, fun hlt => ?_, fun he => ?_⟩
  · rcases h1 e he with x | x
    · rw [hb] at x; simp at x
    · exact x
  · rcases h2 with x | x
    · omega
    · exact x
  · rcases h3 with x | x
    · omega
    · obtain ⟨e, he, hb, hx⟩ := x; exact ⟨e, he, hb, hx⟩
  · rcases h4 with x | x
    · exact absurd he x
    · exact fun k hk => reach_direct (x k hk)
theorem okRegion_dsG {ds : List (Option Tmp)} (h : okRegionG ops ds = true) : distinct ds = true ∧ ds.length ≤ ops.size := by
  unfold okRegionG at h
  simp only [Bool.and_eq_true, decide_eq_true_eq] at h
  exact h.1

/-- The forced rest. -/
theorem tail_anyG {ds : List (Option Tmp)} (hok : okRegionG ops ds = true) : ∀ (fuel m : Nat) (listed : Array Bool) (a : Act) (w : World), ops.size - m ≤ fuel → ds.length ≤ m → m ≤ ops.size → listed.size = ops.size →
    (∀ j, j < ops.size → listed.getD j false = decide (j < m)) → wpList P ops Q (ops.toList.drop m) a w → wpAny P .any ops Q fuel listed a w := by
  intro fuel
  induction fuel with
  | zero =>
    intro m listed a w hf hm hms hs hl h
    obtain rfl : m = ops.size := by omega
    rw [List.drop_eq_nil_of_le (by simp)] at h
    refine ⟨?_, h⟩
    rw [List.eq_nil_iff_forall_not_mem]
    intro i hi
    obtain ⟨h0, o, ho, _⟩ := mem_ready.1 hi
    have hlt := (Array.getElem?_eq_some_iff.1 ho).1
    rw [getD_both (by omega) true false, hl i hlt] at h0
    simp at h0
    omega
  | succ fuel ih =>
    intro m listed a w hf hm hms hs hl h
    rcases Nat.eq_or_lt_of_le hms with he | hlt
    · subst he
      rw [List.drop_eq_nil_of_le (by simp)] at h
      refine ⟨fun _ => h, fun i hi => ?_⟩
      obtain ⟨h0, o, ho, _⟩ := mem_ready.1 hi
      have hlt := (Array.getElem?_eq_some_iff.1 ho).1
      rw [getD_both (by omega) true false, hl i hlt] at h0
      simp at h0
      omega
    · have hom : ops[m]? = some ops[m] := Array.getElem?_eq_getElem hlt
      have hready : m ∈ Region.ready .any ops listed := mem_ready.2 ⟨by rw [getD_both (by omega) true false, hl m hlt]; simp, ops[m], hom, fun e he hb => by
        have := (okRegion_atG hok hom).1 e he hb
        rw [hl _ (by omega)]; simp; exact this⟩
      refine ⟨fun hn => by rw [hn] at hready; simp at hready, fun i hi => ?_⟩
      obtain ⟨h0, o, ho, hdep⟩ := mem_ready.1 hi
      have hilt := (Array.getElem?_eq_some_iff.1 ho).1
      rw [getD_both (by omega) true false, hl i hilt] at h0
      have him : m ≤ i := by simpa using h0
      have hie : i = m := by
        rcases Nat.eq_or_lt_of_le him with e | hgt
        · exact e.symm
        · obtain ⟨e, he, hb, hx⟩ := (okRegion_atG hok ho).2.2.1 (by omega)
          have := hdep e he hb
          rw [hl _ (by omega)] at this
          simp at this
          omega
      subst hie
      rw [List.drop_eq_getElem_cons (by simpa using hlt)] at h
      have ho' : o = ops[i] := by rw [hom] at ho; exact (Option.some.inj ho).symm
      have hnext : ∀ a w, wpList P ops Q (ops.toList.drop (i + 1)) a w → wpAny P .any ops Q fuel (listed.setIfInBounds i true) a w := fun a w hh =>
        ih (i + 1) _ a w (by omega) (by omega) hlt (by simp [hs]) (fun j hj => by
          rw [getD_set _ (by omega)]
          by_cases hji : j = i
          · rw [if_pos hji, hji]; simp
          · rw [if_neg hji, hl j hj, decide_eq_decide]; omega) hh
      unfold wpOp
      rw [hom]
      simp only [wpList, Array.getElem_toList] at h
      dsimp only
      split
      · rename_i hw
        rw [if_pos hw] at h
        exact h.imp (Oper.wp_mono hnext) id
      · rename_i hw
        rw [if_neg hw] at h
        exact hnext _ _ h

theorem region_freeG {ds : List (Option Tmp)} {id : Nat} {a0 : Act} {w0 : World} (rs : List ((Nat → Bool) × TypeId × Array Value)) (al : Nat → Bool) (hm : P.follows .mixedOrders = true) (hok : okRegionG ops ds = true) (F : Nat → (Nat → Value) → World → Prop) (G : World → Prop)
    (hG : ∀ w w', G w → Ext rs w w' → G w') (hF : ∀ i xs w w', i < ds.length → F i xs w → Ext rs w w' → F i xs w') (hagree : ∀ i xs ys w, i < ds.length → F i xs w → (∀ j, (j = i ∨ reach ops ops.size i j = true) → xs j = ys j) → F i ys w) (h0 : G w0.drew)
    (hstep : ∀ i, i < ds.length → ∀ o, ops[i]? = some o → ∀ xs w, G w → (∀ j, j < ds.length → reach ops ops.size i j = true → F j xs w) →
      o.wp P (fillIn a0 ds xs 0) w (fun a' w' => ∃ v, a' = (fillIn a0 ds xs 0).put o.dst v ∧ F i (upd xs i v) w' ∧ Ext rs w w' ∧ (al i = true → NewPtr v w w')) Q)
    (hsz : ds.all (fun d => match d with | some d => decide (d < a0.tmps.size) | none => true) = true)
    (hguard : ∀ i, i < ds.length → ∀ o, ops[i]? = some o → ∀ j b, o.guard = some (j, b) → ∀ xs w, F j xs w → xs j = .bool b)
    (hend : ∀ xs w, G w → Apart al ds.length xs → (∀ j, j < ds.length → F j xs w) → wpList P ops Q (ops.toList.drop ds.length) (fillIn a0 ds xs 0) w) :
    (Code.region id ops true).wp P Q a0 w0 := by
  refine wp_region_any hm ?_
  obtain ⟨hnd, hle⟩ := okRegion_dsG hok
  have main : ∀ (fuel : Nat) (listed : Array Bool) (w : World) (xs : Nat → Value), (List.range ops.size).countP (fun j => !listed.getD j false) ≤ fuel → listed.size = ops.size → Down ops listed →
      (∀ j, ds.length ≤ j → listed.getD j false = false) → G w → (∀ j, j < ds.length → listed.getD j false = true → F j xs w) →
      (∀ j, j < ds.length → listed.getD j false = true → al j = true → ∃ g, xs j = .pointer (some ⟨g, 0, none⟩) ∧ g < w.heap.size) → (∀ i j, i < ds.length → j < ds.length → listed.getD i false = true → listed.getD j false = true → al i = true → al j = true → i ≠ j → xs i ≠ xs j) →
      wpAny P .any ops Q fuel listed (fillIn a0 ds xs 0) w := by
    intro fuel
    induction fuel with
    | zero =>
      intro listed w xs hf hs hd ht hg hx hfr hdi
      have hall : ∀ j, j < ops.size → listed.getD j false = true := fun j hj => by
        have := List.countP_eq_zero.1 (Nat.le_zero.1 hf) j (by simpa using hj)
        simpa using this
      have hds : ds.length = ops.size := by
        rcases Nat.lt_or_ge ds.length ops.size with x | x
        · have := hall _ x
          rw [ht _ (Nat.le_refl _)] at this
          simp at this
        · omega
      refine tail_anyG hok 0 ops.size listed _ w (by omega) hle (Nat.le_refl _) hs (fun j hj => by rw [hall j hj]; simp [hj]) ?_
      rw [← hds]
      exact hend xs w hg (fun i j hi hj => hdi i j hi hj (hall i (by omega)) (hall j (by omega))) fun j hj => hx j hj (hall j (by omega))
    | succ fuel ih =>
      intro listed w xs hf hs hd ht hg hx hfr hdi
      by_cases hall : ∀ j, j < ds.length → listed.getD j false = true
      · refine tail_anyG hok (fuel + 1) ds.length listed _ w ?_ (Nat.le_refl _) hle hs (fun j hj => ?_) (hend xs w hg (fun i j hi hj => hdi i j hi hj (hall i hi) (hall j hj)) fun j hj => hx j hj (hall j hj))
        · have h1 : (List.range ops.size).countP (fun j => decide (ds.length ≤ j)) ≤ (List.range ops.size).countP (fun j => !listed.getD j false) :=
            List.countP_mono_left fun j _ h => by simp at h; rw [ht j h]; rfl
          have h2 : ∀ (m n : Nat), (List.range m).countP (fun j => decide (n ≤ j)) = m - n := by
            intro m n
            induction m with
            | zero => simp
            | succ m ihm =>
              rw [List.range_succ, List.countP_append, ihm]
              simp [List.countP_cons]
              split <;> omega
          rw [h2] at h1
          omega
        · by_cases hj2 : j < ds.length
          · rw [hall j hj2]; simp [hj2]
          · rw [ht j (by omega)]; simp; omega
      · have hready : ∃ i, i ∈ Region.ready .any ops listed := by
          have : ∃ i, i < ds.length ∧ listed.getD i false = false := by
            refine Classical.byContradiction fun hno => hall fun j hj => ?_
            cases hj' : listed.getD j false
            · exact absurd ⟨j, hj, hj'⟩ hno
            · rfl
          obtain ⟨i, hi, hl⟩ := this
          have least : ∀ i, i < ops.size → listed.getD i false = false → ∃ k, k ∈ Region.ready .any ops listed := by
            intro i
            induction i using Nat.strongRecOn with
            | _ i ihi =>
              intro hi hl
              have hoi : ops[i]? = some ops[i] := Array.getElem?_eq_getElem hi
              by_cases hdep : ∀ e ∈ ops[i].after, Region.binds .any e = true → listed.getD e.on false = true
              · exact ⟨i, mem_ready.2 ⟨by rw [getD_both (by omega) true false, hl], _, hoi, hdep⟩⟩
              · simp only [Classical.not_forall] at hdep
                obtain ⟨e, he, hb, hne⟩ := hdep
                have := (okRegion_atG hok hoi).1 e he hb
                exact ihi e.on this (by omega) (by simpa using hne)
          exact least i (by omega) hl
        refine ⟨fun hn => by obtain ⟨i, hi⟩ := hready; rw [hn] at hi; simp at hi, fun i hi => ?_⟩
        obtain ⟨hl, o, ho, hdep⟩ := mem_ready.1 hi
        have hilt := (Array.getElem?_eq_some_iff.1 ho).1
        rw [getD_both (by omega) true false] at hl
        have hid : i < ds.length := by
          rcases Nat.lt_trichotomy i ds.length with x | x | x
          · exact x
          · refine absurd (fun j hj => ?_) hall
            exact reach_listed hd ops.size i j o ho hdep ((okRegion_atG hok ho).2.2.2 x j hj)
          · obtain ⟨e, he, hb, hx'⟩ := (okRegion_atG hok ho).2.2.1 x
            have := hdep e he hb
            rw [ht _ (by omega)] at this
            simp at this
        obtain ⟨hgn, hdst⟩ := (okRegion_atG hok ho).2.1 hid
        have hw := hstep i hid o ho xs w hg fun j hj hr => hx j hj (reach_listed hd ops.size i j o ho hdep hr)
        unfold wpOp
        rw [ho]
        have hwt : Region.wanted o (yielded ops (fillIn a0 ds xs 0).tmps) = true := by
          unfold Region.wanted
          cases hgg : o.guard with
          | none => rfl
          | some p =>
            obtain ⟨j, b⟩ := p
            unfold guardOk at hgn
            rw [hgg] at hgn
            simp only [Bool.and_eq_true, Array.any_eq_true', beq_iff_eq, decide_eq_true_eq] at hgn
            obtain ⟨⟨⟨e, he, hb, hej⟩, hjlt⟩, hdj⟩ := hgn
            have hjl : listed.getD j false = true := hej ▸ hdep e he hb
            have hxj : xs j = .bool b := hguard i hid o ho j b hgg xs w (hx j hjlt hjl)
            have hoj : ops[j]? = some (ops[j]'(by omega)) := Array.getElem?_eq_getElem (by omega)
            have hdd := ((okRegion_atG hok hoj).2.1 hjlt).2
            cases hdc : (ops[j]'(by omega)).dst with
            | none =>
              rw [hdc] at hdd
              rw [← hdd] at hdj
              simp at hdj
            | some d =>
              rw [hdc] at hdd
              have hlt : d < a0.tmps.size := by
                have hmem : some d ∈ ds := List.mem_of_getElem? hdd.symm
                have := List.all_eq_true.1 hsz _ hmem
                simpa using this
              have hnew := fill_new ds a0 xs 0 j d hnd hdd.symm hlt
              rw [Nat.zero_add, hxj] at hnew
              have hy : yielded ops (fillIn a0 ds xs 0).tmps j = some b := by
                unfold yielded
                rw [hoj, Option.bind_some, hdc, Option.bind_some, hnew]
              show (yielded ops (fillIn a0 ds xs 0).tmps j == some b) = true
              rw [hy]
              simp
        simp only [hwt, if_true]
        refine .inl (Oper.wp_mono (fun a' w' ha => ?_) hw)
        obtain ⟨v, rfl, hFv, hB, hnew⟩ := ha
        have hfill : (fillIn a0 ds xs 0).put o.dst v = fillIn a0 ds (upd xs i v) 0 := by
          have hdo : ds[i]? = some o.dst := hdst.symm
          have := fill_upd ds a0 xs 0 i _ v hnd hdo
          rw [Nat.zero_add] at this
          exact this.symm
        rw [hfill]
        refine ih _ w' _ ?_ (by simp [hs]) ?_ ?_ (hG w w' hg hB) ?_ ?_ ?_
        · have : (List.range ops.size).countP (fun j => !(listed.setIfInBounds i true).getD j false) < (List.range ops.size).countP (fun j => !listed.getD j false) := by
            refine countP_lt _ i ?_ (by simpa using hilt) (by rw [hl]; rfl) ?_
            · intro x _ h
              rw [getD_set _ (by omega)] at h
              by_cases hxi : x = i
              · rw [if_pos hxi] at h; simp at h
              · rwa [if_neg hxi] at h
            · rw [getD_set _ (by omega), if_pos rfl]; rfl
          omega
        · intro j o' hj ho' e he hb
          rw [getD_set _ (by omega)] at hj ⊢
          by_cases hei : e.on = i
          · rw [if_pos hei]
          · rw [if_neg hei]
            by_cases hji : j = i
            · subst hji
              rw [ho] at ho'
              cases ho'
              exact hdep e he hb
            · rw [if_neg hji] at hj
              exact hd j o' hj ho' e he hb
        · intro j hj
          rw [getD_set _ (by omega), if_neg (by omega)]
          exact ht j hj
        · intro j hj hjl
          by_cases hji : j = i
          · rw [hji]; exact hFv
          · rw [getD_set _ (by omega), if_neg hji] at hjl
            refine hagree j xs _ w' hj (hF j _ w w' hj (hx j hj hjl) hB) fun k hk => ?_
            have hki : k ≠ i := fun e => by
              subst e
              rcases hk with hk | hk
              · exact hji hk.symm
              · have hoj : ops[j]? = some (ops[j]'(by omega)) := Array.getElem?_eq_getElem (by omega)
                have := reach_listed hd ops.size j k _ hoj (fun e he hb => hd j _ hjl hoj e he hb) hk
                rw [this] at hl
                simp at hl
            unfold upd
            rw [if_neg hki]
        · intro j hj hjl hal
          unfold upd
          by_cases hji : j = i
          · rw [if_pos hji]
            obtain ⟨e, hlt⟩ := hnew (hji ▸ hal)
            exact ⟨_, e, hlt⟩
          · rw [if_neg hji]
            rw [getD_set _ (by omega), if_neg hji] at hjl
            obtain ⟨g, e, hlt⟩ := hfr j hj hjl hal
            exact ⟨g, e, Nat.lt_of_lt_of_le hlt hB.size⟩
        · intro j k hj hk hjl hkl haj hak hjk
          rw [getD_set _ (by omega)] at hjl hkl
          unfold upd
          by_cases hji : j = i
          · have hki : ¬ k = i := fun e => hjk (hji.trans e.symm)
            rw [if_pos hji, if_neg hki]
            rw [if_neg hki] at hkl
            obtain ⟨e, _⟩ := hnew (hji ▸ haj)
            obtain ⟨g, e2, hlt⟩ := hfr k hk hkl hak
            rw [e, e2]
            intro h
            simp at h
            omega
          · rw [if_neg hji] at hjl ⊢
            by_cases hki : k = i
            · rw [if_pos hki]
              obtain ⟨e, _⟩ := hnew (hki ▸ hak)
              obtain ⟨g, e2, hlt⟩ := hfr j hj hjl haj
              rw [e, e2]
              intro h
              simp at h
              omega
            · rw [if_neg hki] at hkl ⊢
              exact hdi j k hj hk hjl hkl haj hak hjk
  have hx0 : fillIn a0 ds (fun i => a0.tmps.getD (((ds[i]?).getD none).getD 0) undef) 0 = a0 := fill_start a0 ds 0 _ fun i d hd => by simp [hd]
  have := main ops.size (Array.replicate ops.size false) w0.drew (fun i => a0.tmps.getD (((ds[i]?).getD none).getD 0) undef) (by
    refine Nat.le_trans (List.countP_le_length) (by simp)) (by simp) (fun j o hj => by simp [Array.getD_eq_getD_getElem?, Array.getElem?_replicate] at hj; split at hj <;> simp at hj) (fun j _ => by
      simp [Array.getD_eq_getD_getElem?, Array.getElem?_replicate]; split <;> rfl) h0 (fun j _ hj => by
      simp [Array.getD_eq_getD_getElem?, Array.getElem?_replicate] at hj; split at hj <;> simp at hj) (fun j _ hj => by
      simp [Array.getD_eq_getD_getElem?, Array.getElem?_replicate] at hj; split at hj <;> simp at hj) (fun j _ _ _ hj => by
      simp [Array.getD_eq_getD_getElem?, Array.getElem?_replicate] at hj; split at hj <;> simp at hj)
  rw [hx0] at this
  exact this

def okDepsG (ops : Array Oper) (n : Nat) (deps : List (List Nat)) : Bool :=
  decide (deps.length = n) && (List.range n).all fun i => (deps.getD i []).all fun j => decide (j < n) && direct ops i j
def okUsesG (ops : Array Oper) (us : List (List Nat)) : Bool := (List.range us.length).all fun i => (us.getD i []).all fun j => j == i || direct ops i j
theorem region_stepsXG {ds : List (Option Tmp)} {id : Nat} {a0 : Act} {w0 : World} (rs : List ((Nat → Bool) × TypeId × Array Value)) (deps : List (List Nat)) (al : Nat → Bool) (F : Nat → (Nat → Value) → World → Prop) (G : World → Prop) (hm : P.follows .mixedOrders = true) (hok : okRegionG ops ds = true) (hdeps : okDepsG ops ds.length deps = true)
    (hG : ∀ w w', G w → Ext rs w w' → G w') (hF : ∀ i xs w w', F i xs w → Ext rs w w' → F i xs w') (hdep : ∀ i xs ys w, i < ds.length → F i xs w → (∀ j, (j = i ∨ reach ops ops.size i j = true) → xs j = ys j) → F i ys w) (h0 : G w0.drew)
    (hstep : Steps rs P Q F G a0 ds al (ops.toList.take ds.length) deps 0)
    (hsz : ds.all (fun d => match d with | some d => decide (d < a0.tmps.size) | none => true) = true)
    (hguard : ∀ i, i < ds.length → ∀ o, ops[i]? = some o → ∀ j b, o.guard = some (j, b) → ∀ xs w, F j xs w → xs j = .bool b)
    (hend : ∀ xs w, G w → Apart al ds.length xs → Facts F xs w (List.range ds.length) → wpList P ops Q (ops.toList.drop ds.length) (fillIn a0 ds xs 0) w) :
    (Code.region id ops true).wp P Q a0 w0 := by
  unfold okDepsG at hdeps
  simp only [Bool.and_eq_true, decide_eq_true_eq, List.all_eq_true, List.mem_range] at hdeps
  obtain ⟨hlen, hd⟩ := hdeps
  refine region_freeG rs al hm hok F G hG (fun i v w w' _ h hb => hF i v w w' h hb) hdep h0 (fun i hi o ho xs w hg hf => ?_) hsz hguard fun xs w hg ha hf => hend xs w hg ha (facts_of _ fun j hj => hf j (by simpa using hj))
  have hdi : deps[i]? = some (deps[i]'(by omega)) := List.getElem?_eq_getElem (by omega)
  have := steps_at _ deps 0 i o _ hstep (by rw [List.getElem?_take, if_pos hi]; simpa using ho) hdi xs w hg (facts_of _ fun j hj => by
    have := hd i hi j (by rw [List.getD_eq_getElem?_getD, hdi]; exact hj)
    exact hf j this.1 (reach_direct this.2))
  rw [Nat.zero_add] at this
  exact this.run
end
/-- Which results are known bools. -/
def BoolItems {rs : Rows} : List (Item rs) → List (Option Bool) → Nat → Prop
  | it :: L, some b :: bs, k => (∀ xs w, it.P xs w → xs k = .bool b) ∧ BoolItems L bs (k + 1)
  | _ :: L, none :: bs, k => BoolItems L bs (k + 1)
  | _, _, _ => True
theorem bool_at {rs : Rows} : ∀ (L : List (Item rs)) (bs : List (Option Bool)) (k i : Nat) (b : Bool), BoolItems L bs k → i < L.length → bs[i]? = some (some b) → ∀ xs w, (L.getD i (Item.none rs)).P xs w → xs (k + i) = .bool b
  | [], _, _, _, _, _, hi, _ => by simp at hi
  | _ :: _, [], _, _, _, _, _, h => by simp at h
  | it :: L, o :: bs, k, 0, b, hb, _, h => by
    simp only [List.getElem?_cons_zero, Option.some.injEq] at h
    subst h
    intro xs w hp
    exact hb.1 xs w (by simpa using hp)
  | it :: L, o :: bs, k, i + 1, b, hb, hi, h => by
    intro xs w hp
    have hb' : BoolItems L bs (k + 1) := by
      cases o with
      | none => exact hb
      | some c => exact hb.2
    have := bool_at L bs (k + 1) i b hb' (by simpa using hi) (by simpa using h) xs w (by simpa using hp)
    rw [show k + 1 + i = k + (i + 1) by omega] at this
    exact this
def okGuards (ops : Array Oper) (n : Nat) (bs : List (Option Bool)) : Bool := (List.range n).all fun i => match ops[i]? with
  | some o => (match o.guard with
    | none => true
    | some (j, b) => (match bs[j]? with | some (some c) => c == b | _ => false))
  | none => true
section
variable {P : Program} {ops : Array Oper} {Q : Exit → Act → World → Prop}
theorem guards_of {rs : Rows} {L : List (Item rs)} {bs : List (Option Bool)} {n : Nat} (hbs : BoolItems L bs 0) (hlen : bs.length ≤ L.length) (hgs : okGuards ops n bs = true) :
    ∀ i, i < n → ∀ o, ops[i]? = some o → ∀ j b, o.guard = some (j, b) → ∀ xs w, itemF L j xs w → xs j = .bool b := by
  intro i hi o ho j b hg xs w hF
  unfold okGuards at hgs
  simp only [List.all_eq_true, List.mem_range] at hgs
  have h := hgs i hi
  rw [ho] at h
  simp only [hg] at h
  cases hb : bs[j]? with
  | none => rw [hb] at h; simp at h
  | some c =>
    rw [hb] at h
    cases c with
    | none => simp at h
    | some c =>
      have hc : c = b := by simpa using h
      subst hc
      unfold itemF at hF
      by_cases hj : j < L.length
      · have := bool_at L bs 0 j c hbs hj hb xs w hF
        rw [Nat.zero_add] at this
        exact this
      · exact absurd (List.getElem?_eq_some_iff.1 hb).1 (by omega)
theorem region_kitG {ds : List (Option Tmp)} {id : Nat} {a0 : Act} {w0 : World} (rs : Rows) (deps : List (List Nat)) (al : Nat → Bool) (L : List (Item rs)) (G : World → Prop) (hm : P.follows .mixedOrders = true) (hok : okRegionG ops ds = true) (hdeps : okDepsG ops ds.length deps = true) (huses : okUsesG ops (L.map (·.uses)) = true)
    (hG : ∀ w w', G w → Ext rs w w' → G w') (h0 : G w0.drew)
    (hstep : Steps rs P Q (itemF L) G a0 ds al (ops.toList.take ds.length) deps 0)
    (bs : List (Option Bool)) (hbs : BoolItems L bs 0) (hlen : bs.length ≤ L.length) (hgs : okGuards ops ds.length bs = true) (hsz : ds.all (fun d => match d with | some d => decide (d < a0.tmps.size) | none => true) = true)
    (hend : ∀ xs w, G w → Apart al ds.length xs → Facts (itemF L) xs w (List.range ds.length) → wpList P ops Q (ops.toList.drop ds.length) (fillIn a0 ds xs 0) w) :
    (Code.region id ops true).wp P Q a0 w0 :=
  region_stepsXG rs deps al (itemF L) G hm hok hdeps hG (fun i xs w w' h he => (L.getD i (Item.none rs)).mono xs w w' h he) (fun i xs ys w _ h he => by
    refine (L.getD i (Item.none rs)).agree xs ys w h fun j hj => he j ?_
    unfold okUsesG at huses
    simp only [List.all_eq_true, List.mem_range, List.length_map, Bool.or_eq_true, beq_iff_eq] at huses
    by_cases hi : i < L.length
    · have e : (L.getD i (Item.none rs)).uses = (L.map (·.uses)).getD i [] := by
        simp [List.getD_eq_getElem?_getD, hi]
      rw [e] at hj
      exact (huses i hi j hj).elim .inl (fun h => .inr (reach_direct h))
    · have e : L.getD i (Item.none rs) = Item.none rs := by simp [List.getD_eq_getElem?_getD, List.getElem?_eq_none (show L.length ≤ i by omega)]
      rw [e] at hj
      simp [Item.none] at hj) h0 hstep hsz (guards_of hbs hlen hgs) hend
end
end Go.Proofs.Reg
