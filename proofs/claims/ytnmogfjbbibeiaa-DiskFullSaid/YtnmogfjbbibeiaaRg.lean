/- A region that draws its order, by what each operation leaves: whatever order, each result keeps what is said of it. -/
import Derived.Orders
import Derived.Test.YtnmogfjbbibeiaaBase
namespace Go.Proofs.Ytnmogfjbbibeiaa
set_option maxRecDepth 100000
open Go.RowKit
set_option linter.unusedVariables false

def lacks (l : Array Bool) : Nat := (l.toList.filter fun b => !b).length
theorem lacks_all {l : Array Bool} (h : lacks l = 0) (i : Nat) : l.getD i true = true := by
  have h1 := List.eq_nil_of_length_eq_zero h
  rw [List.filter_eq_nil_iff] at h1
  by_cases hi : i < l.size
  · have := h1 l[i] (by simp)
    simpa [Array.getD, hi] using this
  · simp [Array.getD, hi]
theorem lacks_list : ∀ (l : List Bool) (i : Nat), l[i]? = some false → ((l.set i true).filter fun b => !b).length + 1 = (l.filter fun b => !b).length := by
  intro l
  induction l with
  | nil => intro i h; simp at h
  | cons x l ih =>
    intro i h
    cases i with
    | zero =>
      have : x = false := by simpa using h
      subst this
      simp
    | succ i =>
      have := ih i (by simpa using h)
      cases x <;> simp [this] <;> omega
theorem lacks_set {l : Array Bool} {i : Nat} (h : l.getD i true = false) : lacks (l.setIfInBounds i true) + 1 = lacks l := by
  have hi : i < l.size := by
    rcases Nat.lt_or_ge i l.size with h1 | h1
    · exact h1
    · rw [show l.getD i true = true by simp [Array.getD, Nat.not_lt.2 h1]] at h; cases h
  unfold lacks
  rw [Array.toList_setIfInBounds]
  refine lacks_list _ _ ?_
  simp [Array.getD, hi] at h
  simp [hi, h]
theorem ready_mem {md : Region.Mode} {ops : Array Oper} {l : Array Bool} {i : Nat} (h : i ∈ Region.ready md ops l) :
    l.getD i true = false ∧ ∃ o, ops[i]? = some o ∧ ∀ e ∈ o.after, Region.binds md e = true → l.getD e.on false = true := by
  unfold Region.ready at h
  simp only [List.mem_filter, List.mem_range, Bool.and_eq_true, Bool.not_eq_true'] at h
  obtain ⟨hi, h1, h2⟩ := h
  refine ⟨h1, ops[i], by simp [hi], fun e he hb => ?_⟩
  rw [show ops[i]? = some ops[i] by simp [hi]] at h2
  simp only [Option.map_some, Option.getD_some, Array.all_eq_true, Bool.or_eq_true, Bool.not_eq_true'] at h2
  obtain ⟨k, hk, rfl⟩ := Array.getElem_of_mem he
  rcases h2 k hk with h3 | h3
  · rw [hb] at h3; cases h3
  · exact h3
section
variable {P : Program} {ops : Array Oper} {Q : Exit → Act → World → Prop} {md : Region.Mode}
theorem wpAny_inv (Inv : Array Bool → Act → World → Prop)
    (step : ∀ l a w i, Inv l a w → i ∈ Region.ready md ops l → wpOp P ops Q i (fun a' w' => Inv (l.setIfInBounds i true) a' w') a w)
    (done : ∀ l a w, Inv l a w → Region.ready md ops l = [] → Q .normal a w) :
    ∀ (fuel : Nat) (l : Array Bool) (a : Act) (w : World), lacks l ≤ fuel → Inv l a w → wpAny P md ops Q fuel l a w := by
  intro fuel
  induction fuel with
  | zero =>
    intro l a w hl h
    have hr : Region.ready md ops l = [] := by
      unfold Region.ready
      rw [List.filter_eq_nil_iff]
      intro i _
      simp [lacks_all (by omega : lacks l = 0) i]
    exact ⟨hr, done l a w h hr⟩
  | succ fuel ih =>
    intro l a w hl h
    refine ⟨done l a w h, fun i hi => wpOp_mono (fun a' w' h' => ih _ a' w' ?_ h') (step l a w i h hi)⟩
    have := lacks_set (ready_mem hi).1
    omega
/-- The temporary that number i fills. -/
def dstOf (ops : Array Oper) (i : Nat) : Option Tmp := (ops[i]?).bind (·.dst)
/-- What is left alone: the temporaries that none fills. -/
def Same0 (ops : Array Oper) (a0 a : Act) : Prop := a.defers = a0.defers ∧ a.tmps.size = a0.tmps.size ∧ ∀ t, (∀ i, dstOf ops i ≠ some t) → a.tmps.getD t undef = a0.tmps.getD t undef
theorem put_eq {a : Act} {d : Tmp} {v : Value} (h : d < a.tmps.size) : (a.put (some d) v).tmps.getD d undef = v := by
  simp [Act.put, Array.getD, h]
theorem put_ne {a : Act} {d t : Tmp} {v : Value} (h : t ≠ d) : (a.put (some d) v).tmps.getD t undef = a.tmps.getD t undef := by
  simp [Act.put, Array.getD_eq_getD_getElem?, Ne.symm h]
theorem ready_none {l : Array Bool} (hacy : ∀ (i : Nat) (o : Oper), ops[i]? = some o → ∀ e ∈ o.after, e.on < i) (hl : l.size = ops.size) (hr : Region.ready md ops l = []) : ∀ i, i < ops.size → l.getD i false = true := by
  intro i
  induction i using Nat.strongRecOn with
  | ind i ih =>
    intro hi
    unfold Region.ready at hr
    rw [List.filter_eq_nil_iff] at hr
    have h1 := hr i (by simpa using hi)
    have ho : ops[i]? = some ops[i] := by simp [hi]
    rw [ho] at h1
    simp only [Option.map_some, Option.getD_some, Bool.and_eq_true, Bool.not_eq_true', not_and, Bool.not_eq_true] at h1
    by_cases hx : l.getD i true = false
    · have h2 := h1 hx
      rw [Array.all_eq_false] at h2
      obtain ⟨k, hk, h3⟩ := h2
      rw [Bool.or_eq_true, not_or] at h3
      have hlt := hacy i _ ho _ (Array.getElem_mem hk)
      exact absurd (ih _ hlt (by omega)) h3.2
    · have : l.getD i true = true := by simpa using hx
      rw [Array.getD_eq_getD_getElem?] at this ⊢
      rw [Array.getElem?_eq_getElem (by omega)] at this ⊢
      exact this
/-- **Whatever the order**: each operation, when those that it waits for have come up and keep what is said of them, leaves what is said of it, and disturbs nothing. -/
theorem region_inv {id : Nat} {a0 : Act} {w0 : World} (F : Nat → Value → World → Prop) (hm : P.follows .mixedOrders = true)
    (stable : ∀ i v w w', F i v w → Kp [] w w' → F i v w')
    (hfill : ∀ (i : Nat) (o : Oper), ops[i]? = some o → ∃ d, o.dst = some d ∧ d < a0.tmps.size)
    (hone : ∀ i j, i < ops.size → j < ops.size → i ≠ j → dstOf ops i ≠ dstOf ops j)
    (step : ∀ (i : Nat) (o : Oper), ops[i]? = some o → ∀ (a : Act) (w : World) (K : Act → World → Prop), Same0 ops a0 a → Kp [] w0 w →
      (∀ j t, (o.after.any fun e => e.on == j && Region.binds .any e) = true → dstOf ops j = some t → F j (a.tmps.getD t undef) w) →
      (∀ v w', Kp [] w w' → F i v w' → K (a.put o.dst v) w') → wpOp P ops Q i K a w)
    (done : ∀ (a : Act) (w : World), Same0 ops a0 a → Kp [] w0 w → (∀ j t, dstOf ops j = some t → F j (a.tmps.getD t undef) w) → Q .normal a w)
    (hacy : ∀ (i : Nat) (o : Oper), ops[i]? = some o → ∀ e ∈ o.after, e.on < i) :
    (Code.region id ops true).wp P Q a0 w0 := by
  refine wp_region_any hm (wpAny_inv (md := .any) (ops := ops) (Q := Q) (P := P) (fun l a w => l.size = ops.size ∧ Same0 ops a0 a ∧ Kp [] w0 w ∧ ∀ j t, l.getD j false = true → dstOf ops j = some t → F j (a.tmps.getD t undef) w) ?_ ?_ _ _ _ _ ?_ ?_)
  · rintro l a w i ⟨hl, hs, hk, hf⟩ hi
    obtain ⟨hi1, o, ho, haft⟩ := ready_mem hi
    have hio : i < ops.size := (Array.getElem?_eq_some_iff.1 ho).1
    refine step i o ho a w _ hs hk (fun j t hj ht => hf j t ?_ ht) fun v w' hk' hv => ?_
    · rw [Array.any_eq_true] at hj
      obtain ⟨k, hk2, h2⟩ := hj
      rw [Bool.and_eq_true, beq_iff_eq] at h2
      have := haft _ (Array.getElem_mem hk2) h2.2
      rwa [h2.1] at this
    · obtain ⟨d, hod, hdl⟩ := hfill i o ho
      have hdi : dstOf ops i = some d := by simp [dstOf, ho, hod]
      rw [hod]
      refine ⟨by simpa using hl, ⟨hs.1, by simpa [Act.put] using hs.2.1, fun t ht => ?_⟩, hk.trans hk', fun j t hj ht => ?_⟩
      · rw [put_ne (fun e => ht i (by rw [hdi, e]))]
        exact hs.2.2 t ht
      · by_cases hji : j = i
        · subst hji
          rw [hdi] at ht
          injection ht with ht
          subst ht
          rw [put_eq (by rw [hs.2.1]; exact hdl)]
          exact hv
        · have hjo : j < ops.size := by
            unfold dstOf at ht
            cases hoj : ops[j]? with
            | none => rw [hoj] at ht; cases ht
            | some _ => exact (Array.getElem?_eq_some_iff.1 hoj).1
          have htd : t ≠ d := fun e => hone j i hjo hio hji (by rw [ht, hdi, e])
          rw [put_ne htd]
          refine stable _ _ _ _ (hf j t ?_ ht) hk'
          simpa [Array.getD_eq_getD_getElem?, Array.getElem?_setIfInBounds, Ne.symm hji] using hj
  · rintro l a w ⟨hl, hs, hk, hf⟩ hr
    refine done a w hs hk fun j t ht => hf j t ?_ ht
    refine ready_none hacy hl hr j ?_
    unfold dstOf at ht
    cases hoj : ops[j]? with
    | none => rw [hoj] at ht; cases ht
    | some _ => exact (Array.getElem?_eq_some_iff.1 hoj).1
  · unfold lacks
    refine Nat.le_trans (List.length_filter_le _ _) ?_
    simp
  · refine ⟨by simp, ⟨rfl, rfl, fun _ _ => rfl⟩, (Kp.rfl_ [] w0).drew, fun j t hj => ?_⟩
    rw [Array.getD_eq_getD_getElem?, Array.getElem?_replicate] at hj
    split at hj <;> simp at hj
/-- The checks, as one number that is counted. -/
def fillOK (ops : Array Oper) (N : Nat) : Bool := (List.range ops.size).all fun i => ((ops[i]?).map fun o => (o.dst.map fun d => decide (d < N)).getD false).getD true
def oneOK (ops : Array Oper) : Bool := (List.range ops.size).all fun i => (List.range ops.size).all fun j => i == j || dstOf ops i != dstOf ops j
def acyOK (ops : Array Oper) : Bool := (List.range ops.size).all fun i => ((ops[i]?).map fun o => o.after.toList.all fun e => decide (e.on < i)).getD true
theorem nofill {t : Tmp} (h : ((List.range ops.size).all fun i => dstOf ops i != some t) = true) (i : Nat) : dstOf ops i ≠ some t := by
  intro e
  have hi : i < ops.size := by
    unfold dstOf at e
    cases hoi : ops[i]? with
    | none => rw [hoi] at e; cases e
    | some _ => exact (Array.getElem?_eq_some_iff.1 hoi).1
  rw [List.all_eq_true] at h
  have := h i (List.mem_range.2 hi)
  rw [e] at this
  simp at this
theorem region_inv' {id : Nat} {a0 : Act} {w0 : World} (F : Nat → Value → World → Prop) (hm : P.follows .mixedOrders = true) (N : Nat) (hN : a0.tmps.size = N)
    (hfill : fillOK ops N = true) (hone : oneOK ops = true) (hacy : acyOK ops = true)
    (stable : ∀ i v w w', F i v w → Kp [] w w' → F i v w')
    (step : ∀ (i : Nat) (o : Oper), ops[i]? = some o → ∀ (a : Act) (w : World) (K : Act → World → Prop), Same0 ops a0 a → Kp [] w0 w →
      (∀ j t, (o.after.any fun e => e.on == j && Region.binds .any e) = true → dstOf ops j = some t → F j (a.tmps.getD t undef) w) →
      (∀ v w', Kp [] w w' → F i v w' → K (a.put o.dst v) w') → wpOp P ops Q i K a w)
    (done : ∀ (a : Act) (w : World), Same0 ops a0 a → Kp [] w0 w → (∀ j t, dstOf ops j = some t → F j (a.tmps.getD t undef) w) → Q .normal a w) :
    (Code.region id ops true).wp P Q a0 w0 := by
  subst hN
  refine region_inv F hm stable (fun i o ho => ?_) (fun i j hi hj hij => ?_) step done (fun i o ho e he => ?_)
  · unfold fillOK at hfill
    rw [List.all_eq_true] at hfill
    have := hfill i (List.mem_range.2 (Array.getElem?_eq_some_iff.1 ho).1)
    rw [ho] at this
    cases hd : o.dst with
    | none => simp [hd] at this
    | some d => exact ⟨d, rfl, by simpa [hd] using this⟩
  · unfold oneOK at hone
    rw [List.all_eq_true] at hone
    have h1 := hone i (List.mem_range.2 hi)
    rw [List.all_eq_true] at h1
    have h2 := h1 j (List.mem_range.2 hj)
    simpa [hij] using h2
  · unfold acyOK at hacy
    rw [List.all_eq_true] at hacy
    have := hacy i (List.mem_range.2 (Array.getElem?_eq_some_iff.1 ho).1)
    rw [ho] at this
    simp only [Option.map_some, Option.getD_some, List.all_eq_true] at this
    simpa using this e (by simpa using he)
theorem fold_put (v : Nat → Value) : ∀ (ds : List Tmp) (a0 : Act), (∀ d ∈ ds, d < a0.tmps.size) → (ds.foldl (fun b d => b.put (some d) (v d)) a0).defers = a0.defers ∧ (ds.foldl (fun b d => b.put (some d) (v d)) a0).tmps.size = a0.tmps.size ∧
    ∀ t, (ds.foldl (fun b d => b.put (some d) (v d)) a0).tmps.getD t undef = if t ∈ ds then v t else a0.tmps.getD t undef := by
  intro ds
  induction ds with
  | nil => intro a0 _; exact ⟨rfl, rfl, fun t => by simp⟩
  | cons d ds ih =>
    intro a0 h
    have hd := h d (by simp)
    obtain ⟨h1, h2, h3⟩ := ih (a0.put (some d) (v d)) (fun x hx => by simpa [Act.put] using h x (by simp [hx]))
    refine ⟨h1, by rw [List.foldl_cons, h2]; simp [Act.put], fun t => ?_⟩
    rw [List.foldl_cons, h3]
    by_cases ht : t ∈ ds
    · simp [ht]
    · rw [if_neg ht]
      by_cases htd : t = d
      · subst htd
        rw [put_eq hd]
        simp
      · rw [put_ne htd]
        simp [ht, htd]
/-- The frame behind such a region: what its operations filled, laid over what was there. -/
theorem same_fold {a0 a : Act} (hs : Same0 ops a0 a) (ds : List Tmp) (hds : ((List.range ops.size).all fun i => match dstOf ops i with | some t => ds.contains t | none => true) = true) (hltb : (ds.all fun d => decide (d < a0.tmps.size)) = true) :
    a = ds.foldl (fun b d => b.put (some d) (a.tmps.getD d undef)) a0 := by
  have hlt : ∀ d ∈ ds, d < a0.tmps.size := by simpa using hltb
  obtain ⟨h1, h2, h3⟩ := fold_put (fun d => a.tmps.getD d undef) ds a0 hlt
  have hv : ∀ i, a.tmps.getD i undef = (ds.foldl (fun b d => b.put (some d) (a.tmps.getD d undef)) a0).tmps.getD i undef := by
    intro i
    rw [h3 i]
    by_cases hn : i ∈ ds
    · rw [if_pos hn]
    · rw [if_neg hn]
      refine hs.2.2 i fun k hk => hn ?_
      rw [List.all_eq_true] at hds
      have hki : k < ops.size := by
        unfold dstOf at hk
        cases hoj : ops[k]? with
        | none => rw [hoj] at hk; cases hk
        | some _ => exact (Array.getElem?_eq_some_iff.1 hoj).1
      have := hds k (List.mem_range.2 hki)
      rw [hk] at this
      simpa using this
  have ht : a.tmps = (ds.foldl (fun b d => b.put (some d) (a.tmps.getD d undef)) a0).tmps := by
    refine Array.ext (by rw [h2]; exact hs.2.1) fun i hi hj => ?_
    have := hv i
    rw [Array.getD_eq_getD_getElem?, Array.getD_eq_getD_getElem?, Array.getElem?_eq_getElem hi, Array.getElem?_eq_getElem hj] at this
    exact this
  exact (congr (congrArg Act.mk ht) (hs.1.trans h1.symm) : Act.mk _ _ = Act.mk _ _)
/-- The last operation (a store) waits for all others. -/
def lastOK (ops : Array Oper) : Bool := match ops[ops.size - 1]? with
  | some o => decide (o.dst = none) && (List.range (ops.size - 1)).all fun i => o.after.toList.any fun e => Region.binds .any e && e.on == i
  | none => false
def fillOK' (ops : Array Oper) (N : Nat) : Bool := (List.range (ops.size - 1)).all fun i => ((ops[i]?).map fun o => (o.dst.map fun d => decide (d < N)).getD false).getD true
def oneOK' (ops : Array Oper) : Bool := (List.range (ops.size - 1)).all fun i => (List.range (ops.size - 1)).all fun j => i == j || dstOf ops i != dstOf ops j
/-- The same of a region whose last operation is a store, behind all others. -/
theorem region_inv_s {id : Nat} {a0 : Act} {w0 : World} (F : Nat → Value → World → Prop) (hm : P.follows .mixedOrders = true) (N : Nat) (hN : a0.tmps.size = N)
    (hfill : fillOK' ops N = true) (hone : oneOK' ops = true) (hacy : acyOK ops = true) (hlast : lastOK ops = true)
    (stable : ∀ i v w w', F i v w → Kp [] w w' → F i v w')
    (step : ∀ (i : Nat) (o : Oper), i < ops.size - 1 → ops[i]? = some o → ∀ (a : Act) (w : World) (K : Act → World → Prop), Same0 ops a0 a → Kp [] w0 w →
      (∀ j t, (o.after.any fun e => e.on == j && Region.binds .any e) = true → dstOf ops j = some t → F j (a.tmps.getD t undef) w) →
      (∀ v w', Kp [] w w' → F i v w' → K (a.put o.dst v) w') → wpOp P ops Q i K a w)
    (last : ∀ (a : Act) (w : World), Same0 ops a0 a → Kp [] w0 w → (∀ j t, j < ops.size - 1 → dstOf ops j = some t → F j (a.tmps.getD t undef) w) → wpOp P ops Q (ops.size - 1) (fun a' w' => Q .normal a' w') a w) :
    (Code.region id ops true).wp P Q a0 w0 := by
  subst hN
  obtain ⟨ol, hol, hdl, hall⟩ : ∃ ol, ops[ops.size - 1]? = some ol ∧ ol.dst = none ∧ ∀ i, i < ops.size - 1 → ∃ e ∈ ol.after, Region.binds .any e = true ∧ e.on = i := by
    unfold lastOK at hlast
    cases h : ops[ops.size - 1]? with
    | none => rw [h] at hlast; simp at hlast
    | some o =>
      rw [h] at hlast
      simp only [Bool.and_eq_true, decide_eq_true_eq, List.all_eq_true, List.mem_range] at hlast
      refine ⟨o, rfl, hlast.1, fun i hi => ?_⟩
      have := hlast.2 i hi
      simp only [List.any_eq_true, Bool.and_eq_true, beq_iff_eq] at this
      obtain ⟨e, he, h1, h2⟩ := this
      exact ⟨e, by simpa using he, h1, h2⟩
  have hpos : 0 < ops.size := by
    have := (Array.getElem?_eq_some_iff.1 hol).1
    omega
  have hacy' : ∀ (i : Nat) (o : Oper), ops[i]? = some o → ∀ e ∈ o.after, e.on < i := by
    intro i o ho e he
    unfold acyOK at hacy
    rw [List.all_eq_true] at hacy
    have := hacy i (List.mem_range.2 (Array.getElem?_eq_some_iff.1 ho).1)
    rw [ho] at this
    simp only [Option.map_some, Option.getD_some, List.all_eq_true] at this
    simpa using this e (by simpa using he)
  refine wp_region_any hm (wpAny_inv (md := .any) (ops := ops) (Q := Q) (P := P) (fun l a w => l.size = ops.size ∧ ((l.getD (ops.size - 1) true = false ∧ Same0 ops a0 a ∧ Kp [] w0 w ∧ ∀ j t, l.getD j false = true → dstOf ops j = some t → F j (a.tmps.getD t undef) w) ∨ ((∀ j, j < ops.size → l.getD j false = true) ∧ Q .normal a w))) ?_ ?_ _ _ _ _ ?_ ?_)
  · rintro l a w i ⟨hl, hh⟩ hi
    obtain ⟨hi1, o, ho, haft⟩ := ready_mem hi
    have hio : i < ops.size := (Array.getElem?_eq_some_iff.1 ho).1
    rcases hh with ⟨hn, hs, hk, hf⟩ | ⟨hn, hq⟩
    · by_cases hil : i = ops.size - 1
      · subst hil
        rw [hol] at ho
        injection ho with ho
        subst ho
        have hd : ∀ j, j < ops.size - 1 → l.getD j false = true := by
          intro j hj
          obtain ⟨e, he, hb, hon⟩ := hall j hj
          have := haft e he hb
          rwa [hon] at this
        refine wpOp_mono (fun a' w' hq => ⟨by simpa using hl, .inr ⟨fun j hj => ?_, hq⟩⟩) (last a w hs hk fun j t hj ht => hf j t (hd j hj) ht)
        rw [Array.getD_eq_getD_getElem?]
        by_cases hjl : j = ops.size - 1
        · subst hjl
          rw [Array.getElem?_setIfInBounds_self]
          simp [hl, hj]
        · rw [Array.getElem?_setIfInBounds_ne (fun e => hjl e.symm), ← Array.getD_eq_getD_getElem?]
          exact hd j (by omega)
      · have hi2 : i < ops.size - 1 := by omega
        refine step i o hi2 ho a w _ hs hk (fun j t hj ht => hf j t ?_ ht) fun v w' hk' hv => ?_
        · rw [Array.any_eq_true] at hj
          obtain ⟨k, hk2, h2⟩ := hj
          rw [Bool.and_eq_true, beq_iff_eq] at h2
          have := haft _ (Array.getElem_mem hk2) h2.2
          rwa [h2.1] at this
        · have hfi : ∃ d, o.dst = some d ∧ d < a0.tmps.size := by
            unfold fillOK' at hfill
            rw [List.all_eq_true] at hfill
            have := hfill i (List.mem_range.2 hi2)
            rw [ho] at this
            cases hd : o.dst with
            | none => simp [hd] at this
            | some d => exact ⟨d, rfl, by simpa [hd] using this⟩
          obtain ⟨d, hod, hdl2⟩ := hfi
          have hdi : dstOf ops i = some d := by simp [dstOf, ho, hod]
          rw [hod]
          refine ⟨by simpa using hl, .inl ⟨?_, ⟨hs.1, by simpa [Act.put] using hs.2.1, fun t ht => ?_⟩, hk.trans hk', fun j t hj ht => ?_⟩⟩
          · rw [Array.getD_eq_getD_getElem?, Array.getElem?_setIfInBounds_ne (by omega), ← Array.getD_eq_getD_getElem?]
            exact hn
          · rw [put_ne (fun e => ht i (by rw [hdi, e]))]
            exact hs.2.2 t ht
          · by_cases hji : j = i
            · subst hji
              rw [hdi] at ht
              injection ht with ht
              subst ht
              rw [put_eq (by rw [hs.2.1]; exact hdl2)]
              exact hv
            · have hjo : j < ops.size := by
                unfold dstOf at ht
                cases hoj : ops[j]? with
                | none => rw [hoj] at ht; cases ht
                | some _ => exact (Array.getElem?_eq_some_iff.1 hoj).1
              have hjl : j ≠ ops.size - 1 := by
                intro e
                subst e
                unfold dstOf at ht
                rw [hol] at ht
                simp [hdl] at ht
              have htd : t ≠ d := by
                intro e
                unfold oneOK' at hone
                rw [List.all_eq_true] at hone
                have h1 := hone j (List.mem_range.2 (by omega))
                rw [List.all_eq_true] at h1
                have h2 := h1 i (List.mem_range.2 hi2)
                rw [ht, hdi, e] at h2
                simp [hji] at h2
              rw [put_ne htd]
              refine stable _ _ _ _ (hf j t ?_ ht) hk'
              simpa [Array.getD_eq_getD_getElem?, Array.getElem?_setIfInBounds, Ne.symm hji] using hj
    · have h1 := hn i hio
      rw [Array.getD_eq_getD_getElem?] at h1 hi1
      cases hx : l[i]? with
      | none => rw [hx] at h1; cases h1
      | some b => rw [hx] at h1 hi1; simp at h1 hi1; rw [hi1] at h1; cases h1
  · rintro l a w ⟨hl, hh⟩ hr
    rcases hh with ⟨hn, hs, hk, hf⟩ | ⟨_, hq⟩
    · have := ready_none hacy' hl hr (ops.size - 1) (by omega)
      rw [Array.getD_eq_getD_getElem?] at hn this
      cases hx : l[ops.size - 1]? with
      | none => rw [hx] at this; cases this
      | some b => rw [hx] at hn this; simp at hn this; rw [hn] at this; cases this
    · exact hq
  · unfold lacks
    refine Nat.le_trans (List.length_filter_le _ _) ?_
    simp
  · refine ⟨by simp, .inl ⟨?_, ⟨rfl, rfl, fun _ _ => rfl⟩, (Kp.rfl_ [] w0).drew, fun j t hj => ?_⟩⟩
    · rw [Array.getD_eq_getD_getElem?, Array.getElem?_replicate, if_pos (by omega)]
      rfl
    · rw [Array.getD_eq_getD_getElem?, Array.getElem?_replicate] at hj
      split at hj <;> simp at hj
theorem gd {a : Act} {t : Tmp} {v : Value} (h : a.tmps.getD t undef = v) : a.tmps[t]?.getD undef = v := by rw [← h]; simp [Array.getD_eq_getD_getElem?]
theorem wpOp_value {i : Nat} {o : Oper} {a : Act} {w w' : World} {K : Act → World → Prop} {v : Value} (ho : ops[i]? = some o) (hg : o.guard = none) (hrun : (execOp a.eval o).run P w = .ok (.value v) w') (h : K (a.put o.dst v) w') : wpOp P ops Q i K a w := by
  unfold wpOp
  rw [ho]
  simp only
  rw [if_pos (by simp [Region.wanted, hg])]
  refine .inl ?_
  unfold Oper.wp
  rw [hrun]
  exact h
theorem wpOp_call {i : Nat} {o : Oper} {a : Act} {w w1 : World} {K : Act → World → Prop} {f : FuncId} {args : Array Value} (ho : ops[i]? = some o) (hg : o.guard = none) (hrun : (execOp a.eval o).run P w = .ok (.enter f args) w1)
    (h : Calls P f args w1 fun e w' => ∃ v, e = .returned v ∧ K (a.put o.dst v) w') : wpOp P ops Q i K a w := by
  unfold wpOp
  rw [ho]
  simp only
  rw [if_pos (by simp [Region.wanted, hg])]
  refine .inl ?_
  unfold Oper.wp
  rw [hrun, Oper.upon_enter]
  refine h.mono fun e w' he => ?_
  obtain ⟨v, rfl, hk⟩ := he
  exact hk
theorem wpOp_move {i : Nat} {d : Option Tmp} {x : Operand} {ty : TypeId} {pos : String} {after : Array Edge} {a : Act} {w : World} {K : Act → World → Prop} {v : Value} (ho : ops[i]? = some { dst := d, op := .move x, type := ty, pos, after, guard := none }) (hx : a.eval x = v) (h : K (a.put d v) w) : wpOp P ops Q i K a w := by
  refine wpOp_value ho rfl (v := v) (w' := w) ?_ h
  rw [← hx]
  rfl
theorem wanted_of {o : Oper} {a : Act} {j d : Nat} {b : Bool} (hg : o.guard = some (j, b)) (hj : dstOf ops j = some d) (h : a.tmps.getD d undef = .bool b) : Region.wanted o (yielded ops a.tmps) = true := by
  unfold Region.wanted
  rw [hg]
  have hy : yielded ops a.tmps j = some b := by
    unfold yielded
    unfold dstOf at hj
    rw [hj]
    rw [Array.getD_eq_getD_getElem?] at h
    cases hd : a.tmps[d]? with
    | none => rw [hd] at h; exact absurd h (by unfold undef; simp)
    | some v =>
      rw [hd] at h
      have h : v = .bool b := h
      subst h
      show (match (a.tmps[d]? : Option Value) with
        | some (.bool b) => some b
        | _ => none) = some b
      rw [hd]
  simp [hy]
theorem unwanted_of {o : Oper} {a : Act} {j d : Nat} {b c : Bool} (hg : o.guard = some (j, b)) (hj : dstOf ops j = some d) (h : a.tmps.getD d undef = .bool c) (hc : c ≠ b) : Region.wanted o (yielded ops a.tmps) = false := by
  unfold Region.wanted
  rw [hg]
  have hy : yielded ops a.tmps j = some c := by
    unfold yielded
    unfold dstOf at hj
    rw [hj]
    rw [Array.getD_eq_getD_getElem?] at h
    cases hd : a.tmps[d]? with
    | none => rw [hd] at h; exact absurd h (by unfold undef; simp)
    | some v =>
      rw [hd] at h
      have h : v = .bool c := h
      subst h
      show (match (a.tmps[d]? : Option Value) with
        | some (.bool b) => some b
        | _ => none) = some c
      rw [hd]
  simp [hy, hc]
theorem wpOp_skip {i : Nat} {o : Oper} {a : Act} {w : World} {K : Act → World → Prop} (ho : ops[i]? = some o) (hw : Region.wanted o (yielded ops a.tmps) = false) (h : K (a.put o.dst undef) w) : wpOp P ops Q i K a w := by
  unfold wpOp
  rw [ho]
  simp only
  rw [if_neg (by simp [hw])]
  exact h
theorem wpOp_value_g {i : Nat} {o : Oper} {a : Act} {w w' : World} {K : Act → World → Prop} {v : Value} (ho : ops[i]? = some o) (hw : Region.wanted o (yielded ops a.tmps) = true) (hrun : (execOp a.eval o).run P w = .ok (.value v) w') (h : K (a.put o.dst v) w') : wpOp P ops Q i K a w := by
  unfold wpOp
  rw [ho]
  simp only
  rw [if_pos hw]
  refine .inl ?_
  unfold Oper.wp
  rw [hrun]
  exact h
theorem wpOp_call_g {i : Nat} {o : Oper} {a : Act} {w w1 : World} {K : Act → World → Prop} {f : FuncId} {args : Array Value} (ho : ops[i]? = some o) (hw : Region.wanted o (yielded ops a.tmps) = true) (hrun : (execOp a.eval o).run P w = .ok (.enter f args) w1)
    (h : Calls P f args w1 fun e w' => ∃ v, e = .returned v ∧ K (a.put o.dst v) w') : wpOp P ops Q i K a w := by
  unfold wpOp
  rw [ho]
  simp only
  rw [if_pos hw]
  refine .inl ?_
  unfold Oper.wp
  rw [hrun, Oper.upon_enter]
  refine h.mono fun e w' he => ?_
  obtain ⟨v, rfl, hk⟩ := he
  exact hk
theorem wpOp_skipped {i : Nat} {o : Oper} {a : Act} {w w' : World} {K : Act → World → Prop} (ho : ops[i]? = some o) (hg : o.guard = none) (hd : o.dst = none) (hrun : (execOp a.eval o).run P w = .ok .skip w') (h : K a w') : wpOp P ops Q i K a w := by
  have h : K (a.put o.dst undef) w' := by rw [hd]; exact h
  unfold wpOp
  rw [ho]
  simp only
  rw [if_pos (by simp [Region.wanted, hg])]
  refine .inl ?_
  unfold Oper.wp
  rw [hrun]
  exact h
end
end Go.Proofs.Ytnmogfjbbibeiaa
