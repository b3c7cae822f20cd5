/- A region that draws its order and whose operations turn memory: what each operation leaves, and what it takes from what others left. -/
import Derived.Test.YtnmogfjbbibeiaaRg
namespace Go.Proofs.Ytnmogfjbbibeiaa
set_option maxRecDepth 100000
open Go.RowKit
set_option linter.unusedVariables false

/-- Edges that bind alone are looked at. -/
def acyOK2 (ops : Array Oper) : Bool := (List.range ops.size).all fun i => ((ops[i]?).map fun o => o.after.toList.all fun e => decide (e.on < i) || !Region.binds .any e).getD true
section
variable {P : Program} {ops : Array Oper} {Q : Exit → Act → World → Prop} {md : Region.Mode}
theorem ready_none2 {l : Array Bool} (hacy : ∀ (i : Nat) (o : Oper), ops[i]? = some o → ∀ e ∈ o.after, Region.binds md e = true → e.on < i) (hl : l.size = ops.size) (hr : Region.ready md ops l = []) : ∀ i, i < ops.size → l.getD i false = true := by
  intro i
  induction i using Nat.strongRecOn with
  | ind i ih =>
    intro hi
    unfold Region.ready at hr
    rw [List.filter_eq_nil_iff] at hr
    have h1 := hr i (by simpa using hi)
    have ho : ops[i]? = some ops[i] := by simp [hi]
    rw [ho] at h1
    simp only [Option.map_some, Option.getD_some, Bool.and_eq_true, Bool.not_eq_true', not_and, Bool.not_eq_true] at h1
    by_cases hx : l.getD i true = false
    · have h2 := h1 hx
      rw [Array.all_eq_false] at h2
      obtain ⟨k, hk, h3⟩ := h2
      rw [Bool.or_eq_true, not_or] at h3
      have hbd : Region.binds md ops[i].after[k] = true := by simpa using h3.1
      have hlt := hacy i _ ho _ (Array.getElem_mem hk) hbd
      exact absurd (ih _ hlt (by omega)) h3.2
    · have : l.getD i true = true := by simpa using hx
      rw [Array.getD_eq_getD_getElem?] at this ⊢
      rw [Array.getElem?_eq_getElem (by omega)] at this ⊢
      exact this
theorem region_inv2 {id : Nat} {a0 : Act} {w0 : World} (F : Nat → Value → World → Prop) (hm : P.follows .mixedOrders = true)
    (stable : ∀ i v w w', F i v w → Kp [] w w' → F i v w')
    (hfill : ∀ (i : Nat) (o : Oper), ops[i]? = some o → ∃ d, o.dst = some d ∧ d < a0.tmps.size)
    (hone : ∀ i j, i < ops.size → j < ops.size → i ≠ j → dstOf ops i ≠ dstOf ops j)
    (step : ∀ (i : Nat) (o : Oper), ops[i]? = some o → ∀ (a : Act) (w : World) (K : Act → World → Prop), Same0 ops a0 a → Kp [] w0 w →
      (∀ j t, (o.after.any fun e => e.on == j && Region.binds .any e) = true → dstOf ops j = some t → F j (a.tmps.getD t undef) w) →
      (∀ v w', Kp [] w w' → F i v w' → K (a.put o.dst v) w') → wpOp P ops Q i K a w)
    (done : ∀ (a : Act) (w : World), Same0 ops a0 a → Kp [] w0 w → (∀ j t, dstOf ops j = some t → F j (a.tmps.getD t undef) w) → Q .normal a w)
    (hacy : ∀ (i : Nat) (o : Oper), ops[i]? = some o → ∀ e ∈ o.after, Region.binds .any e = true → e.on < i) :
    (Code.region id ops true).wp P Q a0 w0 := by
  refine wp_region_any hm (wpAny_inv (md := .any) (ops := ops) (Q := Q) (P := P) (fun l a w => l.size = ops.size ∧ Same0 ops a0 a ∧ Kp [] w0 w ∧ ∀ j t, l.getD j false = true → dstOf ops j = some t → F j (a.tmps.getD t undef) w) ?_ ?_ _ _ _ _ ?_ ?_)
  · rintro l a w i ⟨hl, hs, hk, hf⟩ hi
    obtain ⟨hi1, o, ho, haft⟩ := ready_mem hi
    have hio : i < ops.size := (Array.getElem?_eq_some_iff.1 ho).1
    refine step i o ho a w _ hs hk (fun j t hj ht => hf j t ?_ ht) fun v w' hk' hv => ?_
    · rw [Array.any_eq_true] at hj
      obtain ⟨k, hk2, h2⟩ := hj
      rw [Bool.and_eq_true, beq_iff_eq] at h2
      have := haft _ (Array.getElem_mem hk2) h2.2
      rwa [h2.1] at this
    · obtain ⟨d, hod, hdl⟩ := hfill i o ho
      have hdi : dstOf ops i = some d := by simp [dstOf, ho, hod]
      rw [hod]
      refine ⟨by simpa using hl, ⟨hs.1, by simpa [Act.put] using hs.2.1, fun t ht => ?_⟩, hk.trans hk', fun j t hj ht => ?_⟩
      · rw [put_ne (fun e => ht i (by rw [hdi, e]))]
        exact hs.2.2 t ht
      · by_cases hji : j = i
        · subst hji
          rw [hdi] at ht
          injection ht with ht
          subst ht
          rw [put_eq (by rw [hs.2.1]; exact hdl)]
          exact hv
        · have hjo : j < ops.size := by
            unfold dstOf at ht
            cases hoj : ops[j]? with
            | none => rw [hoj] at ht; cases ht
            | some _ => exact (Array.getElem?_eq_some_iff.1 hoj).1
          have htd : t ≠ d := fun e => hone j i hjo hio hji (by rw [ht, hdi, e])
          rw [put_ne htd]
          refine stable _ _ _ _ (hf j t ?_ ht) hk'
          simpa [Array.getD_eq_getD_getElem?, Array.getElem?_setIfInBounds, Ne.symm hji] using hj
  · rintro l a w ⟨hl, hs, hk, hf⟩ hr
    refine done a w hs hk fun j t ht => hf j t ?_ ht
    refine ready_none2 hacy hl hr j ?_
    unfold dstOf at ht
    cases hoj : ops[j]? with
    | none => rw [hoj] at ht; cases ht
    | some _ => exact (Array.getElem?_eq_some_iff.1 hoj).1
  · unfold lacks
    refine Nat.le_trans (List.length_filter_le _ _) ?_
    simp
  · refine ⟨by simp, ⟨rfl, rfl, fun _ _ => rfl⟩, (Kp.rfl_ [] w0).drew, fun j t hj => ?_⟩
    rw [Array.getD_eq_getD_getElem?, Array.getElem?_replicate] at hj
    split at hj <;> simp at hj
theorem region_inv2' {id : Nat} {a0 : Act} {w0 : World} (F : Nat → Value → World → Prop) (hm : P.follows .mixedOrders = true) (N : Nat) (hN : a0.tmps.size = N)
    (hfill : fillOK ops N = true) (hone : oneOK ops = true) (hacy : acyOK2 ops = true)
    (stable : ∀ i v w w', F i v w → Kp [] w w' → F i v w')
    (step : ∀ (i : Nat) (o : Oper), ops[i]? = some o → ∀ (a : Act) (w : World) (K : Act → World → Prop), Same0 ops a0 a → Kp [] w0 w →
      (∀ j t, (o.after.any fun e => e.on == j && Region.binds .any e) = true → dstOf ops j = some t → F j (a.tmps.getD t undef) w) →
      (∀ v w', Kp [] w w' → F i v w' → K (a.put o.dst v) w') → wpOp P ops Q i K a w)
    (done : ∀ (a : Act) (w : World), Same0 ops a0 a → Kp [] w0 w → (∀ j t, dstOf ops j = some t → F j (a.tmps.getD t undef) w) → Q .normal a w) :
    (Code.region id ops true).wp P Q a0 w0 := by
  subst hN
  refine region_inv2 F hm stable (fun i o ho => ?_) (fun i j hi hj hij => ?_) step done (fun i o ho e he hbe => ?_)
  · unfold fillOK at hfill
    rw [List.all_eq_true] at hfill
    have := hfill i (List.mem_range.2 (Array.getElem?_eq_some_iff.1 ho).1)
    rw [ho] at this
    cases hd : o.dst with
    | none => simp [hd] at this
    | some d => exact ⟨d, rfl, by simpa [hd] using this⟩
  · unfold oneOK at hone
    rw [List.all_eq_true] at hone
    have h1 := hone i (List.mem_range.2 hi)
    rw [List.all_eq_true] at h1
    have h2 := h1 j (List.mem_range.2 hj)
    simpa [hij] using h2
  · unfold acyOK2 at hacy
    rw [List.all_eq_true] at hacy
    have := hacy i (List.mem_range.2 (Array.getElem?_eq_some_iff.1 ho).1)
    rw [ho] at this
    simp only [Option.map_some, Option.getD_some, List.all_eq_true] at this
    simpa [hbe] using this e (by simpa using he)
end

section
variable {P : Program} {ops : Array Oper} {Q : Exit → Act → World → Prop}
/-- What the operation of number j left (nothing: a number behind the last one is a fact of memory alone). -/
def vl (ops : Array Oper) (a : Act) (j : Nat) : Value := match dstOf ops j with | some t => a.tmps.getD t undef | none => undef
def preOf (ops : Array Oper) (i j : Nat) : Bool := ((ops[i]?).map fun o => o.after.any fun e => e.on == j && Region.binds .any e).getD false
/-- When i's turn comes, none is done that takes j. -/
def availOK (ops : Array Oper) (D : Nat → Nat → Bool) (i j : Nat) : Bool := (List.range ops.size).all fun k => !D k j || k == i || preOf ops k i
theorem vl_put {a : Act} {i d j : Nat} {v : Value} (hi : dstOf ops i = some d) (hne : dstOf ops j ≠ some d) : vl ops (a.put (some d) v) j = vl ops a j := by
  unfold vl
  cases hj : dstOf ops j with
  | none => rfl
  | some t => exact put_ne (fun e => hne (by rw [hj, e]))
theorem region_gen {id : Nat} {a0 : Act} {w0 : World} (F : Nat → Value → World → Prop) (D : Nat → Nat → Bool) (hm : P.follows .mixedOrders = true) (N : Nat) (hN : a0.tmps.size = N)
    (hfill : fillOK' ops N = true) (hone : oneOK' ops = true) (hacy : acyOK ops = true) (hlast : lastOK ops = true)
    (init : ∀ j, ops.size ≤ j → F j undef w0.drew)
    (step : ∀ (i : Nat) (o : Oper), i < ops.size - 1 → ops[i]? = some o → ∀ (a : Act) (w : World) (K : Act → World → Prop), Same0 ops a0 a →
      (∀ j, (preOf ops i j || decide (ops.size ≤ j)) = true → availOK ops D i j = true → F j (vl ops a j) w) →
      (∀ v w', F i v w' → (∀ j u, j ≠ i → D i j = false → F j u w → F j u w') → K (a.put o.dst v) w') → wpOp P ops Q i K a w)
    (last : ∀ (a : Act) (w : World), Same0 ops a0 a → (∀ j, j ≠ ops.size - 1 → availOK ops D (ops.size - 1) j = true → F j (vl ops a j) w) → wpOp P ops Q (ops.size - 1) (fun a' w' => Q .normal a' w') a w) :
    (Code.region id ops true).wp P Q a0 w0 := by
  subst hN
  obtain ⟨ol, hol, hdl, hall⟩ : ∃ ol, ops[ops.size - 1]? = some ol ∧ ol.dst = none ∧ ∀ i, i < ops.size - 1 → ∃ e ∈ ol.after, Region.binds .any e = true ∧ e.on = i := by
    unfold lastOK at hlast
    cases h : ops[ops.size - 1]? with
    | none => rw [h] at hlast; simp at hlast
    | some o =>
      rw [h] at hlast
      simp only [Bool.and_eq_true, decide_eq_true_eq, List.all_eq_true, List.mem_range] at hlast
      refine ⟨o, rfl, hlast.1, fun i hi => ?_⟩
      have := hlast.2 i hi
      simp only [List.any_eq_true, Bool.and_eq_true, beq_iff_eq] at this
      obtain ⟨e, he, h1, h2⟩ := this
      exact ⟨e, by simpa using he, h1, h2⟩
  have hpos : 0 < ops.size := by
    have := (Array.getElem?_eq_some_iff.1 hol).1
    omega
  have hacy' : ∀ (i : Nat) (o : Oper), ops[i]? = some o → ∀ e ∈ o.after, e.on < i := by
    intro i o ho e he
    unfold acyOK at hacy
    rw [List.all_eq_true] at hacy
    have := hacy i (List.mem_range.2 (Array.getElem?_eq_some_iff.1 ho).1)
    rw [ho] at this
    simp only [Option.map_some, Option.getD_some, List.all_eq_true] at this
    simpa using this e (by simpa using he)
  have hpre : ∀ (i j : Nat) (o : Oper), ops[i]? = some o → preOf ops i j = true → ∃ e ∈ o.after, Region.binds .any e = true ∧ e.on = j := by
    intro i j o ho h
    unfold preOf at h
    rw [ho] at h
    simp only [Option.map_some, Option.getD_some, Array.any_eq_true, Bool.and_eq_true, beq_iff_eq] at h
    obtain ⟨k, hk, h1, h2⟩ := h
    exact ⟨_, Array.getElem_mem hk, h2, h1⟩
  refine wp_region_any hm (wpAny_inv (md := .any) (ops := ops) (Q := Q) (P := P) (fun l a w => l.size = ops.size ∧ (∀ k j, l.getD k false = true → preOf ops k j = true → l.getD j false = true) ∧
    ((l.getD (ops.size - 1) true = false ∧ Same0 ops a0 a ∧ ∀ j, (ops.size ≤ j ∨ l.getD j false = true) → (∀ k, k ≠ j → l.getD k false = true → D k j = false) → F j (vl ops a j) w) ∨ ((∀ j, j < ops.size → l.getD j false = true) ∧ Q .normal a w))) ?_ ?_ _ _ _ _ ?_ ?_)
  · rintro l a w i ⟨hl, hcl, hh⟩ hi
    obtain ⟨hi1, o, ho, haft⟩ := ready_mem hi
    have hio : i < ops.size := (Array.getElem?_eq_some_iff.1 ho).1
    have hset : ∀ k, (l.setIfInBounds i true).getD k false = true ↔ k = i ∨ l.getD k false = true := by
      intro k
      rw [Array.getD_eq_getD_getElem?]
      by_cases hki : k = i
      · subst hki
        rw [Array.getElem?_setIfInBounds_self]
        simp [hl, hio]
      · rw [Array.getElem?_setIfInBounds_ne (fun e => hki e.symm), ← Array.getD_eq_getD_getElem?]
        simp [hki]
    have hcl2 : ∀ k j, (l.setIfInBounds i true).getD k false = true → preOf ops k j = true → (l.setIfInBounds i true).getD j false = true := by
      intro k j hk hp
      rw [hset] at hk ⊢
      rcases hk with rfl | hk
      · obtain ⟨e, he, hb, hon⟩ := hpre k j o ho hp
        have := haft e he hb
        rw [hon] at this
        exact .inr this
      · exact .inr (hcl k j hk hp)
    have hi1' : l.getD i false = false := by
      rw [Array.getD_eq_getD_getElem?] at hi1 ⊢
      cases hx : l[i]? with
      | none => rfl
      | some b => rw [hx] at hi1; simpa using hi1
    have havail : ∀ j, availOK ops D i j = true → ∀ k, k ≠ j → l.getD k false = true → D k j = false := by
      intro j hav k hkj hk
      have hko : k < ops.size := by
        rcases Nat.lt_or_ge k ops.size with h | h
        · exact h
        · rw [Array.getD_eq_getD_getElem?, Array.getElem?_eq_none (by omega)] at hk
          cases hk
      unfold availOK at hav
      rw [List.all_eq_true] at hav
      have h1 := hav k (List.mem_range.2 hko)
      rw [Bool.or_eq_true, Bool.or_eq_true, Bool.not_eq_true', beq_iff_eq] at h1
      rcases h1 with (h1 | h1) | h1
      · exact h1
      · rw [h1, hi1'] at hk; cases hk
      · have := hcl k i hk h1
        rw [hi1'] at this; cases this
    rcases hh with ⟨hn, hs, hf⟩ | ⟨hn, hq⟩
    · by_cases hil : i = ops.size - 1
      · subst hil
        rw [hol] at ho
        injection ho with ho
        subst ho
        have hd : ∀ j, j < ops.size - 1 → l.getD j false = true := by
          intro j hj
          obtain ⟨e, he, hb, hon⟩ := hall j hj
          have := haft e he hb
          rwa [hon] at this
        refine wpOp_mono (fun a' w' hq => ⟨by simpa using hl, hcl2, .inr ⟨fun j hj => ?_, hq⟩⟩) (last a w hs fun j hj hav => hf j (if h : ops.size ≤ j then .inl h else .inr (hd j (by omega))) (havail j hav))
        rw [hset]
        by_cases hjl : j = ops.size - 1
        · exact .inl hjl
        · exact .inr (hd j (by omega))
      · have hi2 : i < ops.size - 1 := by omega
        refine step i o hi2 ho a w _ hs (fun j hj hav => hf j ?_ (havail j hav)) fun v w' hv hst => ?_
        · rw [Bool.or_eq_true, decide_eq_true_eq] at hj
          rcases hj with hj | hj
          · obtain ⟨e, he, hb, hon⟩ := hpre i j o ho hj
            have := haft e he hb
            rw [hon] at this
            exact .inr this
          · exact .inl hj
        · have hfi : ∃ d, o.dst = some d ∧ d < a0.tmps.size := by
            unfold fillOK' at hfill
            rw [List.all_eq_true] at hfill
            have := hfill i (List.mem_range.2 hi2)
            rw [ho] at this
            cases hd : o.dst with
            | none => simp [hd] at this
            | some d => exact ⟨d, rfl, by simpa [hd] using this⟩
          obtain ⟨d, hod, hdl2⟩ := hfi
          have hdi : dstOf ops i = some d := by simp [dstOf, ho, hod]
          rw [hod]
          refine ⟨by simpa using hl, hcl2, .inl ⟨?_, ⟨hs.1, by simpa [Act.put] using hs.2.1, fun t ht => ?_⟩, fun j hj hnd => ?_⟩⟩
          · rw [Array.getD_eq_getD_getElem?, Array.getElem?_setIfInBounds_ne (by omega), ← Array.getD_eq_getD_getElem?]
            exact hn
          · rw [put_ne (fun e => ht i (by rw [hdi, e]))]
            exact hs.2.2 t ht
          · by_cases hji : j = i
            · subst hji
              have : vl ops (a.put (some d) v) j = v := by
                unfold vl
                rw [hdi]
                exact put_eq (by rw [hs.2.1]; exact hdl2)
              rw [this]
              exact hv
            · have hne : dstOf ops j ≠ some d := by
                intro e
                have hjo : j < ops.size := by
                  unfold dstOf at e
                  cases hoj : ops[j]? with
                  | none => rw [hoj] at e; cases e
                  | some _ => exact (Array.getElem?_eq_some_iff.1 hoj).1
                have hjl : j ≠ ops.size - 1 := by
                  intro e2
                  subst e2
                  unfold dstOf at e
                  rw [hol] at e
                  simp [hdl] at e
                unfold oneOK' at hone
                rw [List.all_eq_true] at hone
                have h1 := hone j (List.mem_range.2 (by omega))
                rw [List.all_eq_true] at h1
                have h2 := h1 i (List.mem_range.2 hi2)
                rw [e, hdi] at h2
                simp [hji] at h2
              rw [vl_put hdi hne]
              have hDi : D i j = false := hnd i (fun e => hji e.symm) ((hset i).2 (.inl rfl))
              refine hst j _ hji hDi (hf j ?_ fun k hk hkd => hnd k hk ((hset k).2 (.inr hkd)))
              rcases hj with hj | hj
              · exact .inl hj
              · rw [hset] at hj
                exact .inr (hj.resolve_left hji)
    · have h1 := hn i hio
      rw [hi1'] at h1
      cases h1
  · rintro l a w ⟨hl, hcl, hh⟩ hr
    rcases hh with ⟨hn, hs, hf⟩ | ⟨_, hq⟩
    · have := ready_none hacy' hl hr (ops.size - 1) (by omega)
      rw [Array.getD_eq_getD_getElem?] at hn this
      cases hx : l[ops.size - 1]? with
      | none => rw [hx] at this; cases this
      | some b => rw [hx] at hn this; simp at hn this; rw [hn] at this; cases this
    · exact hq
  · unfold lacks
    refine Nat.le_trans (List.length_filter_le _ _) ?_
    simp
  · have hrep : ∀ j, (Array.replicate ops.size false).getD j false = false := by
      intro j
      rw [Array.getD_eq_getD_getElem?, Array.getElem?_replicate]
      split <;> rfl
    refine ⟨by simp, fun k j hk => ?_, .inl ⟨?_, ⟨rfl, rfl, fun _ _ => rfl⟩, fun j hj _ => ?_⟩⟩
    · rw [hrep] at hk; cases hk
    · rw [Array.getD_eq_getD_getElem?, Array.getElem?_replicate, if_pos (by omega)]
      rfl
    · rcases hj with hj | hj
      · have : vl ops a0 j = undef := by
          unfold vl dstOf
          rw [Array.getElem?_eq_none hj]
          rfl
        rw [this]
        exact init j hj
      · rw [hrep] at hj; cases hj
end
end Go.Proofs.Ytnmogfjbbibeiaa
