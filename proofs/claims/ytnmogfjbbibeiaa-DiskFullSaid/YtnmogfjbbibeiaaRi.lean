/- A region that draws its order and holds more than one store. -/
import Derived.Test.YtnmogfjbbibeiaaRh
namespace Go.Proofs.Ytnmogfjbbibeiaa
set_option maxRecDepth 100000
open Go.RowKit
set_option linter.unusedVariables false

def fillOK2 (ops : Array Oper) (N : Nat) : Bool := (List.range (ops.size - 1)).all fun i => ((ops[i]?).map fun o => (o.dst.map fun d => decide (d < N)).getD true).getD true
def oneOK2 (ops : Array Oper) : Bool := (List.range (ops.size - 1)).all fun i => (List.range (ops.size - 1)).all fun j => i == j || dstOf ops i == none || dstOf ops i != dstOf ops j
/-- The last operation waits for all others: at once, or by way of one between. -/
def lastOK2 (ops : Array Oper) : Bool := match ops[ops.size - 1]? with
  | some o => (List.range (ops.size - 1)).all fun i => preOf ops (ops.size - 1) i || (List.range (ops.size - 1)).any fun j => preOf ops (ops.size - 1) j && preOf ops j i
  | none => false
/-- Operation k waits for i: at once, or by way of up to n between. -/
def waits (ops : Array Oper) : Nat → Nat → Nat → Bool
  | 0, k, i => preOf ops k i
  | n + 1, k, i => preOf ops k i || (List.range k).any fun m => preOf ops k m && waits ops n m i
def availOK2 (ops : Array Oper) (D : Nat → Nat → Bool) (i j : Nat) : Bool := (List.range ops.size).all fun k => !D k j || k == i || waits ops 4 k i
theorem waits_closed {ops : Array Oper} {l : Nat → Bool} (hcl : ∀ k j, l k = true → preOf ops k j = true → l j = true) : ∀ (n k i : Nat), l k = true → waits ops n k i = true → l i = true
  | 0, k, i, hk, h => hcl k i hk h
  | n + 1, k, i, hk, h => by
    simp only [waits, Bool.or_eq_true, List.any_eq_true, Bool.and_eq_true] at h
    rcases h with h | ⟨m, _, h1, h2⟩
    · exact hcl k i hk h
    · exact waits_closed hcl n m i (hcl k m hk h1) h2
section
variable {P : Program} {ops : Array Oper} {Q : Exit → Act → World → Prop}
theorem region_gen2 {id : Nat} {a0 : Act} {w0 : World} (F : Nat → Value → World → Prop) (D : Nat → Nat → Bool) (hm : P.follows .mixedOrders = true) (N : Nat) (hN : a0.tmps.size = N)
    (hfill : fillOK2 ops N = true) (hone : oneOK2 ops = true) (hacy : acyOK2 ops = true) (hlast : lastOK2 ops = true)
    (init : ∀ j, ops.size ≤ j → F j undef w0.drew)
    (step : ∀ (i : Nat) (o : Oper), i < ops.size - 1 → ops[i]? = some o → ∀ (a : Act) (w : World) (K : Act → World → Prop), Same0 ops a0 a →
      (∀ j, (preOf ops i j || decide (ops.size ≤ j)) = true → availOK2 ops D i j = true → F j (vl ops a j) w) →
      (∀ v w', (o.dst = none → v = undef) → F i v w' → (∀ j u, j ≠ i → D i j = false → F j u w → F j u w') → K (a.put o.dst v) w') → wpOp P ops Q i K a w)
    (last : ∀ (a : Act) (w : World), Same0 ops a0 a → (∀ j, j ≠ ops.size - 1 → availOK2 ops D (ops.size - 1) j = true → F j (vl ops a j) w) → wpOp P ops Q (ops.size - 1) (fun a' w' => Q .normal a' w') a w) :
    (Code.region id ops true).wp P Q a0 w0 := by
  subst hN
  obtain ⟨ol, hol, hall⟩ : ∃ ol, ops[ops.size - 1]? = some ol ∧ ∀ i, i < ops.size - 1 → preOf ops (ops.size - 1) i = true ∨ ∃ j, preOf ops (ops.size - 1) j = true ∧ preOf ops j i = true := by
    unfold lastOK2 at hlast
    cases h : ops[ops.size - 1]? with
    | none => rw [h] at hlast; simp at hlast
    | some o =>
      rw [h] at hlast
      simp only [Bool.and_eq_true, List.all_eq_true, List.mem_range, Bool.or_eq_true, List.any_eq_true] at hlast
      refine ⟨o, rfl, fun i hi => ?_⟩
      rcases hlast i hi with h2 | ⟨j, _, h2, h3⟩
      · exact .inl h2
      · exact .inr ⟨j, h2, h3⟩
  have hpos : 0 < ops.size := by
    have := (Array.getElem?_eq_some_iff.1 hol).1
    omega
  have hacy' : ∀ (i : Nat) (o : Oper), ops[i]? = some o → ∀ e ∈ o.after, Region.binds .any e = true → e.on < i := by
    intro i o ho e he hbe
    unfold acyOK2 at hacy
    rw [List.all_eq_true] at hacy
    have := hacy i (List.mem_range.2 (Array.getElem?_eq_some_iff.1 ho).1)
    rw [ho] at this
    simp only [Option.map_some, Option.getD_some, List.all_eq_true] at this
    simpa [hbe] using this e (by simpa using he)
  have hpre : ∀ (i j : Nat) (o : Oper), ops[i]? = some o → preOf ops i j = true → ∃ e ∈ o.after, Region.binds .any e = true ∧ e.on = j := by
    intro i j o ho h
    unfold preOf at h
    rw [ho] at h
    simp only [Option.map_some, Option.getD_some, Array.any_eq_true, Bool.and_eq_true, beq_iff_eq] at h
    obtain ⟨k, hk, h1, h2⟩ := h
    exact ⟨_, Array.getElem_mem hk, h2, h1⟩
  refine wp_region_any hm (wpAny_inv (md := .any) (ops := ops) (Q := Q) (P := P) (fun l a w => l.size = ops.size ∧ (∀ k j, l.getD k false = true → preOf ops k j = true → l.getD j false = true) ∧
    ((l.getD (ops.size - 1) true = false ∧ Same0 ops a0 a ∧ ∀ j, (ops.size ≤ j ∨ l.getD j false = true) → (∀ k, k ≠ j → l.getD k false = true → D k j = false) → F j (vl ops a j) w) ∨ ((∀ j, j < ops.size → l.getD j false = true) ∧ Q .normal a w))) ?_ ?_ _ _ _ _ ?_ ?_)
  · rintro l a w i ⟨hl, hcl, hh⟩ hi
    obtain ⟨hi1, o, ho, haft⟩ := ready_mem hi
    have hio : i < ops.size := (Array.getElem?_eq_some_iff.1 ho).1
    have hset : ∀ k, (l.setIfInBounds i true).getD k false = true ↔ k = i ∨ l.getD k false = true := by
      intro k
      rw [Array.getD_eq_getD_getElem?]
      by_cases hki : k = i
      · subst hki
        rw [Array.getElem?_setIfInBounds_self]
        simp [hl, hio]
      · rw [Array.getElem?_setIfInBounds_ne (fun e => hki e.symm), ← Array.getD_eq_getD_getElem?]
        simp [hki]
    have hcl2 : ∀ k j, (l.setIfInBounds i true).getD k false = true → preOf ops k j = true → (l.setIfInBounds i true).getD j false = true := by
      intro k j hk hp
      rw [hset] at hk ⊢
      rcases hk with rfl | hk
      · obtain ⟨e, he, hb, hon⟩ := hpre k j o ho hp
        have := haft e he hb
        rw [hon] at this
        exact .inr this
      · exact .inr (hcl k j hk hp)
    have hi1' : l.getD i false = false := by
      rw [Array.getD_eq_getD_getElem?] at hi1 ⊢
      cases hx : l[i]? with
      | none => rfl
      | some b => rw [hx] at hi1; simpa using hi1
    have havail : ∀ j, availOK2 ops D i j = true → ∀ k, k ≠ j → l.getD k false = true → D k j = false := by
      intro j hav k hkj hk
      have hko : k < ops.size := by
        rcases Nat.lt_or_ge k ops.size with h | h
        · exact h
        · rw [Array.getD_eq_getD_getElem?, Array.getElem?_eq_none (by omega)] at hk
          cases hk
      unfold availOK2 at hav
      rw [List.all_eq_true] at hav
      have h1 := hav k (List.mem_range.2 hko)
      rw [Bool.or_eq_true, Bool.or_eq_true, Bool.not_eq_true', beq_iff_eq] at h1
      rcases h1 with (h1 | h1) | h1
      · exact h1
      · rw [h1, hi1'] at hk; cases hk
      · have := waits_closed (l := fun k => l.getD k false) hcl 4 k i hk h1
        rw [show l.getD i false = true from this] at hi1'; cases hi1'
    rcases hh with ⟨hn, hs, hf⟩ | ⟨hn, hq⟩
    · by_cases hil : i = ops.size - 1
      · subst hil
        rw [hol] at ho
        injection ho with ho
        subst ho
        have hd : ∀ j, j < ops.size - 1 → l.getD j false = true := by
          intro j hj
          have hdir : ∀ k, preOf ops (ops.size - 1) k = true → l.getD k false = true := fun k hp => by
            obtain ⟨e, he, hb, hon⟩ := hpre (ops.size - 1) k ol hol hp
            have := haft e he hb
            rwa [hon] at this
          rcases hall j hj with hp | ⟨k, hp, hp2⟩
          · exact hdir j hp
          · exact hcl k j (hdir k hp) hp2
        refine wpOp_mono (fun a' w' hq => ⟨by simpa using hl, hcl2, .inr ⟨fun j hj => ?_, hq⟩⟩) (last a w hs fun j hj hav => hf j (if h : ops.size ≤ j then .inl h else .inr (hd j (by omega))) (havail j hav))
        rw [hset]
        by_cases hjl : j = ops.size - 1
        · exact .inl hjl
        · exact .inr (hd j (by omega))
      · have hi2 : i < ops.size - 1 := by omega
        refine step i o hi2 ho a w _ hs (fun j hj hav => hf j ?_ (havail j hav)) fun v w' hvn hv hst => ?_
        · rw [Bool.or_eq_true, decide_eq_true_eq] at hj
          rcases hj with hj | hj
          · obtain ⟨e, he, hb, hon⟩ := hpre i j o ho hj
            have := haft e he hb
            rw [hon] at this
            exact .inr this
          · exact .inl hj
        · have hnl : (l.setIfInBounds i true).getD (ops.size - 1) true = false := by
            rw [Array.getD_eq_getD_getElem?, Array.getElem?_setIfInBounds_ne (by omega), ← Array.getD_eq_getD_getElem?]
            exact hn
          cases hod : o.dst with
          | none =>
            have hdi : dstOf ops i = none := by simp [dstOf, ho, hod]
            have hvu := hvn hod
            subst hvu
            refine ⟨by simpa using hl, hcl2, .inl ⟨hnl, hs, fun j hj hnd => ?_⟩⟩
            show F j (vl ops a j) w'
            by_cases hji : j = i
            · subst hji
              have : vl ops a j = undef := by unfold vl; rw [hdi]
              rw [this]
              exact hv
            · have hDi : D i j = false := hnd i (fun e => hji e.symm) ((hset i).2 (.inl rfl))
              refine hst j _ hji hDi (hf j ?_ fun k hk hkd => hnd k hk ((hset k).2 (.inr hkd)))
              rcases hj with hj | hj
              · exact .inl hj
              · rw [hset] at hj
                exact .inr (hj.resolve_left hji)
          | some d =>
          have hdl2 : d < a0.tmps.size := by
            unfold fillOK2 at hfill
            rw [List.all_eq_true] at hfill
            have := hfill i (List.mem_range.2 hi2)
            rw [ho] at this
            simpa [hod] using this
          have hdi : dstOf ops i = some d := by simp [dstOf, ho, hod]
          refine ⟨by simpa using hl, hcl2, .inl ⟨?_, ⟨hs.1, by simpa [Act.put] using hs.2.1, fun t ht => ?_⟩, fun j hj hnd => ?_⟩⟩
          · exact hnl
          · rw [put_ne (fun e => ht i (by rw [hdi, e]))]
            exact hs.2.2 t ht
          · by_cases hji : j = i
            · subst hji
              have : vl ops (a.put (some d) v) j = v := by
                unfold vl
                rw [hdi]
                exact put_eq (by rw [hs.2.1]; exact hdl2)
              rw [this]
              exact hv
            · have hne : dstOf ops j ≠ some d := by
                intro e
                have hjo : j < ops.size := by
                  unfold dstOf at e
                  cases hoj : ops[j]? with
                  | none => rw [hoj] at e; cases e
                  | some _ => exact (Array.getElem?_eq_some_iff.1 hoj).1
                have hjl : j ≠ ops.size - 1 := by
                  intro e2
                  rcases hj with hj | hj
                  · omega
                  · rw [hset] at hj
                    have hj := hj.resolve_left hji
                    rw [e2, Array.getD_eq_getD_getElem?] at hj
                    rw [Array.getD_eq_getD_getElem?] at hn
                    cases hx : l[ops.size - 1]? with
                    | none => rw [hx] at hj; cases hj
                    | some b => rw [hx] at hj hn; simp at hj hn; rw [hj] at hn; cases hn
                unfold oneOK2 at hone
                rw [List.all_eq_true] at hone
                have h1 := hone j (List.mem_range.2 (by omega))
                rw [List.all_eq_true] at h1
                have h2 := h1 i (List.mem_range.2 hi2)
                rw [e, hdi] at h2
                simp [hji] at h2
              rw [vl_put hdi hne]
              have hDi : D i j = false := hnd i (fun e => hji e.symm) ((hset i).2 (.inl rfl))
              refine hst j _ hji hDi (hf j ?_ fun k hk hkd => hnd k hk ((hset k).2 (.inr hkd)))
              rcases hj with hj | hj
              · exact .inl hj
              · rw [hset] at hj
                exact .inr (hj.resolve_left hji)
    · have h1 := hn i hio
      rw [hi1'] at h1
      cases h1
  · rintro l a w ⟨hl, hcl, hh⟩ hr
    rcases hh with ⟨hn, hs, hf⟩ | ⟨_, hq⟩
    · have := ready_none2 hacy' hl hr (ops.size - 1) (by omega)
      rw [Array.getD_eq_getD_getElem?] at hn this
      cases hx : l[ops.size - 1]? with
      | none => rw [hx] at this; cases this
      | some b => rw [hx] at hn this; simp at hn this; rw [hn] at this; cases this
    · exact hq
  · unfold lacks
    refine Nat.le_trans (List.length_filter_le _ _) ?_
    simp
  · have hrep : ∀ j, (Array.replicate ops.size false).getD j false = false := by
      intro j
      rw [Array.getD_eq_getD_getElem?, Array.getElem?_replicate]
      split <;> rfl
    refine ⟨by simp, fun k j hk => ?_, .inl ⟨?_, ⟨rfl, rfl, fun _ _ => rfl⟩, fun j hj _ => ?_⟩⟩
    · rw [hrep] at hk; cases hk
    · rw [Array.getD_eq_getD_getElem?, Array.getElem?_replicate, if_pos (by omega)]
      rfl
    · rcases hj with hj | hj
      · have : vl ops a0 j = undef := by
          unfold vl dstOf
          rw [Array.getElem?_eq_none hj]
          rfl
        rw [this]
        exact init j hj
      · rw [hrep] at hj; cases hj
end
end Go.Proofs.Ytnmogfjbbibeiaa
