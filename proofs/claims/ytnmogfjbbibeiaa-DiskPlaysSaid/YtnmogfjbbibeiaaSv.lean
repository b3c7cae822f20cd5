/- A region that draws its order may be walked in one order: the law. -/
import Derived.Test.YtnmogfjbbibeiaaSu
namespace Go.Proofs.Ytnmogfjbbibeiaa
set_option maxRecDepth 100000
open Go
set_option linter.unusedVariables false

def dst1 (ops : Array Oper) (c : Nat) : Option Tmp := (ops[c]?).bind (·.dst)
section
variable {P : Program} {ops : Array Oper} {Q : Exit → Act → World → Prop} {T ks : List Nat}
/-- Of a load: what it yields is what it yields behind all that turns no block but those of T. -/
def ldS (T : List Nat) (P : Program) (ops : Array Oper) (i : Nat) (a : Act) (w : World) : Prop := T = [] ∨ ∀ o, ops[i]? = some o → cls P o = 2 → ∃ v, YE T true P ops o v a w
/-- In this order; behind an operation of ks all that was there is as it was, but for the blocks of T. -/
def wpK (T ks : List Nat) (P : Program) (ops : Array Oper) (Q : Exit → Act → World → Prop) : List Nat → Act → World → Prop
  | [], a, w => Q .normal a w
  | i :: rest, a, w => ldS T P ops i a w ∧ wpOp P ops Q i (fun a' w' => (ks.contains i = true → KeptT T w w') ∧ wpK T ks P ops Q rest a' w') a w
theorem final (hb : Calm Q) : ∀ (l : List Nat) (a : Act) (w : World), wpK T ks P ops Q l a w → ∃ af wf, Q .normal af wf ∧ ∀ t, (∀ c ∈ l, dst1 ops c ≠ some t) → af.tmps.getD t undef = a.tmps.getD t undef
  | [], a, w, h => ⟨a, w, h, fun _ _ => rfl⟩
  | c :: l, a, w, h => by
    replace h : wpOp P ops Q c (fun a' w' => (ks.contains c = true → KeptT T w w') ∧ wpK T ks P ops Q l a' w') a w := h.2
    cases hc : ops[c]? with
    | none =>
      unfold wpOp at h
      simp only [hc] at h
      obtain ⟨af, wf, h1, h2⟩ := final hb l a w h.2
      exact ⟨af, wf, h1, fun t ht => h2 t fun x hx => ht x (List.mem_cons_of_mem _ hx)⟩
    | some o =>
      obtain ⟨a1, w1, ⟨v, hv⟩, _, hk⟩ := wpOp_some hb hc (wpOp_like hc h)
      obtain ⟨af, wf, h1, h2⟩ := final hb l a1 w1 hk
      refine ⟨af, wf, h1, fun t ht => ?_⟩
      rw [h2 t fun x hx => ht x (List.mem_cons_of_mem _ hx), hv]
      have hne := ht c (by simp)
      unfold dst1 at hne
      rw [hc] at hne
      have hne : o.dst ≠ some t := by simpa using hne
      rw [put_tmps]
      cases hd : o.dst with
      | none => rfl
      | some d =>
        have : d ≠ t := fun e => hne (by rw [hd, e])
        simp [Array.getElem?_setIfInBounds_ne this]
def bget (x : Option Value) : Option Bool := match x with | some (.bool b) => some b | _ => none
theorem bool_get {x y : Option Value} (h : x.getD undef = y.getD undef) : bget x = bget y := by
  cases x with
  | none =>
    cases y with
    | none => rfl
    | some u =>
      have : undef = u := h
      subst this
      rfl
  | some v =>
    cases y with
    | none =>
      have : v = undef := h
      subst this
      rfl
    | some u =>
      have : v = u := h
      subst this
      rfl
theorem plain_at (hb : Calm (sqQ P ops Q)) {l : List Nat} {a : Act} {w : World} {i : Nat} {o : Oper} (hi : ops[i]? = some o) (h : wpK T ks P ops (sqQ P ops Q) l a w)
    (hfree : ∀ c ∈ l, ∀ d, dst1 ops c = some d → d ∉ o.looksAt ops) : cls P o = 1 → Region.wanted o (yielded ops a.tmps) = true → plain o a.eval = true := by
  intro hc hw
  obtain ⟨af, wf, hq, hsame⟩ := final hb l a w h
  have hsh := hq.1 rfl
  unfold shapes at hsh
  rw [List.all_eq_true] at hsh
  have h1 := hsh o (Array.mem_toList_iff.2 (Array.mem_of_getElem? hi))
  have hs : ∀ t ∈ o.looksAt ops, af.tmps.getD t undef = a.tmps.getD t undef := fun t ht => hsame t fun c hcl e => hfree c hcl t e ht
  have hs' : ∀ t ∈ o.looksAt ops, (af.tmps[t]?).getD undef = (a.tmps[t]?).getD undef := fun t ht => by simpa [Array.getD_eq_getD_getElem?] using hs t ht
  have hwf : Region.wanted o (yielded ops af.tmps) = Region.wanted o (yielded ops a.tmps) := by
    unfold Region.wanted
    cases hg : o.guard with
    | none => rfl
    | some gw =>
      obtain ⟨g, want⟩ := gw
      have : yielded ops af.tmps g = yielded ops a.tmps g := by
        unfold yielded
        cases ht : (ops[g]?).bind (·.dst) with
        | none => rfl
        | some t =>
          have hm : t ∈ o.looksAt ops := by simp [Oper.looksAt, hg, ht]
          exact bool_get (x := af.tmps[t]?) (y := a.tmps[t]?) (hs' t hm)
      simp only [this]
  have hpl : plain o af.eval = plain o a.eval := plain_congr fun x hx => by
    cases x with
    | tmp t =>
      have hm : t ∈ o.looksAt ops := List.mem_append_left _ (List.mem_filterMap.2 ⟨.tmp t, by simpa using hx, rfl⟩)
      have := hs' t hm
      simpa [Act.eval] using this
    | _ => rfl
  rw [hwf, hw, hpl] at h1
  simpa [hc] using h1
theorem pair_spec {x y : Nat} (h : pairOK ks P ops x y = true) : ∃ ox oy, ops[x]? = some ox ∧ ops[y]? = some oy ∧ x ≠ y ∧ pre ops x y = false ∧ (∀ d, oy.dst = some d → d ∉ ox.looksAt ops) ∧
    (waitsT ops 5 y x = true ∨ (ox.apart ops oy = true ∧ okCls (ks.contains y) (cls P ox) (cls P oy) = true)) := by
  unfold pairOK at h
  split at h
  · rename_i ox oy hx hy
    simp only [Bool.and_eq_true, Bool.or_eq_true, bne_iff_ne, ne_eq, Bool.not_eq_true'] at h
    obtain ⟨⟨⟨h1, h2⟩, h3⟩, h4⟩ := h
    refine ⟨ox, oy, hx, hy, h1, h2, fun d hd => ?_, h4⟩
    unfold dstFree at h3
    rw [hd] at h3
    simp only [Bool.and_eq_true, Bool.not_eq_true', List.contains_eq_mem, decide_eq_false_iff_not] at h3
    exact h3.1
  · cases h
theorem self_spec {x : Nat} (h : selfOK P ops x = true) : ∃ ox, ops[x]? = some ox ∧ cls P ox < 5 ∧ (∀ d, ox.dst = some d → d ∉ ox.looksAt ops) ∧ pre ops x x = false := by
  unfold selfOK at h
  split at h
  · rename_i ox hx
    simp only [Bool.and_eq_true, decide_eq_true_eq, Bool.not_eq_true'] at h
    refine ⟨ox, hx, h.1.1, fun d hd => ?_, h.2⟩
    have := h.1.2
    rw [hd] at this
    simpa using this
  · cases h
theorem pairs_cons {x : Nat} {l : List Nat} (h : pairsB ks P ops (x :: l) = true) : selfOK P ops x = true ∧ (∀ y ∈ l, pairOK ks P ops x y = true) ∧ pairsB ks P ops l = true := by
  simp only [pairsB, Bool.and_eq_true, List.all_eq_true] at h
  exact ⟨h.1.1, h.1.2, h.2⟩
theorem pairs_self : ∀ {l : List Nat}, pairsB ks P ops l = true → ∀ x ∈ l, selfOK P ops x = true
  | [], _, x, hx => by cases hx
  | y :: l, h, x, hx => by
    obtain ⟨h1, h2, h3⟩ := pairs_cons h
    rcases List.mem_cons.1 hx with rfl | hx
    · exact h1
    · exact pairs_self h3 x hx
theorem pairs_free : ∀ {l : List Nat} {i : Nat} {o : Oper}, pairsB ks P ops l = true → i ∈ l → (∀ c ∈ l, waitsT ops 5 i c = false) → ops[i]? = some o → ∀ c ∈ l, ∀ d, dst1 ops c = some d → d ∉ o.looksAt ops
  | [], _, _, _, hi, _, _ => by cases hi
  | y :: l, i, o, h, hi, hw, ho => by
    obtain ⟨h1, h2, h3⟩ := pairs_cons h
    intro c hc d hd
    by_cases hyi : y = i
    · subst hyi
      obtain ⟨ox, hx, _, hself, _⟩ := self_spec h1
      rw [ho] at hx
      injection hx with hx
      subst hx
      rcases List.mem_cons.1 hc with rfl | hc
      · exact hself d (by simpa [dst1, ho] using hd)
      · obtain ⟨ox, oy, hx, hy, _, _, hf, _⟩ := pair_spec (h2 c hc)
        rw [ho] at hx
        injection hx with hx
        subst hx
        exact hf d (by simpa [dst1, hy] using hd)
    · have hil : i ∈ l := (List.mem_cons.1 hi).resolve_left fun e => hyi e.symm
      rcases List.mem_cons.1 hc with rfl | hc
      · obtain ⟨ox, oy, hx, hy, _, _, _, hf⟩ := pair_spec (h2 i hil)
        rw [ho] at hy
        injection hy with hy
        subst hy
        rcases hf with hf | ⟨hf, _⟩
        · rw [hw c (by simp)] at hf; cases hf
        · exact (Oper.apart_spec hf).1 d (by simpa [dst1, hx] using hd)
      · exact pairs_free h3 hil (fun c hc => hw c (List.mem_cons_of_mem _ hc)) ho c hc d hd
theorem exch (hb : Calm (sqQ P ops Q)) : ∀ (l : List Nat) (a : Act) (w : World) (i : Nat), pairsB ks P ops l = true → i ∈ l → (∀ c ∈ l, waitsT ops 5 i c = false) →
    wpK T ks P ops (sqQ P ops Q) l a w → wpOp P ops (sqQ P ops Q) i (fun a' w' => (ks.contains i = true → KeptT T w w') ∧ wpK T ks P ops (sqQ P ops Q) (l.erase i) a' w') a w
  | [], _, _, _, _, hi, _, _ => by cases hi
  | c :: l, a, w, i, hB, hi, hw, h => by
    by_cases hci : c = i
    · subst hci
      rw [List.erase_cons_head]
      exact h.2
    · have hil : i ∈ l := (List.mem_cons.1 hi).resolve_left fun e => hci e.symm
      have hE : (c :: l).erase i = c :: l.erase i := by rw [List.erase_cons_tail]; simpa using hci
      rw [hE]
      obtain ⟨h1, h2, h3⟩ := pairs_cons hB
      obtain ⟨oc, oi, hoc, hoi, _, _, _, hpr⟩ := pair_spec (h2 i hil)
      have hpr := hpr.resolve_left (fun e => by rw [hw c (by simp)] at e; cases e)
      obtain ⟨hap, hok⟩ := hpr
      obtain ⟨_, hoc', hcc, hcself, _⟩ := self_spec h1
      rw [hoc] at hoc'
      injection hoc' with hoc'
      subst hoc'
      obtain ⟨_, hoi', hic, _, _⟩ := self_spec (pairs_self h3 i hil)
      rw [hoi] at hoi'
      injection hoi' with hoi'
      subst hoi'
      have hwl : ∀ c ∈ l, waitsT ops 5 i c = false := fun x hx => hw x (List.mem_cons_of_mem _ hx)
      have hpi := plain_at hb hoi h (pairs_free hB hi hw hoi)
      have hpc := plain_at hb hoc h (fun x hx d hd => by
        rcases List.mem_cons.1 hx with rfl | hx
        · exact hcself d (by simpa [dst1, hoc] using hd)
        · obtain ⟨ox, oy, hox, hoy, _, _, hf, _⟩ := pair_spec (h2 x hx)
          rw [hoc] at hox
          injection hox with hox
          subst hox
          exact hf d (by simpa [dst1, hoy] using hd))
      have hH : wpOp P ops (sqQ P ops Q) c (fun a' w' => (ks.contains c = true → KeptT T w w') ∧ wpK T ks P ops (sqQ P ops Q) l a' w') a w := h.2
      have first : ∀ L : Bool, (cls P oc ≤ 1 ∨ (cls P oc = 2 ∧ L = true)) → (L = true → cls P oi ≤ 3 ∨ ks.contains i = true) → wpOp P ops (sqQ P ops Q) i (fun a' w' => (ks.contains i = true → KeptT T w w') ∧ wpK T ks P ops (sqQ P ops Q) (c :: l.erase i) a' w') a w := fun L hcl hL => by
        obtain ⟨v, hy, hK⟩ : ∃ v, YE T L P ops oc v a w ∧ ((ks.contains c = true → KeptT T w w) ∧ wpK T ks P ops (sqQ P ops Q) l (a.put oc.dst v) w) := by
          rcases h.1 with hT | hld
          · exact ye_of_wpOp (L := L) hb hoc hcl (fun _ => .inl hT) hpc hH
          · rcases hcl with hc1 | ⟨hc2, hL2⟩
            · obtain ⟨v, hy, hK⟩ := ye_of_wpOp (L := false) (T := T) hb hoc (.inl hc1) (by simp) hpc hH
              exact ⟨v, by cases L <;> first | exact hy | exact hy.imp (fun ⟨h1, h2⟩ => ⟨h1, fun w' _ => h2 w' (by simp)⟩) id, hK⟩
            · subst hL2
              obtain ⟨v, hy⟩ := hld oc hoc hc2
              exact ⟨v, hy, hy.det hb hoc hH⟩
        have ih := exch hb l (a.put oc.dst v) w i h3 hil hwl hK.2
        refine wpOp_mono (fun a' w' h' => ⟨h'.2.1, .inr fun o ho ho2 => ?_, h'.1.wpOp hoc ⟨fun _ => KeptT.rfl_ _ _, h'.2.2⟩⟩) (swap1 hb hoi hap (noSel hcc) (noSel hic) (fun hl => (hL hl).imp id fun hk a' w' h' => h'.1 hk) hpi hy ih)
        rw [hoc] at ho
        injection ho with ho
        subst ho
        rcases hcl with hc1 | ⟨hc2, hL2⟩
        · omega
        · subst hL2
          exact ⟨v, h'.1⟩
      simp only [okCls, Bool.and_eq_true, Bool.or_eq_true, decide_eq_true_eq, beq_iff_eq] at hok
      rcases hok.2 with (hc1 | hi1) | hc2
      · exact first false (.inl hc1) (by simp)
      · have H' := wpOp_like hoc hH
        obtain ⟨a1, w1, hl1, _, hk1⟩ := wpOp_some hb hoc H'
        have hd3 := (Oper.apart_spec hap).1
        have ih1 := exch hb l a1 w1 i h3 hil hwl hk1
        obtain ⟨v, hy, _⟩ := ye_of_wpOp (L := false) (T := T) hb hoi (.inl hi1) (by simp) (plain_at hb hoi hk1 (pairs_free h3 hil hwl hoi)) ih1
        have hev := hl1.eval (ops := ops) (noSel hic) hd3
        have hya : YE T false P ops oi v a w := (hy.of_same hev.1.symm hev.2.symm).ext (by simp)
        have hldc : ldS T P ops c (a.put oi.dst v) w := h.1.imp id fun hld o ho ho2 => by
          obtain ⟨v2, hy2⟩ := hld o ho ho2
          rw [hoc] at ho
          injection ho with ho
          subst ho
          exact ⟨v2, hy2.of_same (execOp_put oc (noSel hcc) a oi.dst v (Oper.apart_spec hap).2.2) (wanted_put oc a oi.dst v (Oper.apart_spec hap).2.2)⟩
        refine hya.wpOp hoi ⟨fun _ => KeptT.rfl_ _ _, hldc, put_in hb hoc hap (noSel hcc) (wpOp_mono (fun a2 w2 h2' => ⟨h2'.2.1, ?_⟩) H')⟩
        have hev2 := h2'.1.eval (ops := ops) (noSel hic) hd3
        exact (((hya.of_same hev2.1 hev2.2).ext (by simp)).det hb hoi (exch hb l a2 w2 i h3 hil hwl h2'.2.2)).2
      · exact first true (.inr ⟨hc2.1, rfl⟩) (fun _ => hc2.2)
theorem pairs_erase : ∀ {l : List Nat} (i : Nat), pairsB ks P ops l = true → pairsB ks P ops (l.erase i) = true
  | [], _, _ => rfl
  | x :: l, i, h => by
    obtain ⟨h1, h2, h3⟩ := pairs_cons h
    by_cases hxi : x = i
    · subst hxi
      rw [List.erase_cons_head]
      exact h3
    · rw [List.erase_cons_tail (by simpa using hxi)]
      simp only [pairsB, Bool.and_eq_true, List.all_eq_true]
      exact ⟨⟨h1, fun y hy => h2 y (List.mem_of_mem_erase hy)⟩, pairs_erase i h3⟩
theorem pairs_nodup : ∀ {l : List Nat}, pairsB ks P ops l = true → l.Nodup
  | [], _ => List.nodup_nil
  | x :: l, h => by
    obtain ⟨h1, h2, h3⟩ := pairs_cons h
    rw [List.nodup_cons]
    refine ⟨fun hx => ?_, pairs_nodup h3⟩
    obtain ⟨_, _, _, _, hne, _⟩ := pair_spec (h2 x hx)
    exact hne rfl
theorem head_ready {c : Nat} {l : List Nat} (h : pairsB ks P ops (c :: l) = true) : ∀ j ∈ c :: l, pre ops c j = false := by
  obtain ⟨h1, h2, h3⟩ := pairs_cons h
  intro j hj
  rcases List.mem_cons.1 hj with rfl | hj
  · obtain ⟨_, _, _, _, h5⟩ := self_spec h1
    exact h5
  · obtain ⟨_, _, _, _, _, h5, _⟩ := pair_spec (h2 j hj)
    exact h5
def edgesB (ops : Array Oper) : Bool := ops.all fun o => o.after.all fun e => !(Region.binds .any e) || decide (e.on < ops.size)
theorem sq_any (hb : Calm (sqQ P ops Q)) (hed : edgesB ops = true) : ∀ (fuel : Nat) (l : List Nat) (listed : Array Bool) (a : Act) (w : World), l.length ≤ fuel → (∀ k, k ∈ l ↔ listed.getD k true = false) → listed.size = ops.size →
    (∀ k j, pre ops k j = true → j ∈ l → k ∈ l) → pairsB ks P ops l = true → wpK T ks P ops (sqQ P ops Q) l a w → wpAny P .any ops (sqQ P ops Q) fuel listed a w := by
  have hnil : ∀ (l : List Nat) (listed : Array Bool), (∀ k, k ∈ l ↔ listed.getD k true = false) → listed.size = ops.size → pairsB ks P ops l = true → Region.ready .any ops listed = [] → l = [] := by
    intro l listed hl hsz hB hr
    cases l with
    | nil => rfl
    | cons c l =>
      exfalso
      obtain ⟨oc, hoc, _⟩ := self_spec (pairs_self hB c (by simp))
      have : c ∈ Region.ready .any ops listed := by
        rw [mem_ready]
        refine ⟨(hl c).1 (by simp), oc, hoc, fun e he hbd => ?_⟩
        cases hle : listed.getD e.on false with
        | true => rfl
        | false =>
          exfalso
          have hp : pre ops c e.on = true := by
            unfold pre
            rw [hoc]
            simp only [Array.any_eq_true']
            exact ⟨e, he, by simp [hbd]⟩
          have hlt : e.on < listed.size := by
            unfold edgesB at hed
            rw [Array.all_eq_true_iff_forall_mem] at hed
            have h1 := hed oc (Array.mem_of_getElem? hoc)
            rw [Array.all_eq_true_iff_forall_mem] at h1
            have h2 := h1 e he
            rw [hsz]
            simpa [hbd] using h2
          have hm : e.on ∈ c :: l := (hl _).2 (by simp [hlt] at hle ⊢; exact hle)
          rw [head_ready hB _ hm] at hp
          cases hp
      rw [hr] at this
      cases this
  intro fuel
  induction fuel with
  | zero =>
    intro l listed a w hlen hl hsz hcl hB h
    have : l = [] := List.eq_nil_of_length_eq_zero (by omega)
    subst this
    refine ⟨?_, h⟩
    rw [List.eq_nil_iff_forall_not_mem]
    intro k hk
    have := (hl k).2 (mem_ready.1 hk).1
    cases this
  | succ fuel ih =>
    intro l listed a w hlen hl hsz hcl hB h
    refine ⟨fun hr => ?_, fun i hi => ?_⟩
    · have := hnil l listed hl hsz hB hr
      subst this
      exact h
    · obtain ⟨hi1, oi, hoi, hall⟩ := mem_ready.1 hi
      have hil : i ∈ l := (hl i).2 hi1
      have hready : ∀ j, pre ops i j = true → j ∉ l := by
        intro j hp hj
        unfold pre at hp
        rw [hoi] at hp
        simp only [Array.any_eq_true'] at hp
        obtain ⟨e, he, h2⟩ := hp
        simp only [Bool.and_eq_true, beq_iff_eq] at h2
        have h3 := hall e he h2.1
        rw [h2.2] at h3
        have h4 := (hl j).1 hj
        rcases Nat.lt_or_ge j listed.size with h5 | h5
        · simp [h5] at h3 h4; rw [h3] at h4; cases h4
        · simp [Array.getElem?_eq_none h5] at h3
      have hx := exch hb l a w i hB hil (fun c hc => waitsT_ready hcl hready 5 c hc) h
      refine wpOp_mono (fun a' w' h' => ih (l.erase i) _ a' w' ?_ ?_ (by simpa using hsz) ?_ (pairs_erase i hB) h'.2) hx
      · rw [List.length_erase_of_mem hil]; omega
      · intro k
        rw [(pairs_nodup hB).mem_erase_iff]
        by_cases hki : k = i
        · subst hki
          have hlt : k < listed.size := by rw [hsz]; exact (Array.getElem?_eq_some_iff.1 hoi).1
          simp [hlt]
        · rw [getD_set_ne true (fun e => hki e.symm)]
          simp [hki, hl k]
      · intro k j hp hj
        rw [(pairs_nodup hB).mem_erase_iff] at hj ⊢
        refine ⟨fun e => ?_, hcl k j hp hj.2⟩
        subst e
        exact hready j hp hj.2
theorem wpK_of_wpOps : ∀ (l : List Nat) (a : Act) (w : World), wpOps P ops Q l a w → wpK [] [] P ops Q l a w
  | [], _, _, h => h
  | i :: l, a, w, h => by
    rw [wpOps_cons] at h
    exact ⟨.inl rfl, wpOp_mono (fun a' w' h' => ⟨by simp, wpK_of_wpOps l a' w' h'⟩) h⟩
/-- **One order for all.** -/
theorem region_sq {id : Nat} {l : List Oper} {a : Act} {w : World} (T ks ord : List Nat) (hm : P.follows .mixedOrders = true) (hB : (sqB ks P l.toArray ord && edgesB l.toArray) = true)
    (hb : Calm (sqQ P l.toArray Q)) (h : wpK T ks P l.toArray (sqQ P l.toArray Q) ord a w.drew) : (Code.region id l.toArray true).wp P Q a w := by
  rw [Bool.and_eq_true] at hB
  obtain ⟨hB, hed⟩ := hB
  unfold sqB at hB
  rw [Bool.and_eq_true, Bool.and_eq_true, List.all_eq_true, decide_eq_true_eq] at hB
  obtain ⟨⟨hlen, hall⟩, hp⟩ := hB
  have hmem : ∀ k, k ∈ ord ↔ k < l.toArray.size := fun k => ⟨fun hk => by
    obtain ⟨o, ho, _⟩ := self_spec (pairs_self hp k hk)
    exact (Array.getElem?_eq_some_iff.1 ho).1, fun hk => by simpa using hall k (List.mem_range.2 hk)⟩
  have hany := sq_any hb hed l.toArray.size ord (Array.replicate l.toArray.size false) a w.drew hlen (fun k => by
    rw [hmem]
    by_cases hk : k < l.toArray.size
    · simp only [List.size_toArray] at hk; simp [hk]
    · simp only [List.size_toArray] at hk; simp [hk]) (by simp) (fun k j hpre hj => by
      rw [hmem]
      unfold pre at hpre
      split at hpre
      · rename_i o ho; exact (Array.getElem?_eq_some_iff.1 ho).1
      · cases hpre) hp h
  have : (Code.region id l.toArray true).wp P (sqQ P l.toArray Q) a w := wp_region_any hm hany
  exact Code.wp_mono (fun e a w h => h.2) this
/-- The same, in the order of the text. -/
theorem region_sq_l {id : Nat} {l : List Oper} {a : Act} {w : World} (hm : P.follows .mixedOrders = true) (hB : (sqB [] P l.toArray (List.range l.length) && edgesB l.toArray) = true)
    (hb : Calm (sqQ P l.toArray Q)) (h : wpList P l.toArray (sqQ P l.toArray Q) l a w.drew) : (Code.region id l.toArray true).wp P Q a w := by
  refine region_sq [] [] (List.range l.length) hm hB hb (wpK_of_wpOps _ _ _ ?_)
  rw [List.range_eq_range', wpOps_eq_wpList l 0 (by simp)]
  exact h
/-- The operations of these numbers. -/
def pickL (l : List Oper) (ns : List Nat) : List Oper := ns.filterMap (l[·]?)
theorem wp_then {o : Oper} {a : Act} {w : World} {K N : Act → World → Prop} (h : o.wp P a w K (Exit.then N Q)) : o.wp P a w K Q := by
  unfold Oper.wp at *
  cases hr : (execOp a.eval o).run P w with
  | ok n w' =>
    rw [hr] at h
    cases n <;> simp only [Oper.upon] at h ⊢ <;> first
      | exact h
      | exact Calls.mono h fun e w'' he => by cases e <;> exact he
  | halt x w' =>
    rw [hr] at h
    cases x <;> exact h
theorem wpList_mono {L : List Oper} {ops : Array Oper} {Q Q' : Exit → Act → World → Prop} (hQ : ∀ e a w, Q e a w → Q' e a w) : ∀ (a : Act) (w : World), wpList P ops Q L a w → wpList P ops Q' L a w := by
  induction L with
  | nil => intro a w h; exact hQ _ _ _ h
  | cons o L ih =>
    intro a w h
    unfold wpList at h ⊢
    split
    · rename_i hw
      rw [if_pos hw] at h
      rcases h with h | ⟨h1, a2, w2, h2⟩
      · refine .inl ?_
        have h := Oper.wp_mono (K' := wpList P ops Q' L) ih h
        unfold Oper.wp at *
        cases hr : (execOp a.eval o).run P w with
        | ok n w' =>
          rw [hr] at h
          cases n <;> simp only [Oper.upon] at h ⊢ <;> first
            | exact h
            | (refine Calls.mono h fun e w'' he => ?_
               cases e with
               | returned v => exact he
               | panicked c => exact hQ _ _ _ he
               | outgrown => obtain ⟨a3, w3, h3⟩ := he; exact ⟨a3, w3, hQ _ _ _ h3⟩)
        | halt x w' =>
          rw [hr] at h
          cases x <;> simp only [Oper.upon] at h ⊢
          exact hQ _ _ _ h
      · exact .inr ⟨h1, a2, w2, hQ _ _ _ h2⟩
    · rename_i hw
      rw [if_neg hw] at h
      exact ih _ _ h
inductive Stp where
  | row (ns : List Nat)
  | ld (j : Nat)
  | kept (j : Nat)
/-- A step of a walk's plan: some operations in a row; a load over calls that turn blocks of T; a call that turns no more than T. -/
def wpPlan (T : List Nat) (P : Program) (l : List Oper) (Q : Exit → Act → World → Prop) : List Stp → Act → World → Prop
  | [], a, w => Q .normal a w
  | [.row ns], a, w => wpList P l.toArray Q (pickL l ns) a w
  | .row ns :: more, a, w => wpList P l.toArray (Exit.then (wpPlan T P l Q more) Q) (pickL l ns) a w
  | .ld j :: more, a, w => (∀ o, l[j]? = some o → ldOK T o a w) ∧ wpList P l.toArray (Exit.then (wpPlan T P l Q more) Q) (pickL l [j]) a w
  | .kept j :: more, a, w => wpList P l.toArray (Exit.then (fun a' w' => KeptT T w w' ∧ wpPlan T P l Q more a' w') Q) (pickL l [j]) a w
def planOrd : List Stp → List Nat
  | [] => []
  | .row ns :: more => ns ++ planOrd more
  | .ld j :: more => j :: planOrd more
  | .kept j :: more => j :: planOrd more
def planKs : List Stp → List Nat
  | [] => []
  | .kept j :: more => j :: planKs more
  | _ :: more => planKs more
def rowOK (strict : Bool) (ks : List Nat) (P : Program) (l : List Oper) (i : Nat) : Bool := !ks.contains i && decide (i < l.length) && (!strict || match l[i]? with | some o => !(cls P o == 2) | none => false)
def planOK (strict : Bool) (ks : List Nat) (P : Program) (l : List Oper) : List Stp → Bool
  | [] => true
  | .row ns :: more => ns.all (rowOK strict ks P l) && planOK strict ks P l more
  | .ld j :: more => !ks.contains j && (match l[j]? with | some o => cls P o == 2 | none => false) && planOK strict ks P l more
  | .kept j :: more => decide (j < l.length) && (match l[j]? with | some o => !(cls P o == 2) | none => false) && planOK strict ks P l more
theorem ldS_no {l : List Oper} {i : Nat} {o : Oper} {a : Act} {w : World} (ho : l[i]? = some o) (h : T = [] ∨ ¬ cls P o = 2) : ldS T P l.toArray i a w := by
  refine h.imp id fun h o' ho' h2 => ?_
  have : o' = o := by simpa [ho] using ho'.symm
  subst this
  exact absurd h2 h
theorem wpK_row {strict : Bool} {l : List Oper} (hst : strict = false → T = []) (rest : List Nat) : ∀ (ns : List Nat) (a : Act) (w : World), ns.all (rowOK strict ks P l) = true →
    wpList P l.toArray (Exit.then (wpK T ks P l.toArray Q rest) Q) (pickL l ns) a w → wpK T ks P l.toArray Q (ns ++ rest) a w
  | [], a, w, _, h => h
  | i :: ns, a, w, hn, h => by
    simp only [List.all_cons, Bool.and_eq_true] at hn
    obtain ⟨hr, hns⟩ := hn
    simp only [rowOK, Bool.and_eq_true, Bool.not_eq_true', decide_eq_true_eq, Bool.or_eq_true] at hr
    obtain ⟨⟨hk, hi⟩, hs⟩ := hr
    have ho : l.toArray[i]? = some l[i] := by simp [hi]
    have hl : l[i]? = some l[i] := by simp [hi]
    have hp : pickL l (i :: ns) = l[i] :: pickL l ns := by simp [pickL, hi]
    rw [hp] at h
    refine ⟨ldS_no hl (hs.imp (fun h => hst h) fun h => ?_), ?_⟩
    · rw [hl] at h
      simpa using h
    unfold wpOp
    simp only [ho]
    unfold wpList at h
    split
    · rename_i hw
      rw [if_pos hw] at h
      rcases h with h | ⟨h1, h2⟩
      · exact .inl (wp_then (Oper.wp_mono (fun a' w' h' => ⟨fun e => (by rw [hk] at e; cases e), wpK_row hst rest ns a' w' hns h'⟩) h))
      · exact .inr ⟨h1, h2⟩
    · rename_i hw
      rw [if_neg hw] at h
      exact ⟨fun e => (by rw [hk] at e; cases e), wpK_row hst rest ns _ w hns h⟩
/-- One operation, and on. -/
theorem wpOp_one {l : List Oper} (j : Nat) (a : Act) (w : World) (hj : j < l.length) {N : Act → World → Prop} (h : wpList P l.toArray (Exit.then N Q) (pickL l [j]) a w) : wpOp P l.toArray Q j N a w := by
  have ho : l.toArray[j]? = some l[j] := by simp [hj]
  have hp : pickL l [j] = [l[j]] := by simp [pickL, hj]
  rw [hp] at h
  unfold wpOp
  simp only [ho]
  unfold wpList at h
  split
  · rename_i hw
    rw [if_pos hw] at h
    rcases h with h | ⟨h1, h2⟩
    · exact .inl (wp_then (Oper.wp_mono (fun a' w' h' => h') h))
    · exact .inr ⟨h1, h2⟩
  · rename_i hw
    rw [if_neg hw] at h
    exact h
theorem wpK_plan {strict : Bool} {l : List Oper} (hb : Calm Q) (hst : strict = false → T = []) : ∀ (pl : List Stp) (a : Act) (w : World), planOK strict ks P l pl = true → wpPlan T P l Q pl a w → (∀ j, Stp.kept j ∈ pl → ks.contains j = true) → wpK T ks P l.toArray Q (planOrd pl) a w
  | [], a, w, hok, h, _ => h
  | [.row ns], a, w, hok, h, _ => by
    simp only [planOK, Bool.and_eq_true] at hok
    have := wpK_row (ks := ks) (P := P) (Q := Q) (l := l) (T := T) hst [] ns a w hok.1 (wpList_mono (fun e a w h => by cases e <;> exact h) a w h)
    simpa [planOrd] using this
  | .row ns :: s :: more, a, w, hok, h, hk => by
    simp only [planOK, Bool.and_eq_true] at hok
    refine wpK_row hst (planOrd (s :: more)) ns a w hok.1 (wpList_mono (fun e a1 w1 h' => ?_) a w h)
    cases e with
    | normal => exact wpK_plan hb hst (s :: more) a1 w1 (by simpa [planOK] using hok.2) h' fun j hj => hk j (List.mem_cons_of_mem _ hj)
    | _ => exact h'
  | .ld j :: more, a, w, hok, h, hk => by
    simp only [planOK, Bool.and_eq_true, Bool.not_eq_true'] at hok
    obtain ⟨⟨h1, h2⟩, h3⟩ := hok
    obtain ⟨hld, h⟩ := h
    cases ho : l[j]? with
    | none => rw [ho] at h2; cases h2
    | some o =>
      rw [ho] at h2
      have h2 : cls P o = 2 := by simpa using h2
      have hj := (List.getElem?_eq_some_iff.1 ho).1
      have hop := wpOp_one j a w hj h
      have ho' : l.toArray[j]? = some o := by simpa using ho
      obtain ⟨v, hy, _⟩ := ye_of_wpOp (L := true) (T := T) hb ho' (.inr ⟨h2, rfl⟩) (fun _ => .inr fun _ => hld o ho) (fun h => by rw [h2] at h; cases h) hop
      refine ⟨.inr fun o2 ho2 _ => ?_, wpOp_mono (fun a' w' h' => ⟨fun e => (by rw [h1] at e; cases e), wpK_plan hb hst more a' w' h3 h' fun j hj => hk j (List.mem_cons_of_mem _ hj)⟩) hop⟩
      rw [ho'] at ho2
      injection ho2 with ho2
      subst ho2
      exact ⟨v, hy⟩
  | .kept j :: more, a, w, hok, h, hk => by
    simp only [planOK, Bool.and_eq_true, decide_eq_true_eq] at hok
    obtain ⟨⟨h1, h2⟩, h3⟩ := hok
    have ho : l[j]? = some l[j] := by simp [h1]
    rw [ho] at h2
    exact ⟨ldS_no ho (.inr (by simpa using h2)), wpOp_mono (fun a' w' h' => ⟨fun _ => h'.1, wpK_plan hb hst more a' w' h3 h'.2 fun j hj => hk j (List.mem_cons_of_mem _ hj)⟩) (wpOp_one j a w h1 h)⟩
theorem planKs_mem : ∀ (pl : List Stp) (j : Nat), Stp.kept j ∈ pl → (planKs pl).contains j = true
  | [], _, h => by cases h
  | .row ns :: more, j, h => planKs_mem more j ((List.mem_cons.1 h).resolve_left (by simp))
  | .ld k :: more, j, h => planKs_mem more j ((List.mem_cons.1 h).resolve_left (by simp))
  | .kept k :: more, j, h => by
    rcases List.mem_cons.1 h with h | h
    · injection h with h; subst h; simp [planKs]
    · have := planKs_mem more j h
      simp [planKs] at this ⊢
      exact .inr this
/-- The law, by a plan: calls that turn nothing that was there. -/
theorem region_plan {id : Nat} {l : List Oper} {a : Act} {w : World} (pl : List Stp) (hm : P.follows .mixedOrders = true)
    (hB : (sqB (planKs pl) P l.toArray (planOrd pl) && edgesB l.toArray && planOK false (planKs pl) P l pl) = true)
    (hb : Calm (sqQ P l.toArray Q)) (h : wpPlan [] P l (sqQ P l.toArray Q) pl a w.drew) : (Code.region id l.toArray true).wp P Q a w := by
  rw [Bool.and_eq_true] at hB
  exact region_sq [] (planKs pl) (planOrd pl) hm hB.1 hb (wpK_plan (strict := false) hb (fun _ => rfl) pl a w.drew hB.2 h (planKs_mem pl))
/-- The law, by a plan: calls that turn no more than the blocks of T. -/
theorem region_planT {id : Nat} {l : List Oper} {a : Act} {w : World} (T : List Nat) (pl : List Stp) (hm : P.follows .mixedOrders = true)
    (hB : (sqB (planKs pl) P l.toArray (planOrd pl) && edgesB l.toArray && planOK true (planKs pl) P l pl) = true)
    (hb : Calm (sqQ P l.toArray Q)) (h : wpPlan T P l (sqQ P l.toArray Q) pl a w.drew) : (Code.region id l.toArray true).wp P Q a w := by
  rw [Bool.and_eq_true] at hB
  exact region_sq T (planKs pl) (planOrd pl) hm hB.1 hb (wpK_plan (strict := true) hb (by simp) pl a w.drew hB.2 h (planKs_mem pl))
end
theorem calm_of {P : Program} {ops : Array Oper} {Q : Exit → Act → World → Prop} {R : Ending → World → Prop} (h1 : ∀ c a w, Q (.panic c) a w → R (.panicked c) w) (h2 : ∀ a w, Q .outgrown a w → R .outgrown w)
    (hR : ∀ e w, R e w → ∃ v, e = .returned v) : Calm (sqQ P ops Q) :=
  ⟨fun c a w h => (by obtain ⟨v, hv⟩ := hR _ _ (h1 c a w h.2); cases hv), fun ⟨a, w, h⟩ => (by obtain ⟨v, hv⟩ := hR _ _ (h2 a w h.2); cases hv)⟩
end Go.Proofs.Ytnmogfjbbibeiaa
