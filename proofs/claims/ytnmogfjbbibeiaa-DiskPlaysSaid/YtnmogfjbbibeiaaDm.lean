/- Package disk: the names of its files, rising (words of lists; a list of names that grows). -/
import Derived.Test.YtnmogfjbbibeiaaDl
import Derived.Sort.OwnSorted
namespace Go.Proofs.Ytnmogfjbbibeiaa
set_option maxRecDepth 100000
open Go.RowKit Go.Maps Go.WideMaps Go.WideElems Go.ChangeMaps
set_option linter.unusedVariables false

/-- Rising: each one is below those behind it. -/
def Rising (L : List ByteArray) : Prop := L.Pairwise fun a b => a.data.toList < b.data.toList
theorem blt_irr (a : List UInt8) : ¬ a < a := List.lt_irrefl a
theorem rising_eq : ∀ {L L' : List ByteArray}, Rising L → Rising L' → (∀ s, s ∈ L ↔ s ∈ L') → L = L'
  | [], [], _, _, _ => rfl
  | [], b :: M, _, _, h => absurd ((h b).2 (by simp)) (by simp)
  | a :: L, [], _, _, h => absurd ((h a).1 (by simp)) (by simp)
  | a :: L, b :: M, h1, h2, h => by
    have h1' := List.pairwise_cons.1 h1
    have h2' := List.pairwise_cons.1 h2
    have hab : a = b := by
      rcases List.mem_cons.1 ((h a).1 (by simp)) with e | e
      · exact e
      · rcases List.mem_cons.1 ((h b).2 (by simp)) with e' | e'
        · exact e'.symm
        · exact absurd (List.lt_trans (h2'.1 a e) (h1'.1 b e')) (blt_irr _)
    subst hab
    rw [rising_eq h1'.2 h2'.2 fun s => ?_]
    constructor
    · intro hs
      rcases List.mem_cons.1 ((h s).1 (List.mem_cons_of_mem _ hs)) with e | e
      · subst e
        exact absurd (h1'.1 s hs) (blt_irr _)
      · exact e
    · intro hs
      rcases List.mem_cons.1 ((h s).2 (List.mem_cons_of_mem _ hs)) with e | e
      · subst e
        exact absurd (h2'.1 s hs) (blt_irr _)
      · exact e
/-- The names of the files that begin so, rising. -/
def NamesOf (F : ByteArray → Option Fl) (p : ByteArray) (L : List ByteArray) : Prop := Rising L ∧ ∀ s, s ∈ L ↔ ((F s).isSome = true ∧ hpre s p = true)
theorem NamesOf.eq {F : ByteArray → Option Fl} {p : ByteArray} {L L' : List ByteArray} (h : NamesOf F p L) (h' : NamesOf F p L') : L = L' := rising_eq h.1 h'.1 fun s => (h.2 s).trans (h'.2 s).symm
theorem hpre_nil (s : ByteArray) : hpre s ⟨#[]⟩ = true := by
  unfold hpre
  have : s.extract 0 (ByteArray.mk #[]).size = ⟨#[]⟩ := ByteArray.ext (by simp; exact .inl rfl)
  rw [this]
  simp
  exact Nat.zero_le _
/-- What was collected of the keys. -/
def Coll (D : DataW Unit) (p : ByteArray) (lf : Lit → Bool) (ss : List ByteArray) : Prop := ss.Nodup ∧ ∀ s, s ∈ ss ↔ (Maps.has D (kl s) = true ∧ lf (kl s) = false ∧ hpre s p = true)
theorem Coll.start (D : DataW Unit) (p : ByteArray) : Coll D p (Maps.has D) [] := ⟨List.nodup_nil, fun s => by simp; intro h h2; rw [h] at h2; cases h2⟩
theorem lit_same {s x : ByteArray} : Lit.sameKey (kl s) (kl x) = true ↔ s = x := by
  unfold kl
  simp only [Lit.sameKey, beq_iff_eq]
  exact ⟨fun h => bs_eq h, fun h => by rw [h]⟩
theorem Coll.pass {D : DataW Unit} {p : ByteArray} {lf : Lit → Bool} {ss : List ByteArray} (h : Coll D p lf ss) {x : ByteArray} (hx : hpre x p = false) : Coll D p (fun z => lf z && !z.sameKey (kl x)) ss := by
  refine ⟨h.1, fun s => ?_⟩
  rw [h.2]
  by_cases e : s = x
  · subst e; simp [hx]
  · have : Lit.sameKey (kl s) (kl x) = false := by cases hh : Lit.sameKey (kl s) (kl x) with
      | false => rfl
      | true => exact absurd (lit_same.1 hh) e
    simp [this]
theorem Coll.step {D : DataW Unit} {p : ByteArray} {lf : Lit → Bool} {ss : List ByteArray} (h : Coll D p lf ss) {x : ByteArray} (hx : hpre x p = true) (hl : lf (kl x) = true) (hD : Maps.has D (kl x) = true) : Coll D p (fun z => lf z && !z.sameKey (kl x)) (ss ++ [x]) := by
  have hnew : x ∉ ss := fun hm => by have := ((h.2 x).1 hm).2.1; rw [hl] at this; cases this
  refine ⟨List.nodup_append.2 ⟨h.1, by simp, fun a ha b hb => by simp at hb; subst hb; exact fun e => hnew (e ▸ ha)⟩, fun s => ?_⟩
  rw [List.mem_append, h.2]
  by_cases e : s = x
  · subst e; simp [hx, hD, lit_same.2 rfl]
  · have : Lit.sameKey (kl s) (kl x) = false := by cases hh : Lit.sameKey (kl s) (kl x) with
      | false => rfl
      | true => exact absurd (lit_same.1 hh) e
    simp [this, e]
/-- Sorted. -/
def srt (ss : List ByteArray) : List ByteArray := ((ss.map fun s => s.data.toList).mergeSort fun x y => decide (x ≤ y)).map bs
theorem srt_perm (ss : List ByteArray) : (srt ss).Perm ss := by
  unfold srt
  have := ((List.mergeSort_perm (ss.map fun s : ByteArray => s.data.toList) fun x y => decide (x ≤ y)).map bs)
  rwa [List.map_map, show (bs ∘ fun s : ByteArray => s.data.toList) = id from funext fun s => bs_of s, List.map_id] at this
theorem srt_len (ss : List ByteArray) : (srt ss).length = ss.length := (srt_perm ss).length_eq
theorem srt_enc (ss : List ByteArray) : ((ss.map fun s : ByteArray => s.data.toList).mergeSort fun x y => decide (x ≤ y)).map encStr = (srt ss).map Value.string := by
  unfold srt
  rw [List.map_map]
  rfl
theorem srt_rising {ss : List ByteArray} (h : ss.Nodup) : Rising (srt ss) := by
  unfold Rising srt
  rw [List.pairwise_map]
  have hs := List.pairwise_mergeSort (le := fun x y : List UInt8 => decide (x ≤ y)) (fun a b c h1 h2 => by simp only [decide_eq_true_eq] at *; exact List.le_trans h1 h2) (fun a b => by simp only [Bool.or_eq_true, decide_eq_true_eq]; exact List.le_total a b) (ss.map fun s : ByteArray => s.data.toList)
  have hn : ((ss.map fun s : ByteArray => s.data.toList).mergeSort fun x y => decide (x ≤ y)).Nodup := by
    refine (List.mergeSort_perm _ _).nodup_iff.2 ?_
    exact List.pairwise_map.2 (h.imp fun hne e => hne (bs_eq e))
  exact (hs.and hn).imp fun {a b} ⟨h1, h2⟩ => by
    simp only [decide_eq_true_eq] at h1
    exact Decidable.byContradiction fun hc => h2 (List.le_antisymm h1 (List.not_lt.1 hc))
theorem Coll.names {D : DataW Unit} {p : ByteArray} {lf : Lit → Bool} {ss : List ByteArray} {F : ByteArray → Option Fl} (h : Coll D p lf ss) (hl : ∀ k, lf k = false) (hD : ∀ s, Maps.has D (kl s) = (F s).isSome) : NamesOf F p (srt ss) :=
  ⟨srt_rising h.1, fun s => by rw [(srt_perm ss).mem_iff, h.2, hD, hl]; simp⟩
theorem enc_str (ss : List ByteArray) : ss.map Value.string = (ss.map fun s : ByteArray => s.data.toList).map encStr := by
  rw [List.map_map]
  rfl
end Go.Proofs.Ytnmogfjbbibeiaa
