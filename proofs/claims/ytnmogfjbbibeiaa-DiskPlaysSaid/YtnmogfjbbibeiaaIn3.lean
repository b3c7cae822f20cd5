/- What a law's arguments read as: structs, rows of structs. -/
import Derived.Test.YtnmogfjbbibeiaaSz
namespace Go.Proofs.Ytnmogfjbbibeiaa
set_option maxRecDepth 100000
open Go.RowKit Go.ChangeShapes Go.WideShapes Go.Deep
set_option linter.unusedVariables false

theorem addr_add_one (a : Addr) (i k j : Nat) : (a.add (i * k)).add j = a.add (i * k + j) := by
  unfold Addr.add
  by_cases hi : i * k = 0 <;> by_cases hj : j = 0 <;> simp [hi, hj, Nat.add_assoc]
section
variable {W : World} {t e : TypeId} {v : Value}
/-- A field's cells. -/
theorem rd_field {fs : Array Field} {cs : List Value} (ht : Try.prog.underlying t = some (.struct fs)) (h : Rd W t cs) (i : Nat) (f : Field) (hf : fs[i]? = some f) : Rd W f.type ((cs.drop f.offset).take (Try.prog.cellsOf f.type)) := by
  obtain ⟨H, enc, fuel, x, hx⟩ := h
  obtain ⟨xs, n, rfl, rfl, hl, hlen, hfs⟩ := DataW.trod_struct ht hx
  have h1 := hfs i f hf
  have hi : i < xs.length := by rw [hlen]; exact (Array.getElem?_eq_some_iff.1 hf).1
  rw [List.getElem?_eq_getElem hi] at h1
  exact ⟨H, enc, n, _, h1⟩
theorem in_struct {fs : Array Field} (ht : Try.prog.underlying t = some (.struct fs)) (h : In W t v) : ∃ cs, v = .agg cs ∧ cs.size = Try.prog.cellsOf t ∧ Rd W t cs.toList := by
  obtain ⟨⟨r, b, hv⟩, h'⟩ := h
  obtain ⟨cs, rfl, hsz⟩ := okWide_struct ht hv
  exact ⟨cs, rfl, hsz, h'⟩
/-- A slice whose elements take k cells. -/
structure RowN (W : World) (e : TypeId) (k : Nat) (A : Option Addr) (css : List (List Value)) : Prop where
  each : ∀ i cs, css[i]? = some cs → cs.length = k ∧ Rd W e cs ∧ ∃ ad, A = some ad ∧ ad.block < W.heap.size ∧ ∀ j u, cs[j]? = some u → W.cell? (ad.add (i * k + j)) = some u
theorem rd_slice_n {k : Nat} (ht : Try.prog.underlying t = some (.slice e)) (hk : Try.prog.cellsOf e = k) (hk0 : 0 < k) (h : Rd W t [v]) :
    ∃ (A : Option Addr) (n c : Nat) (css : List (List Value)), v = .slice A n c ∧ n ≤ c ∧ c ≤ maxLen ∧ css.length = n ∧ RowN W e k A css := by
  obtain ⟨H, enc, fuel, x, hx⟩ := h
  rcases open_slice ht hx with ⟨h1, _⟩ | ⟨a, len, cap, m, n, D, Pl, h1, _, hl, hm, hmm, _, hall⟩
  · exact ⟨none, 0, 0, [], by simpa using h1, Nat.le_refl _, Nat.zero_le _, rfl, ⟨fun i cs h => by simp at h⟩⟩
  · simp only [if_true] at hmm
    subst hmm
    rw [hk] at hall
    obtain ⟨C, hC⟩ := choose_lt (α := List Value) (p := fun i cs => W.cells? 0 (a.add (i * k)) k = some cs ∧ DataW.trod enc Try.prog W 0 (fun _ => true) true n e cs = some (D i, Pl i)) (fun i hi => hall i hi)
    refine ⟨some a, len, m, (List.range len).map C, by simpa using h1, hl, hm, by simp, ⟨fun i cs hcs => ?_⟩⟩
    rw [List.getElem?_map] at hcs
    by_cases hi : i < len
    · rw [List.getElem?_range hi] at hcs
      have hcs : C i = cs := by simpa using hcs
      subst hcs
      obtain ⟨h2, h3⟩ := hC i (by omega)
      obtain ⟨_, h4, h5⟩ := World.cells?_some h2
      have hcell : ∀ j u, (C i)[j]? = some u → W.cell? (a.add (i * k + j)) = some u := fun j u hu => by
        have hj : j < k := by rw [← h4]; exact (List.getElem?_eq_some_iff.1 hu).1
        rw [← addr_add_one, h5 j hj]
        exact hu
      refine ⟨h4, ⟨H, enc, n, _, h3⟩, a, rfl, ?_, hcell⟩
      have h6 := hcell 0 ((C i)[0]'(by omega)) (List.getElem?_eq_getElem (by omega))
      have := cell_block_lt h6
      rwa [addr_add_block] at this
    · rw [List.getElem?_eq_none (by simpa using hi)] at hcs
      cases hcs
theorem rds_field {fs : Array Field} {cs : List Value} (ht : Try.prog.underlying t = some (.struct fs)) (h : RdS W t cs) (i : Nat) (f : Field) (hf : fs[i]? = some f) : RdS W f.type ((cs.drop f.offset).take (Try.prog.cellsOf f.type)) := by
  obtain ⟨H, enc, fuel, x, hx, hw⟩ := h
  obtain ⟨xs, n, rfl, rfl, hl, hlen, hfs⟩ := DataW.trod_struct ht hx
  have h1 := hfs i f hf
  have hi : i < xs.length := by rw [hlen]; exact (Array.getElem?_eq_some_iff.1 hf).1
  rw [List.getElem?_eq_getElem hi] at h1
  refine ⟨H, enc, n, _, h1, fun k hk => hw k ?_⟩
  simp only [DataW.weights, ht]
  exact DataW.weights_mem_each (j := i) (t := f.type) (d := xs[i].1) (by rw [List.getElem?_map, Array.getElem?_toList, hf]; rfl) (by rw [List.getElem?_map, List.getElem?_eq_getElem hi]; rfl) k hk
theorem ins_struct {fs : Array Field} (ht : Try.prog.underlying t = some (.struct fs)) (h : InS W t v) : ∃ cs, v = .agg cs ∧ cs.size = Try.prog.cellsOf t ∧ RdS W t cs.toList := by
  obtain ⟨⟨r, b, hv⟩, h'⟩ := h
  obtain ⟨cs, rfl, hsz⟩ := okWide_struct ht hv
  exact ⟨cs, rfl, hsz, h'⟩
structure RowS (W : World) (e : TypeId) (k : Nat) (A : Option Addr) (css : List (List Value)) : Prop where
  each : ∀ i cs, css[i]? = some cs → cs.length = k ∧ RdS W e cs ∧ ∃ ad, A = some ad ∧ ad.block < W.heap.size ∧ ∀ j u, cs[j]? = some u → W.cell? (ad.add (i * k + j)) = some u
theorem rds_slice_n {k : Nat} (ht : Try.prog.underlying t = some (.slice e)) (hk : Try.prog.cellsOf e = k) (hk0 : 0 < k) (h : RdS W t [v]) :
    ∃ (A : Option Addr) (n c : Nat) (css : List (List Value)), v = .slice A n c ∧ n ≤ c ∧ c ≤ maxLen ∧ c * Try.prog.bytesOf e ≤ reachBytes ∧ css.length = n ∧ RowS W e k A css := by
  obtain ⟨H, enc, fuel, x, hx, hw⟩ := h
  rcases open_slice ht hx with ⟨h1, _⟩ | ⟨a, len, cap, m, n, D, Pl, h1, _, hl, hm, hmm, rfl, hall⟩
  · exact ⟨none, 0, 0, [], by simpa using h1, Nat.le_refl _, Nat.zero_le _, by simp, rfl, ⟨fun i cs h => by simp at h⟩⟩
  · simp only [if_true] at hmm
    subst hmm
    rw [hk] at hall
    have hw0 : ∀ k ∈ (len + (m - len)) * Try.prog.bytesOf e :: (DataW.weightsAll Try.prog e ((List.range len).map D) ++ DataW.weightsAll Try.prog e ((List.range (m - len)).map fun j => D (len + j))), k ≤ reachBytes := by
      simpa [DataW.weights, ht] using hw
    obtain ⟨C, hC⟩ := choose_lt (α := List Value) (p := fun i cs => W.cells? 0 (a.add (i * k)) k = some cs ∧ DataW.trod enc Try.prog W 0 (fun _ => true) true n e cs = some (D i, Pl i)) (fun i hi => hall i hi)
    refine ⟨some a, len, m, (List.range len).map C, by simpa using h1, hl, hm, ?_, by simp, ⟨fun i cs hcs => ?_⟩⟩
    · have := hw0 _ (List.mem_cons_self)
      rwa [show len + (m - len) = m by omega] at this
    rw [List.getElem?_map] at hcs
    by_cases hi : i < len
    · rw [List.getElem?_range hi] at hcs
      have hcs : C i = cs := by simpa using hcs
      subst hcs
      obtain ⟨h2, h3⟩ := hC i (by omega)
      obtain ⟨_, h4, h5⟩ := World.cells?_some h2
      have hcell : ∀ j u, (C i)[j]? = some u → W.cell? (a.add (i * k + j)) = some u := fun j u hu => by
        have hj : j < k := by rw [← h4]; exact (List.getElem?_eq_some_iff.1 hu).1
        rw [← addr_add_one, h5 j hj]
        exact hu
      refine ⟨h4, ⟨H, enc, n, _, h3, fun q hq => hw0 q (List.mem_cons_of_mem _ (List.mem_append_left _ (weightsAll_mem (List.mem_map.2 ⟨i, List.mem_range.2 hi, rfl⟩) hq)))⟩, a, rfl, ?_, hcell⟩
      have h6 := hcell 0 ((C i)[0]'(by omega)) (List.getElem?_eq_getElem (by omega))
      have := cell_block_lt h6
      rwa [addr_add_block] at this
    · rw [List.getElem?_eq_none (by simpa using hi)] at hcs
      cases hcs
end
theorem list3 {α : Type} {cs : List α} (h : cs.length = 3) : ∃ a b c, cs = [a, b, c] := by
  match cs, h with
  | [a, b, c], _ => exact ⟨a, b, c, rfl⟩
theorem list6 {α : Type} {cs : List α} (h : cs.length = 6) : ∃ a b c d e f, cs = [a, b, c, d, e, f] := by
  match cs, h with
  | [a, b, c, d, e, f], _ => exact ⟨a, b, c, d, e, f, rfl⟩
end Go.Proofs.Ytnmogfjbbibeiaa
