/- What a law's arguments read as, with the reach: no slice or string takes more bytes than the form lets in. -/
import Derived.Test.YtnmogfjbbibeiaaIn
import Derived.SizedLaws
namespace Go.Proofs.Ytnmogfjbbibeiaa
set_option maxRecDepth 100000
open Go.RowKit Go.ChangeShapes Go.WideShapes Go.Deep

def RdS (W : World) (t : TypeId) (cs : List Value) : Prop :=
  ∃ (H : Type) (enc : TypeId × Value → H) (fuel : Nat) (x : DataW H × List MemPlace), DataW.trod enc Try.prog W 0 (fun _ => true) true fuel t cs = some x ∧ ∀ k ∈ x.1.weights Try.prog t, k ≤ reachBytes
def InS (W : World) (t : TypeId) (v : Value) : Prop := (∃ (r : Reach) (b : Nat), Value.okWide Try.prog W r b t v) ∧ RdS W t v.cells.toList
theorem RdS.rd {W : World} {t : TypeId} {cs : List Value} (h : RdS W t cs) : Rd W t cs := by
  obtain ⟨H, enc, n, x, hx, _⟩ := h
  exact ⟨H, enc, n, x, hx⟩
theorem InS.in_ {W : World} {t : TypeId} {v : Value} (h : InS W t v) : In W t v := ⟨h.1, h.2.rd⟩
theorem InS.mk_ {W : World} {t : TypeId} {v : Value} {r : Reach} {b : Nat} {H : Type} {enc : TypeId × Value → H} {d : DataW H} {p : List MemPlace} {ts : List TypeId} {ds : List (DataW H)} {j : Nat} (h : Value.okWide Try.prog W r b t v)
    (h' : DataW.Trod enc Try.prog W 0 (fun _ => true) true t v d p) (hsz : (DataW.weightsEach Try.prog ts ds).all (· ≤ reachBytes) = true) (ht : ts[j]? = some t) (hd : ds[j]? = some d) : InS W t v := by
  obtain ⟨n, hn⟩ := h'
  refine ⟨⟨r, b, h⟩, H, enc, n, _, hn, fun k hk => ?_⟩
  have := List.all_eq_true.1 hsz _ (DataW.weights_mem_each ht hd k hk)
  simpa using this
theorem weightsAll_mem {H : Type} {e : TypeId} {d : DataW H} {k : Nat} : ∀ {l : List (DataW H)}, d ∈ l → k ∈ d.weights Try.prog e → k ∈ DataW.weightsAll Try.prog e l
  | [], h, _ => by cases h
  | a :: l, h, hk => by
    rw [DataW.weightsAll]
    rcases List.mem_cons.1 h with rfl | h
    · exact List.mem_append_left _ hk
    · exact List.mem_append_right _ (weightsAll_mem h hk)
section
variable {W : World} {t e : TypeId} {v : Value}
theorem rds_slice (ht : Try.prog.underlying t = some (.slice e)) (hc : Try.prog.cellsOf e = 1) (h : RdS W t [v]) :
    ∃ (A : Option Addr) (n c : Nat) (xs : List Value), v = .slice A n c ∧ n ≤ c ∧ c ≤ maxLen ∧ c * Try.prog.bytesOf e ≤ reachBytes ∧ Ls W A n xs ∧ (∀ u ∈ xs, RdS W e [u]) := by
  obtain ⟨H, enc, fuel, x, hx, hw⟩ := h
  rcases open_slice1 ht hc hx with ⟨h1, _⟩ | ⟨a, len, cap, m, n, V, D, Pl, h1, _, hl, hm, hmm, rfl, hall⟩
  · exact ⟨none, 0, 0, [], by simpa using h1, Nat.le_refl _, Nat.zero_le _, by simp, Ls.nil_, by simp⟩
  · simp only [if_true] at hmm
    subst hmm
    have hb : ∀ i, i < m → a.block < W.heap.size := fun i hi => by
      have := cell_block_lt (hall i hi).1
      rwa [addr_add_block] at this
    have hw0 : ∀ k ∈ (len + (m - len)) * Try.prog.bytesOf e :: (DataW.weightsAll Try.prog e ((List.range len).map D) ++ DataW.weightsAll Try.prog e ((List.range (m - len)).map fun j => D (len + j))), k ≤ reachBytes := by
      simpa [DataW.weights, ht] using hw
    refine ⟨some a, len, m, (List.range len).map V, by simpa using h1, hl, hm, ?_, ⟨by simp, fun hn => ⟨a, rfl, hb 0 (by omega), fun j u hu => ?_⟩⟩, ?_⟩
    · have := hw0 _ (List.mem_cons_self)
      rwa [show len + (m - len) = m by omega] at this
    · rw [List.getElem?_map] at hu
      by_cases hj : j < len
      · rw [List.getElem?_range hj] at hu
        have hu' : V j = u := by simpa using hu
        rw [← hu']
        exact (hall j (by omega)).1
      · rw [List.getElem?_eq_none (by simpa using hj)] at hu
        cases hu
    · intro u hu
      obtain ⟨i, hi, rfl⟩ := List.mem_map.1 hu
      have hi' : i < len := by simpa using hi
      refine ⟨H, enc, n, _, (hall i (by omega)).2, fun k hk => hw0 k ?_⟩
      refine List.mem_cons_of_mem _ (List.mem_append_left _ (weightsAll_mem (List.mem_map.2 ⟨i, hi, rfl⟩) hk))
theorem in_rds_slice (ht : Try.prog.underlying t = some (.slice e)) (h : InS W t v) : RdS W t [v] := by
  obtain ⟨⟨r, b, h⟩, h'⟩ := h
  obtain ⟨a, l, c, rfl⟩ := okWide_slice ht h
  exact h'
end
end Go.Proofs.Ytnmogfjbbibeiaa
