/- What a law's arguments read as: integers, strings, slices, opened to plain lists; and the words in which the walks of the laws are told. -/
import Derived.Test.YtnmogfjbbibeiaaRows
import Derived.Test.YtnmogfjbbibeiaaBase
import Derived.ProofKit
import Derived.OpenShut
import Derived.ShutString
import Derived.Deep.Slices
namespace Go.Proofs.Ytnmogfjbbibeiaa
set_option maxRecDepth 100000
open Go.RowKit Go.ChangeShapes Go.WideShapes Go.Deep

/-- These cells read as a value of type t. -/
def Rd (W : World) (t : TypeId) (cs : List Value) : Prop :=
  ∃ (H : Type) (enc : TypeId × Value → H) (fuel : Nat) (x : DataW H × List MemPlace), DataW.trod enc Try.prog W 0 (fun _ => true) true fuel t cs = some x
/-- An argument of type t. -/
def In (W : World) (t : TypeId) (v : Value) : Prop := (∃ (r : Reach) (b : Nat), Value.okWide Try.prog W r b t v) ∧ Rd W t v.cells.toList

theorem In.mk_ {W : World} {t : TypeId} {v : Value} {r : Reach} {b : Nat} {H : Type} {enc : TypeId × Value → H} {d : DataW H} {p : List MemPlace} (h : Value.okWide Try.prog W r b t v)
    (h' : DataW.Trod enc Try.prog W 0 (fun _ => true) true t v d p) : In W t v := by
  obtain ⟨n, hn⟩ := h'
  exact ⟨⟨r, b, h⟩, H, enc, n, _, hn⟩

theorem cell_block_lt {w : World} {a : Addr} {v : Value} (h : w.cell? a = some v) : a.block < w.heap.size := by
  rcases Nat.lt_or_ge a.block w.heap.size with hlt | hge
  · exact hlt
  · simp [World.cell?, Array.getElem?_eq_none hge] at h

section
variable {W : World} {t e : TypeId} {v : Value} {k : IntKind}
theorem rd_int (ht : Try.prog.underlying t = some (.int k)) (h : Rd W t [v]) : ∃ n, v = .int k n ∧ (Lit.int k n).wf = true := by
  obtain ⟨H, enc, n, x, hx⟩ := h
  obtain ⟨a, h1, _, h2⟩ := DataW.trod_int ht hx
  exact ⟨a, by simpa using h1, h2⟩
theorem rd_string (ht : Try.prog.underlying t = some .string) (h : Rd W t [v]) : ∃ s : ByteArray, v = .string s ∧ s.size ≤ maxLen := by
  obtain ⟨H, enc, n, x, hx⟩ := h
  obtain ⟨a, h1, _, h2⟩ := DataW.trod_string ht hx
  exact ⟨a, by simpa using h1, h2⟩
theorem rd_slice (ht : Try.prog.underlying t = some (.slice e)) (hc : Try.prog.cellsOf e = 1) (h : Rd W t [v]) :
    ∃ (A : Option Addr) (n c : Nat) (xs : List Value), v = .slice A n c ∧ n ≤ c ∧ c ≤ maxLen ∧ Ls W A n xs ∧ (∀ u ∈ xs, Rd W e [u]) ∧ (∀ ad, A = some ad → 0 < c → ad.block < W.heap.size) ∧ (A = none → c = 0) := by
  obtain ⟨H, enc, fuel, x, hx⟩ := h
  rcases open_slice1 ht hc hx with ⟨h1, _⟩ | ⟨a, len, cap, m, n, V, D, Pl, h1, _, hl, hm, hmm, _, hall⟩
  · exact ⟨none, 0, 0, [], by simpa using h1, Nat.le_refl _, Nat.zero_le _, Ls.nil_, by simp, by simp, fun _ => rfl⟩
  · simp only [if_true] at hmm
    subst hmm
    have hb : ∀ i, i < m → a.block < W.heap.size := fun i hi => by
      have := cell_block_lt (hall i hi).1
      rwa [addr_add_block] at this
    refine ⟨some a, len, m, (List.range len).map V, by simpa using h1, hl, hm, ⟨by simp, fun hn => ⟨a, rfl, hb 0 (by omega), fun j u hu => ?_⟩⟩, ?_, ?_, ?_⟩
    · rw [List.getElem?_map] at hu
      by_cases hj : j < len
      · rw [List.getElem?_range hj] at hu
        have hu' : V j = u := by simpa using hu
        rw [← hu']
        exact (hall j (by omega)).1
      · rw [List.getElem?_eq_none (by simpa using hj)] at hu
        cases hu
    · intro u hu
      obtain ⟨i, hi, rfl⟩ := List.mem_map.1 hu
      have hi' : i < len := by simpa using hi
      exact ⟨H, enc, n, _, (hall i (by omega)).2⟩
    · rintro ad ⟨rfl⟩ h0
      exact hb 0 h0
    · intro h0
      cases h0

theorem ints_of {xs : List Value} (h : ∀ u ∈ xs, ∃ n, u = .int k n ∧ (Lit.int k n).wf = true) : ∃ zs : List Int, xs = zs.map (Value.int k) ∧ ∀ z ∈ zs, (Lit.int k z).wf = true := by
  induction xs with
  | nil => exact ⟨[], rfl, by simp⟩
  | cons u us ih =>
    obtain ⟨n, rfl, hn⟩ := h u (by simp)
    obtain ⟨zs, rfl, hz⟩ := ih fun u hu => h u (List.mem_cons_of_mem _ hu)
    exact ⟨n :: zs, rfl, by simp; exact ⟨hn, hz⟩⟩
theorem strings_of {xs : List Value} (h : ∀ u ∈ xs, ∃ s : ByteArray, u = .string s ∧ s.size ≤ maxLen) : ∃ zs : List ByteArray, xs = zs.map Value.string ∧ ∀ z ∈ zs, z.size ≤ maxLen := by
  induction xs with
  | nil => exact ⟨[], rfl, by simp⟩
  | cons u us ih =>
    obtain ⟨n, rfl, hn⟩ := h u (by simp)
    obtain ⟨zs, rfl, hz⟩ := ih fun u hu => h u (List.mem_cons_of_mem _ hu)
    exact ⟨n :: zs, rfl, by simp; exact ⟨hn, hz⟩⟩

theorem in_int (ht : Try.prog.underlying t = some (.int k)) (h : In W t v) : ∃ n, v = .int k n ∧ (Lit.int k n).wf = true := by
  obtain ⟨⟨r, b, h⟩, h'⟩ := h
  obtain ⟨n, rfl⟩ := okWide_int ht h
  exact rd_int ht h'
theorem in_string (ht : Try.prog.underlying t = some .string) (h : In W t v) : ∃ s : ByteArray, v = .string s ∧ s.size ≤ maxLen := by
  obtain ⟨⟨r, b, h⟩, h'⟩ := h
  obtain ⟨s, rfl⟩ := okWide_string ht h
  exact rd_string ht h'
theorem in_bool (ht : Try.prog.underlying t = some .bool) (h : In W t v) : ∃ b, v = .bool b := by
  obtain ⟨⟨r, b, h⟩, _⟩ := h
  exact okWide_bool ht h
theorem in_rd_slice (ht : Try.prog.underlying t = some (.slice e)) (h : In W t v) : Rd W t [v] := by
  obtain ⟨⟨r, b, h⟩, h'⟩ := h
  obtain ⟨a, l, c, rfl⟩ := okWide_slice ht h
  exact h'
end

theorem bd_i64 {n : Int} (h : (Lit.int .i64 n).wf = true) : -9223372036854775808 ≤ n ∧ n ≤ 9223372036854775807 := by
  have := bounds_i64 h
  omega

def Yes (w : World) (e : Ending) (w' : World) : Prop := e = .returned (.bool true) ∧ Kp [] w w'
theorem own : ownKnob Try.prog.godebug = none := by kernel_rfl
theorem laidOut : laidOutB Try.prog = true := by kernel_rfl
end Go.Proofs.Ytnmogfjbbibeiaa
