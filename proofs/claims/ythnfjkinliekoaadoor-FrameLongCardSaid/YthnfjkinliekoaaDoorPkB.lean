/- strings.Builder, as package pack uses it: numbers and texts put behind one another. -/
import Derived.Test.YthnfjkinliekoaaDoorPkA
import Derived.Lib.Builder
import Derived.Lib.AppendStr
import Derived.LaidEqlPtr
namespace Go.Proofs.YthnfjkinliekoaaDoor
set_option maxRecDepth 100000
open Go.RowKit
set_option linter.unusedVariables false

theorem At.grown {w w' : World} {g : Nat} {t : TypeId} {cs : Array Value} {row : Option Nat} (h : At w g t cs) (hg : w.grownBy w' row) (hne : some g ≠ row) : At w' g t cs := (hg.block g h.lt hne).trans h
def BdAt (B b : Nat) (p : Value) (l : List UInt8) (w : World) : Prop := Lib.BuilderAt 68 5 B b p (Lib.byteCells l) w
def Bd (B b : Nat) (l : List UInt8) (w : World) : Prop := BdAt B b (.pointer none) l w ∨ BdAt B b (.pointer (some ⟨b, 0, none⟩)) l w
theorem BdAt.cells {B b : Nat} {p : Value} {l : List UInt8} {w : World} (h : BdAt B b p l w) :
    ∃ v, At w b 68 #[p, v] ∧ w.cell? ⟨b, 0, none⟩ = some p ∧ w.cell? ⟨b, 1, none⟩ = some v ∧ w.frozen? ⟨b, 0, none⟩ = false ∧ w.frozen? ⟨b, 1, none⟩ = false ∧ OwnB B w v l ∧ v.ownBlock ≠ some b ∧ B ≤ b ∧ b < w.heap.size := by
  obtain ⟨h1, v, h2, h3, h4⟩ := h
  have ha : At w b 68 #[p, v] := h2
  refine ⟨v, ha, (ha.cell 0).trans rfl, (ha.cell 1).trans rfl, ha.frozen 0, ha.frozen 1, ?_, h4, h1, ha.lt⟩
  unfold OwnB
  rw [Lib.byteCells_length] at h3
  exact h3
theorem BdAt.mk_ {B b : Nat} {p v : Value} {l : List UInt8} {w : World} (ha : At w b 68 #[p, v]) (ho : OwnB B w v l) (hne : v.ownBlock ≠ some b) (hb : B ≤ b) : BdAt B b p l w :=
  ⟨hb, v, ha, by rw [Lib.byteCells_length]; exact ho, hne⟩

theorem size_builder : (Tryd.prog.info? 68).map (·.size) = some 2 := by kernel_rfl
theorem lies_builder : liesAt Tryd.prog Tryd.prog.depth 68 (2 / Tryd.prog.cellsOf 68) 0 68 1 = true := by kernel_rfl
set_option maxHeartbeats 400000 in
theorem check_none (b : Nat) (w : World) (h0 : w.cell? ⟨b, 0, none⟩ = some (.pointer none)) (hsh : w.shape? b = some (68, 2)) (hfz : w.frozen? ⟨b, 0, none⟩ = false) :
    Calls Tryd.prog 54 #[.pointer (some ⟨b, 0, none⟩)] w fun e w' => e = .returned (.tuple #[]) ∧ w.setCell ⟨b, 0, none⟩ (.pointer (some ⟨b, 0, none⟩)) = w' := by
  obtain ⟨j, hj, hjs⟩ := Option.map_eq_some_iff.1 size_builder
  go_enter Tryd.func54, Tryd.ntmps54
  go_wp2
  rw [Lib.run_to_unsafe w ⟨b, 0, none⟩ Tryd.underlying66 Tryd.underlying95 hj (by rw [hjs]; decide) hsh (Nat.zero_lt_succ 1)]
  simp only [Result.andThen]
  rw [Oper.upon_value]
  go_wp2
  rw [run_callFunc_extern Tryd.func62 (by kernel_rfl) (by kernel_rfl) (by kernel_rfl) (e := Extern.AbiNoEscape.same) (by kernel_rfl)]
  rw [Lib.run_noEscape]
  simp only [Result.andThen]
  rw [Oper.upon_value]
  go_wp2
  rw [Lib.run_from_unsafe w ⟨b, 0, none⟩ Tryd.underlying95 Tryd.underlying66 hj hsh lies_builder]
  simp only [Result.andThen]
  rw [Oper.upon_value]
  go_wp2
  go_end0
  exact ⟨rfl, rfl⟩
set_option maxHeartbeats 400000 in
theorem check_some (b : Nat) (w : World) (h0 : w.cell? ⟨b, 0, none⟩ = some (.pointer (some ⟨b, 0, none⟩))) :
    Calls Tryd.prog 54 #[.pointer (some ⟨b, 0, none⟩)] w fun e w' => e = .returned (.tuple #[]) ∧ w = w' := by
  obtain ⟨j, hj, _⟩ := Option.map_eq_some_iff.1 size_builder
  go_enter Tryd.func54, Tryd.ntmps54
  go_wp2
  rw [Lib.run_neq_ptr_same w _ Tryd.underlying66 hj]
  go_wp2
  go_end0
  exact ⟨rfl, rfl⟩
theorem check_any (B b : Nat) (l : List UInt8) (w : World) (h : Bd B b l w) :
    Calls Tryd.prog 54 #[.pointer (some ⟨b, 0, none⟩)] w fun e w' => e = .returned (.tuple #[]) ∧ BdAt B b (.pointer (some ⟨b, 0, none⟩)) l w' ∧ Below B w w' ∧ Kp [b] w w' := by
  rcases h with h | h
  · obtain ⟨v, ha, c0, c1, f0, f1, ho, hne, hB, hlt⟩ := h.cells
    refine (check_none b w c0 h.shape f0).mono ?_
    rintro e w' ⟨rfl, rfl⟩
    exact ⟨rfl, Lib.BuilderAt.used h _, (Below.refl _ _).setCell hB _, (Kp.rfl_ _ _).set (by simp) _⟩
  · obtain ⟨v, ha, c0, c1, f0, f1, ho, hne, hB, hlt⟩ := h.cells
    refine (check_some b w c0).mono ?_
    rintro e w' ⟨rfl, rfl⟩
    exact ⟨rfl, h, Below.refl _ _, Kp.rfl_ _ _⟩

end Go.Proofs.YthnfjkinliekoaaDoor
