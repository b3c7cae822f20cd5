/- strings.Builder, as package pack uses it: numbers and texts put behind one another. -/
import Derived.Test.YtencjlkmpodghaaPkA
import Derived.Lib.Builder
import Derived.Lib.AppendStr
import Derived.LaidEqlPtr
namespace Go.Proofs.Ytencjlkmpodghaa
set_option maxRecDepth 100000
open Go.RowKit
set_option linter.unusedVariables false

theorem At.grown {w w' : World} {g : Nat} {t : TypeId} {cs : Array Value} {row : Option Nat} (h : At w g t cs) (hg : w.grownBy w' row) (hne : some g ≠ row) : At w' g t cs := (hg.block g h.lt hne).trans h
def BdAt (B b : Nat) (p : Value) (l : List UInt8) (w : World) : Prop := Lib.BuilderAt 64 5 B b p (Lib.byteCells l) w
def Bd (B b : Nat) (l : List UInt8) (w : World) : Prop := BdAt B b (.pointer none) l w ∨ BdAt B b (.pointer (some ⟨b, 0, none⟩)) l w
theorem BdAt.cells {B b : Nat} {p : Value} {l : List UInt8} {w : World} (h : BdAt B b p l w) :
    ∃ v, At w b 64 #[p, v] ∧ w.cell? ⟨b, 0, none⟩ = some p ∧ w.cell? ⟨b, 1, none⟩ = some v ∧ w.frozen? ⟨b, 0, none⟩ = false ∧ w.frozen? ⟨b, 1, none⟩ = false ∧ OwnB B w v l ∧ v.ownBlock ≠ some b ∧ B ≤ b ∧ b < w.heap.size := by
  obtain ⟨h1, v, h2, h3, h4⟩ := h
  have ha : At w b 64 #[p, v] := h2
  refine ⟨v, ha, (ha.cell 0).trans rfl, (ha.cell 1).trans rfl, ha.frozen 0, ha.frozen 1, ?_, h4, h1, ha.lt⟩
  unfold OwnB
  rw [Lib.byteCells_length] at h3
  exact h3
theorem BdAt.mk_ {B b : Nat} {p v : Value} {l : List UInt8} {w : World} (ha : At w b 64 #[p, v]) (ho : OwnB B w v l) (hne : v.ownBlock ≠ some b) (hb : B ≤ b) : BdAt B b p l w :=
  ⟨hb, v, ha, by rw [Lib.byteCells_length]; exact ho, hne⟩

theorem size_builder : (Try.prog.info? 64).map (·.size) = some 2 := by kernel_rfl
theorem lies_builder : liesAt Try.prog Try.prog.depth 64 (2 / Try.prog.cellsOf 64) 0 64 1 = true := by kernel_rfl
set_option maxHeartbeats 400000 in
theorem check_none (b : Nat) (w : World) (h0 : w.cell? ⟨b, 0, none⟩ = some (.pointer none)) (hsh : w.shape? b = some (64, 2)) (hfz : w.frozen? ⟨b, 0, none⟩ = false) :
    Calls Try.prog 52 #[.pointer (some ⟨b, 0, none⟩)] w fun e w' => e = .returned (.tuple #[]) ∧ w.setCell ⟨b, 0, none⟩ (.pointer (some ⟨b, 0, none⟩)) = w' := by
  obtain ⟨j, hj, hjs⟩ := Option.map_eq_some_iff.1 size_builder
  go_enter Try.func52, Try.ntmps52
  go_wp2
  rw [Lib.run_to_unsafe w ⟨b, 0, none⟩ Try.underlying62 Try.underlying83 hj (by rw [hjs]; decide) hsh (Nat.zero_lt_succ 1)]
  simp only [Result.andThen]
  rw [Oper.upon_value]
  go_wp2
  rw [run_callFunc_extern Try.func54 (by kernel_rfl) (by kernel_rfl) (by kernel_rfl) (e := Extern.AbiNoEscape.same) (by kernel_rfl)]
  rw [Lib.run_noEscape]
  simp only [Result.andThen]
  rw [Oper.upon_value]
  go_wp2
  rw [Lib.run_from_unsafe w ⟨b, 0, none⟩ Try.underlying83 Try.underlying62 hj hsh lies_builder]
  simp only [Result.andThen]
  rw [Oper.upon_value]
  go_wp2
  go_end0
  exact ⟨rfl, rfl⟩
set_option maxHeartbeats 400000 in
theorem check_some (b : Nat) (w : World) (h0 : w.cell? ⟨b, 0, none⟩ = some (.pointer (some ⟨b, 0, none⟩))) :
    Calls Try.prog 52 #[.pointer (some ⟨b, 0, none⟩)] w fun e w' => e = .returned (.tuple #[]) ∧ w = w' := by
  obtain ⟨j, hj, _⟩ := Option.map_eq_some_iff.1 size_builder
  go_enter Try.func52, Try.ntmps52
  go_wp2
  rw [Lib.run_neq_ptr_same w _ Try.underlying62 hj]
  go_wp2
  go_end0
  exact ⟨rfl, rfl⟩
theorem check_any (B b : Nat) (l : List UInt8) (w : World) (h : Bd B b l w) :
    Calls Try.prog 52 #[.pointer (some ⟨b, 0, none⟩)] w fun e w' => e = .returned (.tuple #[]) ∧ BdAt B b (.pointer (some ⟨b, 0, none⟩)) l w' ∧ Below B w w' ∧ Kp [b] w w' := by
  rcases h with h | h
  · obtain ⟨v, ha, c0, c1, f0, f1, ho, hne, hB, hlt⟩ := h.cells
    refine (check_none b w c0 h.shape f0).mono ?_
    rintro e w' ⟨rfl, rfl⟩
    exact ⟨rfl, Lib.BuilderAt.used h _, (Below.refl _ _).setCell hB _, (Kp.rfl_ _ _).set (by simp) _⟩
  · obtain ⟨v, ha, c0, c1, f0, f1, ho, hne, hB, hlt⟩ := h.cells
    refine (check_some b w c0).mono ?_
    rintro e w' ⟨rfl, rfl⟩
    exact ⟨rfl, h, Below.refl _ _, Kp.rfl_ _ _⟩

set_option maxHeartbeats 1000000 in
theorem write_any (B b : Nat) (l l2 : List UInt8) (A : Option Addr) (c : Nat) (w : World) (h : Bd B b l w) (hL : Ls w A l2.length (Lib.byteCells l2)) (hoff : 0 < l2.length → ∀ ad, A = some ad → ad.block ≠ b) (hl : l.length ≤ 1000000000) (hl2 : l2.length ≤ 1000000000) (hBw : B ≤ w.heap.size) :
    Calls Try.prog 44 #[.pointer (some ⟨b, 0, none⟩), .slice A l2.length c] w fun e w' => e = .returned (.tuple #[.int .i64 l2.length, .nilIface]) ∧ Bd B b (l ++ l2) w' ∧ Below B w w' := by
  go_enter Try.func44, Try.ntmps44
  go_wp2_with fail
  refine (check_any B b l w h).mono ?_
  rintro e w1 ⟨rfl, h1, hb1, hk1⟩
  have hL1 := hL.kp hk1 (by simpa using hoff)
  obtain ⟨v, ha, c0, c1, f0, f1, ho, hne, hB, hlt⟩ := h1.cells
  obtain ⟨i0, hi, hz, hz1, hz2⟩ := info_parts info_u8
  have hone := oneCell_bytes l2
  have h63 : l.length + l2.length ≤ maxLen := by unfold maxLen; omega
  have hby : (l.length + l2.length) * 1 ≤ 140737488355328 := by omega
  have hs1 := hb1.size
  have hbase : B ≤ w1.heap.size := by omega
  go_wp2_with (at_builtin; go_must (refine wpl_app w1 rfl _ _ 31 rfl B 5 i0 _ 1 Try.underlying31 hi hz hz1 hz2 rfl v l.length (Lib.byteCells l) rfl ho A l2.length c (Lib.byteCells l2) rfl hL1 hone h63 hby hbase ?_); intro v6 w6 hown6 hg6 hat6; obtain ⟨A6, k6, rfl, -, -, -, -⟩ := own_open hown6; have ha6 := At.grown ha hg6 (Ne.symm hne); have c6 : w6.cell? ⟨b, 1, none⟩ = some v := (ha6.cell 1).trans rfl; have f6 : w6.frozen? ⟨b, 1, none⟩ = false := ha6.frozen 1)
  go_ret2
  refine ⟨rfl, ?_, ?_⟩
  · have hne6 : (Value.slice A6 (l.length + l2.length) k6).ownBlock ≠ some b := by
      rcases hat6 with e | e
      · rw [e]; exact hne
      · rw [e]; intro e'; injection e' with e'; omega
    refine .inr (BdAt.mk_ (At.set ha6 1 _) ?_ hne6 hB)
    have ho6 : OwnB B w6 (.slice A6 (l.length + l2.length) k6) (l ++ l2) := by
      unfold OwnB
      rw [Lib.byteCells_append, List.length_append]
      exact hown6
    exact own_kp ho6 ((Kp.rfl_ [b] w6).set (by simp) _) (fun g hg => by
      simp only [List.mem_singleton]
      rintro rfl
      exact hne6 hg)
  · exact (hb1.grown hg6 hbase fun k hk => (own_block_lt ho hk).1).setCell hB _
end Go.Proofs.Ytencjlkmpodghaa
