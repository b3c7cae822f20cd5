/- Package pack: texts as bytes. -/
import Derived.Test.YthnfjkinliekoaaDoorPkB
import Derived.Test.YthnfjkinliekoaaDoorSh
namespace Go.Proofs.YthnfjkinliekoaaDoor
set_option maxRecDepth 100000
open Go.RowKit
set_option linter.unusedVariables false

set_option maxHeartbeats 1000000 in
theorem writes_any (B b : Nat) (l : List UInt8) (s : ByteArray) (w : World) (h : Bd B b l w) (hl : l.length ≤ 1000000000) (hl2 : s.size ≤ 1000000000) (hBw : B ≤ w.heap.size) :
    Calls Tryd.prog 40 #[.pointer (some ⟨b, 0, none⟩), .string s] w fun e w' => e = .returned (.tuple #[.int .i64 s.size, .nilIface]) ∧ Bd B b (l ++ s.data.toList) w' ∧ Below B w w' := by
  go_enter Tryd.func40, Tryd.ntmps40
  go_wp2_with fail
  refine (check_any B b l w h).mono ?_
  rintro e w1 ⟨rfl, h1, hb1, hk1⟩
  obtain ⟨v, ha, c0, c1, f0, f1, ho, hne, hB, hlt⟩ := h1.cells
  obtain ⟨i0, hi, hz, hz1, hz2⟩ := info_parts info_u8
  have h63 : l.length + s.size ≤ maxLen := by unfold maxLen; omega
  have hby : l.length + s.size ≤ 140737488355328 := by omega
  have hs1 := hb1.size
  have hbase : B ≤ w1.heap.size := by omega
  go_wp2_with (at_builtin; go_must (refine Lib.wpList_append_own_string w1 rfl _ _ 48 9 rfl B 5 i0 Tryd.underlying48 Tryd.underlying9 hi hz hz1 hz2 v l.length (Lib.byteCells l) rfl ho s rfl h63 hby hbase ?_); intro v6 w6 hown6 hg6 hat6; obtain ⟨A6, k6, rfl, -, -, -, -⟩ := own_open hown6; have ha6 := At.grown ha hg6 (Ne.symm hne); have c6 : w6.cell? ⟨b, 1, none⟩ = some v := (ha6.cell 1).trans rfl; have f6 : w6.frozen? ⟨b, 1, none⟩ = false := ha6.frozen 1)
  go_ret2
  have hne6 : (Value.slice A6 (l.length + s.size) k6).ownBlock ≠ some b := Lib.ownBlock_ne hown6 ha6 (by decide)
  refine ⟨rfl, ?_, ?_⟩
  · refine .inr (BdAt.mk_ (At.set ha6 1 _) ?_ hne6 hB)
    have hlen : (l ++ s.data.toList).length = l.length + s.size := by simp
    have ho6 : OwnB B w6 (.slice A6 (l.length + s.size) k6) (l ++ s.data.toList) := by
      unfold OwnB
      rw [Lib.byteCells_append, hlen]
      exact hown6
    exact own_kp ho6 ((Kp.rfl_ [b] w6).set (by simp) _) (fun g hg => by
      simp only [List.mem_singleton]
      rintro rfl
      exact hne6 hg)
  · exact (hb1.grown hg6 hbase fun k hk => (own_block_lt ho hk).1).setCell hB _
theorem string_any (B b : Nat) (l : List UInt8) (w : World) (h : Bd B b l w) (hBw : B ≤ w.heap.size) :
    Calls Tryd.prog 43 #[.pointer (some ⟨b, 0, none⟩)] w fun e w' => e = .returned (.string ⟨l.toArray⟩) ∧ Below B w w' := Tryd.Builder_String_any B b l w h hBw

theorem Bd.below {B b : Nat} {l : List UInt8} {w w' : World} (h : Bd B b l w) (hb : Below w.heap.size w w') : Bd B b l w' := by
  have key : ∀ p, BdAt B b p l w → BdAt B b p l w' := fun p h => by
    obtain ⟨v, ha, -, -, -, -, ho, hne, hB, hlt⟩ := h.cells
    exact BdAt.mk_ ((hb.block b hlt).trans ha) (OwnB.below ho hb) hne hB
  rcases h with h | h
  · exact .inl (key _ h)
  · exact .inr (key _ h)
theorem Bd.lt {B b : Nat} {l : List UInt8} {w : World} (h : Bd B b l w) : b < w.heap.size := by
  rcases h with h | h
  · obtain ⟨v, ha, -, -, -, -, ho, hne, hB, hlt⟩ := h.cells; exact hlt
  · obtain ⟨v, ha, -, -, -, -, ho, hne, hB, hlt⟩ := h.cells; exact hlt
def texts (ss : List ByteArray) : List UInt8 := ss.flatMap fun s => numB s.size ++ s.data.toList
end Go.Proofs.YthnfjkinliekoaaDoor
