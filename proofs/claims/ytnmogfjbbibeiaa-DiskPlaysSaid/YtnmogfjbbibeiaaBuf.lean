/- A string's bytes in new memory, that may be written: '[]byte(s)', and back. -/
import Derived.Test.YtnmogfjbbibeiaaBs
import Derived.Laws.IdiomStrings
import Derived.Lib.ConvBytes
import Derived.Lib.Strings
namespace Go.Proofs.Ytnmogfjbbibeiaa
set_option maxRecDepth 100000
open Go.RowKit
set_option linter.unusedVariables false

/-- Block g begins with these bytes, and they may be written. -/
def Buf (w : World) (g : Nat) (l : List UInt8) : Prop := ∃ cs fr, w.heap[g]? = some (.cells cs 5 fr) ∧ cs.toList.take l.length = Lib.byteCells l ∧ l.length ≤ cs.size ∧ (l.length ≤ fr.1 ∨ fr.2 = 0)
theorem Buf.lt {w : World} {g : Nat} {l : List UInt8} (h : Buf w g l) : g < w.heap.size := by
  obtain ⟨cs, fr, h1, _⟩ := h
  rcases Nat.lt_or_ge g w.heap.size with hlt | hge
  · exact hlt
  · rw [Array.getElem?_eq_none hge] at h1; cases h1
theorem Buf.cell {w : World} {g j : Nat} {l : List UInt8} {b : UInt8} (h : Buf w g l) (hb : l[j]? = some b) : w.cell? ⟨g, j, none⟩ = some (.int .u8 (b.toNat : Int)) := by
  obtain ⟨cs, fr, h1, h2, h3, _⟩ := h
  have hj := (List.getElem?_eq_some_iff.1 hb).1
  have h4 : (cs.toList.take l.length)[j]? = some (.int .u8 (b.toNat : Int)) := by rw [h2]; simp [Lib.byteCells, hb]
  rw [List.getElem?_take, if_pos hj] at h4
  rw [cell_of_row w g j cs _ _ h1]
  simpa using h4
theorem Buf.free {w : World} {g j : Nat} {l : List UInt8} (h : Buf w g l) (hj : j < l.length) : w.frozen? ⟨g, j, none⟩ = false := by
  obtain ⟨cs, fr, h1, h2, h3, h4⟩ := h
  simp [World.frozen?, h1]
  omega
theorem Buf.set {w : World} {g j : Nat} {l : List UInt8} (h : Buf w g l) (b : UInt8) : Buf (w.setCell ⟨g, j, none⟩ (.int .u8 (b.toNat : Int))) g (l.set j b) := by
  obtain ⟨cs, fr, h1, h2, h3, h4⟩ := h
  refine ⟨cs.setIfInBounds j (.int .u8 (b.toNat : Int)), fr, ?_, ?_, by simpa using h3, by simpa using h4⟩
  · simp [World.setCell, Array.getElem?_modify, h1]
  · rw [Array.toList_setIfInBounds, List.length_set, List.take_set, h2]
    simp [Lib.byteCells, List.map_set]
theorem Buf.kp {w w' : World} {g : Nat} {l : List UInt8} {S : List Nat} (h : Buf w g l) (k : Kp S w w') (hS : g ∉ S) : Buf w' g l := by
  have hlt := h.lt
  obtain ⟨cs, fr, h1, h2⟩ := h
  exact ⟨cs, fr, (k.block g hlt hS).trans h1, h2⟩
theorem Buf.back {w : World} {g : Nat} {l : List UInt8} (h : Buf w g l) (c n : Nat) (hn : l.length = n) : (convert 49 9 (.slice (some ⟨g, 0, none⟩) n c)).run Try.prog w = .ok (.string (bs l)) w := by
  subst hn
  refine run_convert_bytes_back (P := Try.prog) w 49 9 5 ⟨g, 0, none⟩ c l Try.underlying49 Try.underlying5 Try.underlying9 fun j hj => ?_
  rw [addr0]
  exact h.cell (List.getElem?_eq_getElem hj)
theorem bytesWorld_buf (w : World) (s : ByteArray) : Buf (Lib.bytesWorld w 5 s) w.heap.size s.data.toList := by
  refine ⟨Lib.bytesCells w 5 s, _, Lib.bytesWorld_at_new w _ s, ?_, ?_, .inl ?_⟩
  · simp [Lib.bytesCells, Lib.byteCells]
  · simp [Lib.bytesCells]
  · simp [Lib.bytesCells]
theorem bytesWorld_kp (w : World) (s : ByteArray) : Kp [] w (Lib.bytesWorld w 5 s) :=
  ⟨rfl, rfl, rfl, by rw [Lib.bytesWorld_size]; omega, fun k hk _ => Lib.bytesWorld_at_old w _ s k hk⟩
/-- The step '[]byte(s)'. -/
def Bytes (w : World) (s : ByteArray) (w' : World) (c : Nat) : Prop := Buf w' w.heap.size s.data.toList ∧ Kp [] w w' ∧ w.heap.size < w'.heap.size
theorem run_bytes (w : World) (s : ByteArray) : ∃ c w', (convert 9 49 (.string s)).run Try.prog w = .ok (.slice (some ⟨w.heap.size, 0, none⟩) s.size c) w' ∧ Bytes w s w' c :=
  ⟨_, _, Lib.run_convert_string_bytes w 9 49 5 s Try.underlying9 Try.underlying49 Try.underlying5, bytesWorld_buf w s, bytesWorld_kp w s, by rw [Lib.bytesWorld_size]; omega⟩
theorem Buf.of_own {w : World} {base n c g : Nat} {l : List UInt8} (h : w.ownsRow base 5 1 (.slice (some ⟨g, 0, none⟩) n c) n (Lib.byteCells l)) : Buf w g l ∧ l.length = n := by
  have hl : l.length = n := by have := h.1; simpa [Lib.byteCells] using this
  rcases h.2 with ⟨h1, _⟩ | ⟨g', cap, cur, h1, hb, hg, hn, hm, hs, ht⟩
  · cases h1
  · injection h1 with h1 _ h3
    injection h1 with h1
    injection h1 with h1 _ _
    subst h1
    subst h3
    exact ⟨⟨cur, (0, 0), hg, by rw [hl]; simpa using ht, by omega, .inr rfl⟩, hl⟩
end Go.Proofs.Ytnmogfjbbibeiaa
