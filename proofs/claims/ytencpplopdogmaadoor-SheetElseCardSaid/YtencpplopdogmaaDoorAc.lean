/- Bytes appended to a slice of the call's own whose row may bear a mark behind its last cell ('append([]byte(s), ..)'). -/
import Derived.Test.YtencpplopdogmaaDoorBuf
import Derived.Test.YtencpplopdogmaaDoorPkA
import Derived.Laws.IdiomCopy
namespace Go.Proofs.YtencpplopdogmaaDoor
set_option maxRecDepth 100000
open Go.RowKit
set_option linter.unusedVariables false

/-- The slice v, of these bytes, lies in a block from base on; all its cells are there and may be written. -/
def OwnC (base : Nat) (w : World) (v : Value) (l : List UInt8) : Prop := ∃ g c, v = .slice (some ⟨g, 0, none⟩) l.length c ∧ base ≤ g ∧ g < w.heap.size ∧ l.length ≤ c ∧ c ≤ maxLen ∧
  (∀ j b, l[j]? = some b → w.cell? ⟨g, j, none⟩ = some (.int .u8 (b.toNat : Int))) ∧ ∀ j, j < c → (w.cell? ⟨g, j, none⟩).isSome = true ∧ w.frozen? ⟨g, j, none⟩ = false
theorem below_cells {B b : Nat} {a : World} (hb : B ≤ b) : ∀ (vs : List Value) (o : Nat) {w : World}, Below B a w → Below B a (w.setCells b o vs)
  | [], _, _, h => h
  | v :: r, o, _, h => below_cells hb r (o + 1) (h.setCell (p := ⟨b, o, none⟩) hb v)
theorem size_cells {b : Nat} : ∀ (vs : List Value) (o : Nat) (w : World), (w.setCells b o vs).heap.size = w.heap.size
  | [], _, _ => rfl
  | v :: r, o, w => by rw [World.setCells, size_cells r]; simp
theorem isSome_cells {b : Nat} : ∀ (vs : List Value) (o : Nat) (w : World) (x : Addr), (w.cell? x).isSome = true → ((w.setCells b o vs).cell? x).isSome = true
  | [], _, _, _, h => h
  | v :: r, o, w, x, h => by
    rw [World.setCells]
    refine isSome_cells r _ _ x ?_
    by_cases e : x = ⟨b, o, none⟩
    · subst e
      obtain ⟨u, hu⟩ := Option.isSome_iff_exists.1 h
      rw [World.cell?_setCell_same _ _ _ hu]
      rfl
    · rw [World.cell?_setCell_other _ _ _ _ (fun h' => e h'.symm)]
      exact h
theorem OwnC.ls {base : Nat} {w : World} {v : Value} {l : List UInt8} (h : OwnC base w v l) : ∃ A c, v = .slice A l.length c ∧ Ls w A l.length (Lib.byteCells l) := by
  obtain ⟨g, c, rfl, hb, hg, hc, hm, h1, h2⟩ := h
  refine ⟨_, _, rfl, by simp [Lib.byteCells], fun _ => ⟨_, rfl, hg, fun j u hu => ?_⟩⟩
  rw [addr0]
  unfold Lib.byteCells at hu
  rw [List.getElem?_map] at hu
  cases hj : l[j]? with
  | none => rw [hj] at hu; cases hu
  | some b =>
    rw [hj] at hu
    injection hu with hu
    rw [h1 j b hj, ← hu]
theorem OwnC.kp {base : Nat} {w w' : World} {v : Value} {l : List UInt8} (h : OwnC base w v l) (k : Kp [] w w') : OwnC base w' v l := by
  obtain ⟨g, c, rfl, hb, hg, hc, hm, h1, h2⟩ := h
  exact ⟨g, c, rfl, hb, Nat.lt_of_lt_of_le hg k.size, hc, hm, fun j b hj => by rw [k.cell hg (by simp)]; exact h1 j b hj, fun j hj => by rw [k.cell hg (by simp), k.frozen hg (by simp)]; exact h2 j hj⟩
theorem run_appc (w : World) (base : Nat) (ty : TypeId) (v : Value) (l nb : List UInt8) (hown : OwnC base w v l) (ad : Addr) (m c : Nat) (hr : Ls w (some ad) m (Lib.byteCells nb)) (hl : l.length + m ≤ 140737488355328) (hb : base ≤ w.heap.size) :
    ∃ v' w', (Builtin.append_ #[47, 47] ty #[v, .slice (some ad) m c]).run Tryd.prog w = .ok v' w' ∧ OwnC base w' v' (l ++ nb) ∧ Below base w w' ∧ w.heap.size ≤ w'.heap.size := by
  obtain ⟨i0, hi, hz, hs1, hs2⟩ := info_parts info_u8
  have hnl : nb.length = m := by have := hr.1; simpa [Lib.byteCells] using this
  have hnews : ∀ j u, (Lib.byteCells nb)[j]? = some u → w.cell? (ad.add j) = some u := by
    intro j u hu
    have hj := (List.getElem?_eq_some_iff.1 hu).1
    have h0 : 0 < m := by simp [Lib.byteCells] at hj; omega
    obtain ⟨ad', e, _, hc⟩ := hr.2 h0
    injection e with e
    subst e
    exact hc j u hu
  have h1c : ∀ u ∈ Lib.byteCells nb, u.oneCell' = true := by
    intro u hu
    obtain ⟨b, -, rfl⟩ := List.mem_map.1 hu
    rfl
  have hlc : (Lib.byteCells nb).length = m := by simp [Lib.byteCells, hnl]
  obtain ⟨g, cap, rfl, hbg, hg, hcap, hmax, hcel, hfr⟩ := hown
  by_cases hroom : l.length + m ≤ cap
  · have hf := run_firstCells_some (P := Tryd.prog) w 1 m ad m c (Lib.byteCells nb) (by omega) hnews
    have hst := run_storeCells_cells (P := Tryd.prog) g l.length (Lib.byteCells nb) 0 w (fun j hj => (hfr _ (by omega)).1) (fun j hj => (hfr _ (by omega)).2) h1c
    simp only [Nat.add_zero] at hst
    refine ⟨.slice (some ⟨g, 0, none⟩) (l.length + m) cap, w.setCells g l.length (Lib.byteCells nb), ?_, ⟨g, cap, by rw [List.length_append, hnl], hbg, by rw [size_cells]; exact hg, by rw [List.length_append, hnl]; exact hroom, hmax, ?_, ?_⟩, below_cells hbg _ _ (Below.refl _ _), by rw [size_cells]; exact Nat.le_refl _⟩
    · simp [Builtin.append_, run_underlying Tryd.underlying47, sizeOf, typeInfo, hi, hs1, Builtin.lenOf, hroom, hf, addr0, hst]
    · intro j b hj
      by_cases hjl : j < l.length
      · rw [World.cell?_setCells_out g _ _ _ _ (fun _ _ => .inl hjl)]
        rw [List.getElem?_append_left hjl] at hj
        exact hcel j b hj
      · rw [List.getElem?_append_right (by omega)] at hj
        have hj2 := (List.getElem?_eq_some_iff.1 hj).1
        have := World.cell?_setCells_in g (Lib.byteCells nb) l.length w (fun j hj => (hfr _ (by omega)).1) (j - l.length) (by omega)
        rw [show l.length + (j - l.length) = j by omega] at this
        rw [this]
        have e2 : (Lib.byteCells nb)[j - l.length]? = some (.int .u8 (b.toNat : Int)) := by simp [Lib.byteCells, hj]
        rw [List.getElem?_eq_getElem (by omega)] at e2
        exact e2
    · intro j hj
      exact ⟨isSome_cells _ _ _ _ (hfr j hj).1, by rw [World.frozen?_setCells]; exact (hfr j hj).2⟩
  · have hgrow := run_append_grow (P := Tryd.prog) w 47 ty 5 i0 _ Tryd.underlying47 hi hz ⟨g, 0, none⟩ l.length cap (Lib.byteCells l) (by simp [Lib.byteCells, hs1]) (by
      intro j u hu
      rw [addr0]
      unfold Lib.byteCells at hu
      rw [List.getElem?_map] at hu
      cases hj : l[j]? with
      | none => rw [hj] at hu; cases hu
      | some b =>
        rw [hj] at hu
        injection hu with hu
        rw [hcel j b hj, ← hu]) ad m c (Lib.byteCells nb) (by rw [hs1]; omega) hnews (by omega) (by unfold maxLen at hmax; omega) (growslice_fits (by omega) (by rw [hs2]; omega))
    have hge := grownCap_ge w (l.length + m) cap 5
    have hcm := grownCap_le_maxLen w (l.length + m) cap 5 (by unfold maxLen; omega)
    have hcsz : ((Lib.byteCells l).toArray ++ (Lib.byteCells nb).toArray ++ Builtin.zeroCells (Value.int .u8 0).cells (grownCap w (l.length + m) cap 5 - (l.length + m))).size = grownCap w (l.length + m) cap 5 := by
      rw [Array.size_append, Array.size_append, List.size_toArray, List.size_toArray, hlc, size_zeroCells]
      simp [Lib.byteCells, Value.cells]
      omega
    refine ⟨_, _, hgrow, ⟨w.heap.size, _, by rw [List.length_append, hnl], hb, ?_, by rw [List.length_append, hnl]; exact hge, hcm, ?_, ?_⟩, (Below.refl _ _).drew.alloc hb _, ?_⟩
    · simp
    · intro j b hj
      have e1 : (w.drew.alloc (.cells ((Lib.byteCells l).toArray ++ (Lib.byteCells nb).toArray ++ Builtin.zeroCells (Value.int .u8 0).cells (grownCap w (l.length + m) cap 5 - (l.length + m))) 5)).cell? ⟨w.heap.size, j, none⟩ = _ := World.cell?_alloc_new w.drew _ _ j
      rw [e1]
      have hj2 := (List.getElem?_eq_some_iff.1 hj).1
      rw [Array.getElem?_append_left (by rw [Array.size_append, List.size_toArray, List.size_toArray]; simp [Lib.byteCells]; simpa using hj2), List.append_toArray, ← Lib.byteCells_append, List.getElem?_toArray]
      unfold Lib.byteCells
      rw [List.getElem?_map, hj]
      rfl
    · intro j hj
      have e1 : (w.drew.alloc (.cells ((Lib.byteCells l).toArray ++ (Lib.byteCells nb).toArray ++ Builtin.zeroCells (Value.int .u8 0).cells (grownCap w (l.length + m) cap 5 - (l.length + m))) 5)).cell? ⟨w.heap.size, j, none⟩ = _ := World.cell?_alloc_new w.drew _ _ j
      rw [e1]
      refine ⟨?_, World.frozen?_alloc_new w.drew _ _ j⟩
      rw [Array.getElem?_eq_getElem (by rw [hcsz]; exact hj)]
      rfl
    · simp
theorem wpl_appc {w : World} {ops : Array Oper} {rest : List Oper} {o : Oper} {a : Act} {Q : Exit → Act → World → Prop} (hgd : o.guard = none) (s x : Operand)
    (ho : o.op = .call { callee := .builtin .append, args := #[s, x], argTypes := #[47, 47] })
    (base : Nat) (v : Value) (l nb : List UInt8) (hs : a.eval s = v) (hown : OwnC base w v l) (ad : Addr) (m c : Nat) (hx : a.eval x = .slice (some ad) m c) (hr : Ls w (some ad) m (Lib.byteCells nb)) (hl : l.length + m ≤ 140737488355328) (hb : base ≤ w.heap.size)
    (h : ∀ v' w', OwnC base w' v' (l ++ nb) → Below base w w' → w.heap.size ≤ w'.heap.size → wpList Tryd.prog ops Q rest (a.put o.dst v') w') :
    wpList Tryd.prog ops Q (o :: rest) a w :=
  wpList_plain hgd fun K hK => by
    obtain ⟨v', w', hrun, h2, h3, h4⟩ := run_appc w base o.type v l nb hown ad m c hr hl hb
    unfold Oper.wp execOp
    simp only [ho, resolve, invoke, builtin, Sem.run_bind, Sem.run_pure, Result.andThen_ok, List.map_toArray, List.map_cons, List.map_nil, hs, hx, hrun]
    exact hK _ _ (h v' w' h2 h3 h4)
/-- The step '[]byte(s)'. -/
theorem run_bytesC (w : World) (s : ByteArray) (hs : s.size ≤ 1099511627776) : ∃ v w', (convert 9 47 (.string s)).run Tryd.prog w = .ok v w' ∧ OwnC w.heap.size w' v s.data.toList ∧ Kp [] w w' := by
  refine ⟨_, _, Lib.run_convert_string_bytes w 9 47 5 s Tryd.underlying9 Tryd.underlying47 Tryd.underlying5, ⟨w.heap.size, _, by simp; rfl, Nat.le_refl _, by rw [Lib.bytesWorld_size]; omega, ?_, ?_, ?_, ?_⟩, bytesWorld_kp w s⟩
  · have := grownCap_ge w s.size 0 5
    simpa using this
  · exact grownCap_le_maxLen w s.size 0 5 (by unfold maxLen; omega)
  · intro j b hj
    exact (bytesWorld_buf w s).cell hj
  · intro j hj
    have hge := grownCap_ge w s.size 0 5
    have hsz : (Lib.bytesCells w 5 s).size = grownCap w s.size 0 5 := by simp [Lib.bytesCells]; omega
    constructor
    · rw [cell_of_row _ _ j _ _ _ (Lib.bytesWorld_at_new w 5 s), Array.getElem?_eq_getElem (by rw [hsz]; exact hj)]
      rfl
    · simp [World.frozen?, Lib.bytesWorld_at_new]
      omega
end Go.Proofs.YtencpplopdogmaaDoor
