/- strings.Builder, as package pack uses it: numbers and texts put behind one another. · Package pack: texts as bytes. -/
import Derived.Test.YtencpplopdogmaaDoorPkA
import Derived.Test.YtencpplopdogmaaDoorSh
import Derived.Lib.Builder
import Derived.Lib.AppendStr
import Derived.LaidEqlPtr
namespace Go.Proofs.YtencpplopdogmaaDoor
set_option maxRecDepth 100000
open Go.RowKit
set_option linter.unusedVariables false

theorem At.grown {w w' : World} {g : Nat} {t : TypeId} {cs : Array Value} {row : Option Nat} (h : At w g t cs) (hg : w.grownBy w' row) (hne : some g ≠ row) : At w' g t cs := (hg.block g h.lt hne).trans h
def BdAt (B b : Nat) (p : Value) (l : List UInt8) (w : World) : Prop := Lib.BuilderAt 91 5 B b p (Lib.byteCells l) w
def Bd (B b : Nat) (l : List UInt8) (w : World) : Prop := BdAt B b (.pointer none) l w ∨ BdAt B b (.pointer (some ⟨b, 0, none⟩)) l w
theorem BdAt.cells {B b : Nat} {p : Value} {l : List UInt8} {w : World} (h : BdAt B b p l w) :
    ∃ v, At w b 91 #[p, v] ∧ w.cell? ⟨b, 0, none⟩ = some p ∧ w.cell? ⟨b, 1, none⟩ = some v ∧ w.frozen? ⟨b, 0, none⟩ = false ∧ w.frozen? ⟨b, 1, none⟩ = false ∧ OwnB B w v l ∧ v.ownBlock ≠ some b ∧ B ≤ b ∧ b < w.heap.size := by
  obtain ⟨h1, v, h2, h3, h4⟩ := h
  have ha : At w b 91 #[p, v] := h2
  refine ⟨v, ha, (ha.cell 0).trans rfl, (ha.cell 1).trans rfl, ha.frozen 0, ha.frozen 1, ?_, h4, h1, ha.lt⟩
  unfold OwnB
  rw [Lib.byteCells_length] at h3
  exact h3
theorem BdAt.mk_ {B b : Nat} {p v : Value} {l : List UInt8} {w : World} (ha : At w b 91 #[p, v]) (ho : OwnB B w v l) (hne : v.ownBlock ≠ some b) (hb : B ≤ b) : BdAt B b p l w :=
  ⟨hb, v, ha, by rw [Lib.byteCells_length]; exact ho, hne⟩

theorem size_builder : (Tryd.prog.info? 91).map (·.size) = some 2 := by kernel_rfl
theorem lies_builder : liesAt Tryd.prog Tryd.prog.depth 91 (2 / Tryd.prog.cellsOf 91) 0 91 1 = true := by kernel_rfl
set_option maxHeartbeats 400000 in
theorem check_none (b : Nat) (w : World) (h0 : w.cell? ⟨b, 0, none⟩ = some (.pointer none)) (hsh : w.shape? b = some (91, 2)) (hfz : w.frozen? ⟨b, 0, none⟩ = false) :
    Calls Tryd.prog 73 #[.pointer (some ⟨b, 0, none⟩)] w fun e w' => e = .returned (.tuple #[]) ∧ w.setCell ⟨b, 0, none⟩ (.pointer (some ⟨b, 0, none⟩)) = w' := by
  obtain ⟨j, hj, hjs⟩ := Option.map_eq_some_iff.1 size_builder
  go_enter Tryd.func73, Tryd.ntmps73
  go_wp2
  rw [Lib.run_to_unsafe w ⟨b, 0, none⟩ Tryd.underlying89 Tryd.underlying108 hj (by rw [hjs]; decide) hsh (Nat.zero_lt_succ 1)]
  simp only [Result.andThen]
  rw [Oper.upon_value]
  go_wp2
  rw [run_callFunc_extern Tryd.func76 (by kernel_rfl) (by kernel_rfl) (by kernel_rfl) (e := Extern.AbiNoEscape.same) (by kernel_rfl)]
  rw [Lib.run_noEscape]
  simp only [Result.andThen]
  rw [Oper.upon_value]
  go_wp2
  rw [Lib.run_from_unsafe w ⟨b, 0, none⟩ Tryd.underlying108 Tryd.underlying89 hj hsh lies_builder]
  simp only [Result.andThen]
  rw [Oper.upon_value]
  go_wp2
  go_end0
  exact ⟨rfl, rfl⟩
set_option maxHeartbeats 400000 in
theorem check_some (b : Nat) (w : World) (h0 : w.cell? ⟨b, 0, none⟩ = some (.pointer (some ⟨b, 0, none⟩))) :
    Calls Tryd.prog 73 #[.pointer (some ⟨b, 0, none⟩)] w fun e w' => e = .returned (.tuple #[]) ∧ w = w' := by
  obtain ⟨j, hj, _⟩ := Option.map_eq_some_iff.1 size_builder
  go_enter Tryd.func73, Tryd.ntmps73
  go_wp2
  rw [Lib.run_neq_ptr_same w _ Tryd.underlying89 hj]
  go_wp2
  go_end0
  exact ⟨rfl, rfl⟩
theorem check_any (B b : Nat) (l : List UInt8) (w : World) (h : Bd B b l w) :
    Calls Tryd.prog 73 #[.pointer (some ⟨b, 0, none⟩)] w fun e w' => e = .returned (.tuple #[]) ∧ BdAt B b (.pointer (some ⟨b, 0, none⟩)) l w' ∧ Below B w w' ∧ Kp [b] w w' := by
  rcases h with h | h
  · obtain ⟨v, ha, c0, c1, f0, f1, ho, hne, hB, hlt⟩ := h.cells
    refine (check_none b w c0 h.shape f0).mono ?_
    rintro e w' ⟨rfl, rfl⟩
    exact ⟨rfl, Lib.BuilderAt.used h _, (Below.refl _ _).setCell hB _, (Kp.rfl_ _ _).set (by simp) _⟩
  · obtain ⟨v, ha, c0, c1, f0, f1, ho, hne, hB, hlt⟩ := h.cells
    refine (check_some b w c0).mono ?_
    rintro e w' ⟨rfl, rfl⟩
    exact ⟨rfl, h, Below.refl _ _, Kp.rfl_ _ _⟩

set_option maxHeartbeats 1000000 in
theorem write_any (B b : Nat) (l l2 : List UInt8) (A : Option Addr) (c : Nat) (w : World) (h : Bd B b l w) (hL : Ls w A l2.length (Lib.byteCells l2)) (hoff : 0 < l2.length → ∀ ad, A = some ad → ad.block ≠ b) (hl : l.length ≤ 1000000000) (hl2 : l2.length ≤ 1000000000) (hBw : B ≤ w.heap.size) :
    Calls Tryd.prog 63 #[.pointer (some ⟨b, 0, none⟩), .slice A l2.length c] w fun e w' => e = .returned (.tuple #[.int .i64 l2.length, .nilIface]) ∧ Bd B b (l ++ l2) w' ∧ Below B w w' := by
  go_enter Tryd.func63, Tryd.ntmps63
  go_wp2_with fail
  refine (check_any B b l w h).mono ?_
  rintro e w1 ⟨rfl, h1, hb1, hk1⟩
  have hL1 := hL.kp hk1 (by simpa using hoff)
  obtain ⟨v, ha, c0, c1, f0, f1, ho, hne, hB, hlt⟩ := h1.cells
  obtain ⟨i0, hi, hz, hz1, hz2⟩ := info_parts info_u8
  have hone := oneCell_bytes l2
  have h63 : l.length + l2.length ≤ maxLen := by unfold maxLen; omega
  have hby : (l.length + l2.length) * 1 ≤ 140737488355328 := by omega
  have hs1 := hb1.size
  have hbase : B ≤ w1.heap.size := by omega
  go_wp2_with (at_builtin; go_must (refine wpl_app w1 rfl _ _ 47 rfl B 5 i0 _ 1 Tryd.underlying47 hi hz hz1 hz2 rfl v l.length (Lib.byteCells l) rfl ho A l2.length c (Lib.byteCells l2) rfl hL1 hone h63 hby hbase ?_); intro v6 w6 hown6 hg6 hat6; obtain ⟨A6, k6, rfl, -, -, -, -⟩ := own_open hown6; have ha6 := At.grown ha hg6 (Ne.symm hne); have c6 : w6.cell? ⟨b, 1, none⟩ = some v := (ha6.cell 1).trans rfl; have f6 : w6.frozen? ⟨b, 1, none⟩ = false := ha6.frozen 1)
  go_ret2
  refine ⟨rfl, ?_, ?_⟩
  · have hne6 : (Value.slice A6 (l.length + l2.length) k6).ownBlock ≠ some b := by
      rcases hat6 with e | e
      · rw [e]; exact hne
      · rw [e]; intro e'; injection e' with e'; omega
    refine .inr (BdAt.mk_ (At.set ha6 1 _) ?_ hne6 hB)
    have ho6 : OwnB B w6 (.slice A6 (l.length + l2.length) k6) (l ++ l2) := by
      unfold OwnB
      rw [Lib.byteCells_append, List.length_append]
      exact hown6
    exact own_kp ho6 ((Kp.rfl_ [b] w6).set (by simp) _) (fun g hg => by
      simp only [List.mem_singleton]
      rintro rfl
      exact hne6 hg)
  · exact (hb1.grown hg6 hbase fun k hk => (own_block_lt ho hk).1).setCell hB _
end Go.Proofs.YtencpplopdogmaaDoor
namespace Go.Proofs.YtencpplopdogmaaDoor
set_option maxRecDepth 100000
open Go.RowKit
set_option linter.unusedVariables false

set_option maxHeartbeats 1000000 in
theorem writes_any (B b : Nat) (l : List UInt8) (s : ByteArray) (w : World) (h : Bd B b l w) (hl : l.length ≤ 1000000000) (hl2 : s.size ≤ 1000000000) (hBw : B ≤ w.heap.size) :
    Calls Tryd.prog 64 #[.pointer (some ⟨b, 0, none⟩), .string s] w fun e w' => e = .returned (.tuple #[.int .i64 s.size, .nilIface]) ∧ Bd B b (l ++ s.data.toList) w' ∧ Below B w w' := by
  go_enter Tryd.func64, Tryd.ntmps64
  go_wp2_with fail
  refine (check_any B b l w h).mono ?_
  rintro e w1 ⟨rfl, h1, hb1, hk1⟩
  obtain ⟨v, ha, c0, c1, f0, f1, ho, hne, hB, hlt⟩ := h1.cells
  obtain ⟨i0, hi, hz, hz1, hz2⟩ := info_parts info_u8
  have h63 : l.length + s.size ≤ maxLen := by unfold maxLen; omega
  have hby : l.length + s.size ≤ 140737488355328 := by omega
  have hs1 := hb1.size
  have hbase : B ≤ w1.heap.size := by omega
  go_wp2_with (at_builtin; go_must (refine Lib.wpList_append_own_string w1 rfl _ _ 47 9 rfl B 5 i0 Tryd.underlying47 Tryd.underlying9 hi hz hz1 hz2 v l.length (Lib.byteCells l) rfl ho s rfl h63 hby hbase ?_); intro v6 w6 hown6 hg6 hat6; obtain ⟨A6, k6, rfl, -, -, -, -⟩ := own_open hown6; have ha6 := At.grown ha hg6 (Ne.symm hne); have c6 : w6.cell? ⟨b, 1, none⟩ = some v := (ha6.cell 1).trans rfl; have f6 : w6.frozen? ⟨b, 1, none⟩ = false := ha6.frozen 1)
  go_ret2
  have hne6 : (Value.slice A6 (l.length + s.size) k6).ownBlock ≠ some b := Lib.ownBlock_ne hown6 ha6 (by decide)
  refine ⟨rfl, ?_, ?_⟩
  · refine .inr (BdAt.mk_ (At.set ha6 1 _) ?_ hne6 hB)
    have hlen : (l ++ s.data.toList).length = l.length + s.size := by simp
    have ho6 : OwnB B w6 (.slice A6 (l.length + s.size) k6) (l ++ s.data.toList) := by
      unfold OwnB
      rw [Lib.byteCells_append, hlen]
      exact hown6
    exact own_kp ho6 ((Kp.rfl_ [b] w6).set (by simp) _) (fun g hg => by
      simp only [List.mem_singleton]
      rintro rfl
      exact hne6 hg)
  · exact (hb1.grown hg6 hbase fun k hk => (own_block_lt ho hk).1).setCell hB _
theorem string_any (B b : Nat) (l : List UInt8) (w : World) (h : Bd B b l w) (hBw : B ≤ w.heap.size) :
    Calls Tryd.prog 65 #[.pointer (some ⟨b, 0, none⟩)] w fun e w' => e = .returned (.string ⟨l.toArray⟩) ∧ Below B w w' := Tryd.Builder_String_any B b l w h hBw

theorem Bd.below {B b : Nat} {l : List UInt8} {w w' : World} (h : Bd B b l w) (hb : Below w.heap.size w w') : Bd B b l w' := by
  have key : ∀ p, BdAt B b p l w → BdAt B b p l w' := fun p h => by
    obtain ⟨v, ha, -, -, -, -, ho, hne, hB, hlt⟩ := h.cells
    exact BdAt.mk_ ((hb.block b hlt).trans ha) (OwnB.below ho hb) hne hB
  rcases h with h | h
  · exact .inl (key _ h)
  · exact .inr (key _ h)
theorem Bd.lt {B b : Nat} {l : List UInt8} {w : World} (h : Bd B b l w) : b < w.heap.size := by
  rcases h with h | h
  · obtain ⟨v, ha, -, -, -, -, ho, hne, hB, hlt⟩ := h.cells; exact hlt
  · obtain ⟨v, ha, -, -, -, -, ho, hne, hB, hlt⟩ := h.cells; exact hlt
def texts (ss : List ByteArray) : List UInt8 := ss.flatMap fun s => numB s.size ++ s.data.toList
set_option maxRecDepth 100000 in
set_option maxHeartbeats 1000000 in
theorem text_any (A : Option Addr) (n c : Nat) (ss : List ByteArray) (w : World) (hL : Ls w A n (ss.map Value.string)) (hn : n ≤ 100000) (htot : (texts ss).length ≤ 1000000000) :
    Calls Tryd.prog 42 #[.slice A n c] w fun e w' => e = .returned (.string ⟨(texts ss).toArray⟩) ∧ Kp [] w w' := by
  have hlen : ss.length = n := by simpa using hL.1
  have HL := Lib.hid hlen
  clear hlen
  obtain ⟨bs, hbs⟩ : ∃ bs, texts ss = bs := ⟨_, rfl⟩
  rw [hbs]
  have HBS := Lib.hid hbs
  have HTOT := Lib.hid htot
  clear hbs htot
  go_enter Tryd.func42, Tryd.ntmps42
  go_wp2_with fail
  go_loopg [8] n (fun gk i wr => ∃ k : Nat, n - k ≤ gk ∧ i = .int .i64 k ∧ k ≤ n ∧ Bd w.heap.size w.heap.size (texts (ss.take k)) wr ∧ Below w.heap.size w wr)
  case atStart => exact ⟨0, by omega, rfl, Nat.zero_le _, Lib.fresh_isBuilder _ _ w, (Below.refl _ _).alloc (Nat.le_refl _) _⟩
  case round =>
    obtain ⟨k, hgk, rfl, hk, hbd, hbel⟩ := hrel
    have hszr := hbel.size
    by_cases hlt : k < n
    · obtain ⟨ad, u, rfl, _, hu, hc⟩ := (hL.kp (Kp.of_below hbel) (by simp)).at_ hlt
      have hl : k < ss.length := by have := HL.out; omega
      rw [List.getElem?_map, List.getElem?_eq_getElem hl] at hu
      obtain ⟨s, hs⟩ : ∃ s, ss[k] = s := ⟨_, rfl⟩
      rw [hs] at hu
      obtain rfl : Value.string s = u := by simpa using hu
      have hst : texts (ss.take (k + 1)) = texts (ss.take k) ++ (numB s.size ++ s.data.toList) := by
        unfold texts
        rw [List.take_add_one, List.getElem?_eq_getElem hl, hs]; simp
      have hle : (texts (ss.take k)).length + ((numB s.size).length + s.size) ≤ 1000000000 := by
        have h5 : texts ss = texts (ss.take (k + 1)) ++ texts (ss.drop (k + 1)) := by
          unfold texts
          rw [← List.flatMap_append, List.take_append_drop]
        have h6 := HTOT.out
        rw [h5, hst] at h6
        simp only [List.length_append, Array.length_toList, ByteArray.size_data] at h6
        omega
      have HST := Lib.hid hst
      clear hst hu hs hl
      generalize texts (ss.take k) = l at *
      go_wp2_with fail
      refine (appendNum_any wr.heap.size (.slice none 0 0) [] s.size _ (own_none _ _ _) (Nat.le_refl _) (by simp) (by omega) (by omega)).mono ?_
      rintro e w2 ⟨v2, rfl, hown2, hb2⟩
      obtain ⟨A2, k2, rfl, hL2, hA2, -, -⟩ := own_open hown2
      have hbd2 := hbd.below hb2
      have hs2 := hb2.size
      have hblt := hbd.lt
      have hnl := (numB_len (z := s.size) (by omega) (by omega)).2
      have hoff : 0 < ([] ++ numB s.size).length → ∀ ad, A2 = some ad → ad.block ≠ w.heap.size := fun _ ad had => by have := hA2 ad had; omega
      have hl2 : ([] ++ numB s.size).length ≤ 1000000000 := by simp; omega
      go_wp2_with fail
      refine (write_any w.heap.size w.heap.size l ([] ++ numB s.size) A2 k2 _ hbd2 hL2 hoff (by omega) hl2 (by omega)).mono ?_
      rintro e w3 ⟨rfl, hbd3, hb3⟩
      have hs3 := hb3.size
      have hl3 : (l ++ ([] ++ numB s.size)).length ≤ 1000000000 := by simp; omega
      go_wp2_with fail
      refine (writes_any w.heap.size w.heap.size (l ++ ([] ++ numB s.size)) s _ hbd3 hl3 (by omega) (by omega)).mono ?_
      rintro e w4 ⟨rfl, hbd4, hb4⟩
      have hfin : l ++ ([] ++ numB s.size) ++ s.data.toList = texts (ss.take (k + 1)) := by rw [HST.out]; simp
      rw [hfin] at hbd4
      have hb24 : Below w.heap.size w w4 := ((hbel.trans (hb2.mono (by omega))).trans hb3).trans hb4
      clear hfin hl3 hl2 hoff
      go_wp2_with fail
      go_roundg (n - (k + 1))
      case measure => omega
      case rel => exact ⟨k + 1, by omega, by go_num, by omega, hbd4, hb24⟩
    · have hkn : ss.take k = ss := List.take_of_length_le (by have := HL.out; omega)
      rw [hkn, HBS.out] at hbd
      clear hkn
      go_wp2_with fail
      refine (string_any w.heap.size w.heap.size bs _ hbd (by omega)).mono ?_
      rintro e w4 ⟨rfl, hb4⟩
      go_wp2_with fail
      go_ret
      exact ⟨rfl, Kp.of_below (hbel.trans hb4)⟩
end Go.Proofs.YtencpplopdogmaaDoor
