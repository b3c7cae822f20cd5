/- The document's files: a row cut and grown; slices of it. -/
import Derived.Test.YtnmogfjbbibeiaaEc
namespace Go.Proofs.Ytnmogfjbbibeiaa
set_option maxRecDepth 100000
open Go.RowKit
set_option linter.unusedVariables false

structure DF where
  name : ByteArray
  last : ByteArray
  wait : ByteArray
  sure : Bool
def fc (f : DF) : List Value := [.string f.name, .string f.last, .string f.wait, .bool f.sure]
def fcs (fs : List DF) : List Value := fs.flatMap fc
theorem fcs_cons (f : DF) (fs : List DF) : fcs (f :: fs) = fc f ++ fcs fs := rfl
theorem fcs_len (fs : List DF) : (fcs fs).length = fs.length * 4 := by
  induction fs with
  | nil => rfl
  | cons f fs ih => rw [fcs_cons, List.length_append, ih, List.length_cons]; simp [fc]; omega
theorem fcs_append (a b : List DF) : fcs (a ++ b) = fcs a ++ fcs b := by simp [fcs]
theorem fcs_cell {fs : List DF} : ∀ u ∈ fcs fs, u.oneCell' = true := by
  intro u hu
  unfold fcs at hu
  obtain ⟨l, _, h⟩ := List.mem_flatMap.1 hu
  simp [fc] at h
  rcases h with rfl | rfl | rfl | rfl <;> rfl
theorem fcs_at : ∀ (fs : List DF) (k j : Nat) (f : DF), fs[k]? = some f → j < 4 → (fcs fs)[k * 4 + j]? = (fc f)[j]?
  | [], k, j, f, h, _ => by simp at h
  | x :: fs, 0, j, f, h, hj => by
    obtain rfl : x = f := by simpa using h
    rw [fcs_cons, Nat.zero_mul, Nat.zero_add, List.getElem?_append_left (by simp [fc]; exact hj)]
  | x :: fs, k + 1, j, f, h, hj => by
    rw [fcs_cons, List.getElem?_append_right (by simp [fc]; omega)]
    have e : (k + 1) * 4 + j - (fc x).length = k * 4 + j := by simp [fc]; omega
    rw [e]
    exact fcs_at fs k j f (by simpa using h) hj
theorem fcs_set : ∀ (fs : List DF) (k j : Nat) (f f' : DF) (u : Value), fs[k]? = some f → j < 4 → fc f' = (fc f).set j u → fcs (fs.set k f') = (fcs fs).set (k * 4 + j) u
  | [], k, j, f, f', u, h, _, _ => by simp at h
  | x :: fs, 0, j, f, f', u, h, hj, he => by
    obtain rfl : x = f := by simpa using h
    rw [List.set_cons_zero, fcs_cons, fcs_cons, Nat.zero_mul, Nat.zero_add, List.set_append_left _ _ (by simp [fc]; exact hj), he]
  | x :: fs, k + 1, j, f, f', u, h, hj, he => by
    rw [List.set_cons_succ, fcs_cons, fcs_cons, List.set_append_right _ _ (by simp [fc]; omega)]
    have e : (k + 1) * 4 + j - (fc x).length = k * 4 + j := by simp [fc]; omega
    rw [e, fcs_set fs k j f f' u (by simpa using h) hj he]
/-- A row of files, at its block's head. -/
def FRow (w : World) (v : Value) (fs : List DF) : Prop :=
  (v = .slice none 0 0 ∧ fs = []) ∨ ∃ g c cur, v = .slice (some ⟨g, 0, none⟩) fs.length c ∧ fs.length ≤ c ∧ c ≤ maxLen ∧ w.heap[g]? = some (.cells cur 64 (0, 0)) ∧ cur.toList.take (fs.length * 4) = fcs fs
/-- A row of the call's own. -/
def FO (base : Nat) (w : World) (v : Value) (fs : List DF) : Prop := w.ownsRow base 64 4 v fs.length (fcs fs)
theorem FO.row {base : Nat} {w : World} {v : Value} {fs : List DF} (h : FO base w v fs) : FRow w v fs := by
  rcases h.2 with ⟨h1, h2⟩ | ⟨g, cap, cur, hv, hb, hg, hn, hm, hs, ht⟩
  · exact .inl ⟨h1, List.eq_nil_of_length_eq_zero h2⟩
  · exact .inr ⟨g, cap, cur, hv, hn, hm, hg, ht⟩
theorem FRow.lt {w : World} {v : Value} {fs : List DF} (h : FRow w v fs) {x : Nat} (hx : v.ownBlock = some x) : x < w.heap.size := by
  rcases h with ⟨rfl, _⟩ | ⟨g, c, cur, rfl, _, _, hg, _⟩
  · simp [Value.ownBlock] at hx
  · obtain rfl : g = x := by simpa [Value.ownBlock] using hx
    exact (Array.getElem?_eq_some_iff.1 hg).1
theorem FRow.kp {w w' : World} {v : Value} {fs : List DF} {S : List Nat} (h : FRow w v fs) (k : Kp S w w') (hS : ∀ x, v.ownBlock = some x → x ∉ S) : FRow w' v fs := by
  rcases h with h | ⟨g, c, cur, rfl, h1, h2, hg, h3⟩
  · exact .inl h
  · exact .inr ⟨g, c, cur, rfl, h1, h2, (k.block g (Array.getElem?_eq_some_iff.1 hg).1 (hS g (by simp [Value.ownBlock]))).trans hg, h3⟩
theorem FRow.slice {w : World} {v : Value} {fs : List DF} (h : FRow w v fs) : ∃ A c, v = .slice A fs.length c ∧ fs.length ≤ c ∧ c ≤ maxLen ∧ (A = none → c = 0 ∧ fs = []) ∧ (∀ ad, A = some ad → ad = ⟨ad.block, 0, none⟩) := by
  rcases h with ⟨rfl, rfl⟩ | ⟨g, c, cur, rfl, h1, h2, hg, h3⟩
  · exact ⟨none, 0, rfl, Nat.le_refl _, Nat.zero_le _, fun _ => ⟨rfl, rfl⟩, by simp⟩
  · exact ⟨_, c, rfl, h1, h2, by simp, by simp⟩
theorem cur_cell {w : World} {g i : Nat} {cur : Array Value} {t : TypeId} {fr : Nat × Nat} (hg : w.heap[g]? = some (.cells cur t fr)) : w.cell? ⟨g, i, none⟩ = cur[i]? := by simp [World.cell?, hg]
theorem FRow.cellAt {w : World} {g c n : Nat} {fs : List DF} (h : FRow w (.slice (some ⟨g, 0, none⟩) n c) fs) {i : Nat} {u : Value} (hu : (fcs fs)[i]? = some u) : w.cell? ⟨g, i, none⟩ = some u ∧ w.frozen? ⟨g, i, none⟩ = false := by
  rcases h with ⟨h1, _⟩ | ⟨g', c', cur, hv, h1, h2, hg, h3⟩
  · cases h1
  · injection hv with e1 e2 e3
    injection e1 with e1
    injection e1 with e1
    subst e1
    refine ⟨?_, by simp [World.frozen?, hg]⟩
    rw [cur_cell hg, ← Array.getElem?_toList]
    have hlt : i < fs.length * 4 := by rw [← fcs_len]; exact (List.getElem?_eq_some_iff.1 hu).1
    rw [← List.getElem?_take_of_lt hlt, h3]
    exact hu
theorem FRow.at_ {w : World} {A : Option Addr} {n c k : Nat} {fs : List DF} {f : DF} (h : FRow w (.slice A n c) fs) (hk : fs[k]? = some f) :
    ∃ g, A = some ⟨g, 0, none⟩ ∧ w.cell? ⟨g, k * 4, none⟩ = some (.string f.name) ∧ w.cell? ⟨g, k * 4 + 1, none⟩ = some (.string f.last) ∧ w.cell? ⟨g, k * 4 + 2, none⟩ = some (.string f.wait) ∧ w.cell? ⟨g, k * 4 + 3, none⟩ = some (.bool f.sure) ∧
      w.frozen? ⟨g, k * 4 + 1, none⟩ = false ∧ w.frozen? ⟨g, k * 4 + 2, none⟩ = false ∧ w.frozen? ⟨g, k * 4 + 3, none⟩ = false := by
  have h0 := h
  rcases h with ⟨h1, h2⟩ | ⟨g, c', cur, hv, h1, h2, hg, h3⟩
  · subst h2; simp at hk
  · injection hv with e1 e2 e3
    subst e1
    have e := fun j hj => fcs_at fs k j f hk hj
    exact ⟨g, rfl, (h0.cellAt (i := k * 4) (by have := e 0 (by omega); exact this)).1, (h0.cellAt (e 1 (by omega))).1, (h0.cellAt (e 2 (by omega))).1, (h0.cellAt (e 3 (by omega))).1, (h0.cellAt (e 1 (by omega))).2, (h0.cellAt (e 2 (by omega))).2, (h0.cellAt (e 3 (by omega))).2⟩
/-- A field is written. -/
theorem FRow.set {w : World} {g n c k j : Nat} {fs : List DF} {f f' : DF} {u : Value} (h : FRow w (.slice (some ⟨g, 0, none⟩) n c) fs) (hk : fs[k]? = some f) (hj : j < 4) (he : fc f' = (fc f).set j u) : FRow (w.setCell ⟨g, k * 4 + j, none⟩ u) (.slice (some ⟨g, 0, none⟩) n c) (fs.set k f') := by
  rcases h with ⟨h1, _⟩ | ⟨g', c', cur, hv, h1, h2, hg, h3⟩
  · cases h1
  · injection hv with e1 e2 e3
    injection e1 with e1
    injection e1 with e1
    subst e1 e2 e3
    refine .inr ⟨g, c, cur.setIfInBounds (k * 4 + j) u, by rw [List.length_set], by rw [List.length_set]; exact h1, h2, ?_, ?_⟩
    · simp [World.setCell, Array.getElem?_modify, hg]
    · rw [Array.toList_setIfInBounds, List.length_set, List.take_set, h3, fcs_set fs k j f f' u hk hj he]
theorem finfo : (Try.prog.info? 64).map (fun i => (i.zero, i.size, i.bytes)) = some (some (.agg #[.string ByteArray.empty, .string ByteArray.empty, .string ByteArray.empty, .bool false]), 4, 56) := by kernel_rfl
theorem finfo_parts {i? : Option TypeInfo} {z : Value} {s b : Nat} (h : i?.map (fun i => (i.zero, i.size, i.bytes)) = some (some z, s, b)) : ∃ i, i? = some i ∧ i.zero = some z ∧ i.size = s ∧ i.bytes = b := by
  cases hi : i? with
  | none => rw [hi] at h; cases h
  | some i =>
    rw [hi] at h
    simp only [Option.map_some, Option.some.injEq, Prod.mk.injEq] at h
    exact ⟨i, rfl, h.1, h.2.1, h.2.2⟩
/-- A slice of files that is read. -/
def FSrc (w : World) (A : Option Addr) (fs : List DF) : Prop := 0 < fs.length → ∃ ad, A = some ad ∧ ∀ (j : Nat) (u : Value), (fcs fs)[j]? = some u → w.cell? (ad.add j) = some u
theorem FRow.src {w : World} {A : Option Addr} {n c : Nat} {fs : List DF} (h : FRow w (.slice A n c) fs) : FSrc w A fs := by
  intro h0
  obtain ⟨g, rfl, -⟩ := h.at_ (k := 0) (f := fs[0]) (List.getElem?_eq_getElem h0)
  exact ⟨_, rfl, fun j u hu => by rw [addr0]; exact (h.cellAt hu).1⟩
theorem FSrc.kp {w w' : World} {A : Option Addr} {fs : List DF} {S : List Nat} (h : FSrc w A fs) (k : Kp S w w') (hS : ∀ ad, A = some ad → ad.block ∉ S) : FSrc w' A fs := by
  intro h0
  obtain ⟨ad, rfl, h1⟩ := h h0
  exact ⟨ad, rfl, fun j u hu => cell_kpD (h1 j u hu) k (by rw [addr_add_block]; exact hS ad rfl)⟩
/-- append onto a row of the call's own. -/
theorem run_fapp (w : World) (base : Nat) (v : Value) (fs ms : List DF) (hown : FO base w v fs) (A : Option Addr) (c : Nat) (hr : FSrc w A ms) (hn : fs.length + ms.length ≤ 1000000) (hb : base ≤ w.heap.size) :
    ∃ v' w', (Builtin.append_ #[58, 58] 58 #[v, .slice A ms.length c]).run Try.prog w = .ok v' w' ∧ FO base w' v' (fs ++ ms) ∧ w.grownBy w' v.ownBlock ∧ (v'.ownBlock = v.ownBlock ∨ v'.ownBlock = some w.heap.size) := by
  obtain ⟨i, hi, hz, h1, h2⟩ := finfo_parts finfo
  rcases A with _ | ad
  · have hm : ms = [] := by
      rcases Nat.eq_zero_or_pos ms.length with h0 | h0
      · exact List.eq_nil_of_length_eq_zero h0
      · obtain ⟨ad, h, _⟩ := hr h0
        cases h
    subst hm
    refine ⟨v, w, ?_, by simpa using hown, World.grownBy.refl w _, .inl rfl⟩
    rcases hown.2 with ⟨rfl, _⟩ | ⟨g, cap, cur, rfl, _, _, hnc, _⟩
    · simp [Builtin.append_, run_underlying Try.underlying58, sizeOf, typeInfo, hi, Builtin.lenOf, Builtin.firstCells]
    · simp [Builtin.append_, run_underlying Try.underlying58, sizeOf, typeInfo, hi, Builtin.lenOf, Builtin.firstCells, hnc, storeCells]
  · have hcells : ∀ j u, (fcs ms)[j]? = some u → w.cell? (ad.add j) = some u := by
      intro j u hu
      have h0 : 0 < ms.length := by
        have := fcs_len ms
        have hj := (List.getElem?_eq_some_iff.1 hu).1
        omega
      obtain ⟨ad', h, hc⟩ := hr h0
      injection h with h
      subst h
      exact hc j u hu
    obtain ⟨v', w', hrun, h3, h4, -, h5⟩ := run_append_own_at (P := Try.prog) w base 58 58 64 i _ 4 56 Try.underlying58 hi hz h1 h2 rfl (by omega) v fs.length (fcs fs) hown ad ms.length c (fcs ms) (fcs_len ms) hcells fcs_cell (by unfold maxLen; omega) (by omega) hb
    refine ⟨v', w', hrun, ?_, h4, h5⟩
    unfold FO
    rw [List.length_append, fcs_append]
    exact h3
end Go.Proofs.Ytnmogfjbbibeiaa
namespace Go.Proofs.Ytnmogfjbbibeiaa
set_option maxRecDepth 100000
open Go.RowKit
set_option linter.unusedVariables false

/-- append onto a row that was cut to its length, something there: it moves. -/
theorem run_cut (w : World) (A : Option Addr) (n c i : Nat) (fs ms : List DF) (h : FRow w (.slice A n c) fs) (hi : i ≤ fs.length) (ad : Addr) (c' : Nat) (hr : ∀ (j : Nat) (u : Value), (fcs ms)[j]? = some u → w.cell? (ad.add j) = some u) (hm : 0 < ms.length) (hn : fs.length + ms.length ≤ 1000000) :
    ∃ v' w', (Builtin.append_ #[58, 58] 58 #[.slice A i i, .slice (some ad) ms.length c']).run Try.prog w = .ok v' w' ∧ FO w.heap.size w' v' (fs.take i ++ ms) ∧ Kp [] w w' := by
  obtain ⟨inf, hi0, hz, h1, h2⟩ := finfo_parts finfo
  have hlt : (fs.take i).length = i := by simp; omega
  rcases h with ⟨h3, h4⟩ | ⟨g, c0, cur, hv, h3, h4, hg, h5⟩
  · injection h3 with a1 a2 a3
    subst a1
    subst h4
    obtain rfl : i = 0 := by simpa using hi
    obtain ⟨v', w', hrun, h6, h7, _⟩ := run_fapp w w.heap.size (.slice none 0 0) [] ms ⟨rfl, .inl ⟨rfl, rfl⟩⟩ (some ad) c' (fun _ => ⟨ad, rfl, hr⟩) (by simp at hn ⊢; omega) (Nat.le_refl _)
    exact ⟨v', w', hrun, by simpa using h6, Kp.of_grown h7 (by simp [Value.ownBlock])⟩
  · injection hv with e1 e2 e3
    subst e1
    have hro : FRow w (.slice (some ⟨g, 0, none⟩) n c) fs := .inr ⟨g, c0, cur, by rw [e2, e3], h3, h4, hg, h5⟩
    have holds : ∀ j v, (fcs (fs.take i))[j]? = some v → w.cell? ((⟨g, 0, none⟩ : Addr).add j) = some v := fun j u hu => by
      rw [addr0]
      refine (hro.cellAt ?_).1
      have e4 : fcs fs = fcs (fs.take i) ++ fcs (fs.drop i) := by rw [← fcs_append, List.take_append_drop]
      rw [e4, List.getElem?_append_left (List.getElem?_eq_some_iff.1 hu).1]
      exact hu
    have hb : (i + ms.length) * inf.bytes ≤ 140737488355328 := by rw [h2]; omega
    have hgc : grownCap w (i + ms.length) i 64 ≤ maxLen := grownCap_le_maxLen w _ _ _ (by unfold maxLen; omega)
    have hge := grownCap_ge w (i + ms.length) i 64
    have hrun := run_append_grow (P := Try.prog) w 58 58 64 inf _ Try.underlying58 hi0 hz ⟨g, 0, none⟩ i i (fcs (fs.take i)) (by rw [fcs_len, hlt, h1]) holds ad ms.length c' (fcs ms) (by rw [fcs_len, h1]) hr (by omega) (by omega) (growslice_fits (by omega) hb)
    have hl2 : (fs.take i ++ ms).length = i + ms.length := by rw [List.length_append, hlt]
    refine ⟨_, _, hrun, ⟨by rw [fcs_len], .inr ⟨w.heap.size, _, _, by rw [hl2], Nat.le_refl _, heap_alloc_new w.drew _, by rw [hl2]; exact hge, hgc, ?_, ?_⟩⟩, ((Kp.rfl_ [] w).drew).alloc _⟩
    · simp only [Array.size_append, List.size_toArray, size_zeroCells, fcs_len, hlt]
      rw [show (Value.agg #[Value.string ByteArray.empty, Value.string ByteArray.empty, Value.string ByteArray.empty, Value.bool false]).cells.size = 4 from rfl, ← Nat.add_mul, ← Nat.add_mul]
      congr 1
      omega
    · simp only [Array.toList_append, List.append_assoc]
      rw [← List.append_assoc, ← fcs_append, ← fcs_len]
      exact List.take_left
theorem fsize (w : World) : (sizeOf 64).run Try.prog w = .ok 4 w := by kernel_rfl
theorem felem : Try.prog.elem 58 = 64 := by kernel_rfl
/-- s[:i:i]. -/
theorem front_cut (A : Option Addr) (n c i : Nat) (hi : i ≤ c) (w : World) : (Instr.sliceAt 58 (.slice A n c) none (some (.int .i64 (i : Int))) (some (.int .i64 (i : Int)))).run Try.prog w = .ok (.slice A i i) w := by
  have he : Try.prog.underlying 58 = some (.slice (Try.prog.elem 58)) := by rw [felem]; exact Try.underlying58
  rw [run_sliceAt_slice (h := he), run_slice_hm (ht := he) (kh := .i64) (km := .i64) (h0 := by omega) (h2 := by omega) (h3 := by omega), felem, fsize]
  unfold sliced
  cases A <;> simp [Result.andThen, addr_add_zero]
/-- s[i:]. -/
theorem back_f {w0 : World} {A : Option Addr} {n c i : Nat} {fs : List DF} (h : FRow w0 (.slice A n c) fs) (hi : i ≤ fs.length) (hn : n = fs.length) (hc : n ≤ c) :
    ∃ B, (∀ w, (Instr.sliceAt 58 (.slice A n c) (some (.int .i64 (i : Int))) none none).run Try.prog w = .ok (.slice B (fs.drop i).length (c - i)) w) ∧ FSrc w0 B (fs.drop i) ∧ ∀ ad, B = some ad → ∃ ad', A = some ad' ∧ ad.block = ad'.block := by
  have he : Try.prog.underlying 58 = some (.slice (Try.prog.elem 58)) := by rw [felem]; exact Try.underlying58
  refine ⟨if c = i then A else A.map (·.add (i * 4)), fun w => ?_, ?_, ?_⟩
  · rw [run_sliceAt_slice (h := he), run_slice_l (ht := he) (kl := .i64) (h0 := by omega) (h1 := by omega), felem, fsize, List.length_drop, hn]
    simp [Result.andThen, sliced]
  · intro h0
    rw [List.length_drop] at h0
    obtain ⟨g, rfl, -⟩ := h.at_ (k := i) (f := fs[i]) (List.getElem?_eq_getElem (by omega))
    rw [if_neg (by omega)]
    refine ⟨_, rfl, fun j u hu => ?_⟩
    rw [addr_add_add, addr0]
    refine (h.cellAt ?_).1
    have e4 : fcs fs = fcs (fs.take i) ++ fcs (fs.drop i) := by rw [← fcs_append, List.take_append_drop]
    have e5 : (fcs (fs.take i)).length = i * 4 := by rw [fcs_len, List.length_take]; congr 1; omega
    rw [e4, List.getElem?_append_right (by omega), e5, Nat.add_sub_cancel_left]
    exact hu
  · intro ad e
    split at e
    · exact ⟨ad, e, rfl⟩
    · cases A with
      | none => cases e
      | some a0 =>
        injection e with e
        subst e
        exact ⟨a0, rfl, addr_add_block _ _⟩
theorem bytesLess_dec : ∀ (x y : List UInt8), Op.bytesLess x y = decide (x < y)
  | [], [] => by rfl
  | _ :: _, [] => by simp [Op.bytesLess]
  | [], _ :: _ => by simp [Op.bytesLess]
  | a :: x, b :: y => by
    unfold Op.bytesLess
    rw [bytesLess_dec x y, Bool.eq_iff_iff]
    simp only [Bool.or_eq_true, decide_eq_true_eq, Bool.and_eq_true, beq_iff_eq, List.cons_lt_cons_iff]
theorem less_dec (a b : ByteArray) : Op.bytesLess a.toList b.toList = decide (a.data.toList < b.data.toList) := by rw [bytesLess_dec, toList_eq, toList_eq]
/-- Where a file stands, or would stand. -/
def posL : List DF → ByteArray → Nat
  | [], _ => 0
  | f :: fs, s => if f.name.data.toList < s.data.toList then posL fs s + 1 else 0
def isL (fs : List DF) (s : ByteArray) : Bool := match fs[posL fs s]? with | some f => decide (f.name = s) | none => false
theorem posL_le : ∀ (fs : List DF) (s : ByteArray), posL fs s ≤ fs.length
  | [], _ => Nat.le_refl _
  | f :: fs, s => by
    unfold posL
    split
    · exact Nat.succ_le_succ (posL_le fs s)
    · exact Nat.zero_le _
theorem posL_step : ∀ (fs : List DF) (s : ByteArray) (i : Nat) (f : DF), fs[i]? = some f → (∀ (j : Nat) (f' : DF), j < i → fs[j]? = some f' → f'.name.data.toList < s.data.toList) → (f.name.data.toList < s.data.toList → i < posL fs s) ∧ (¬ f.name.data.toList < s.data.toList → posL fs s = i)
  | [], s, i, f, h, _ => by simp at h
  | x :: fs, s, 0, f, h, _ => by
    obtain rfl : x = f := by simpa using h
    unfold posL
    exact ⟨fun h => by rw [if_pos h]; omega, fun h => by rw [if_neg h]⟩
  | x :: fs, s, i + 1, f, h, hall => by
    have h0 := hall 0 x (by omega) rfl
    have ih := posL_step fs s i f (by simpa using h) fun j f' hj hf => hall (j + 1) f' (by omega) (by simpa using hf)
    unfold posL
    rw [if_pos h0]
    exact ⟨fun h => by have := ih.1 h; omega, fun h => by rw [ih.2 h]⟩
theorem posL_all : ∀ (fs : List DF) (s : ByteArray), (∀ (j : Nat) (f' : DF), fs[j]? = some f' → f'.name.data.toList < s.data.toList) → posL fs s = fs.length
  | [], _, _ => rfl
  | x :: fs, s, h => by
    unfold posL
    rw [if_pos (h 0 x rfl), posL_all fs s fun j f' hf => h (j + 1) f' (by simpa using hf)]
    rfl
/-- The document's drive. -/
structure FSt (w : World) (g : Nat) (v : Value) (fs : List DF) (left : Int) (off : Bool) (count : Nat) : Prop where
  blk : At w g 60 #[v, .int .i64 left, .bool off, .int .i64 count]
  row : FRow w v fs
  ne : v.ownBlock ≠ some g
theorem FSt.kp {w w' : World} {g : Nat} {v : Value} {fs : List DF} {left : Int} {off : Bool} {count : Nat} {S : List Nat} (h : FSt w g v fs left off count) (k : Kp S w w') (h1 : g ∉ S) (h2 : ∀ x, v.ownBlock = some x → x ∉ S) : FSt w' g v fs left off count :=
  ⟨h.blk.kp k h1, h.row.kp k h2, h.ne⟩
/-- The drive's own cells turn. -/
theorem FSt.own {w w' : World} {g : Nat} {v : Value} {fs : List DF} {left left' : Int} {off off' : Bool} {count count' : Nat} (h : FSt w g v fs left off count) (k : Kp [g] w w') (hb : At w' g 60 #[v, .int .i64 left', .bool off', .int .i64 count']) : FSt w' g v fs left' off' count' :=
  ⟨hb, h.row.kp k fun x hx => by simp; exact fun e => h.ne (e ▸ hx), h.ne⟩
end Go.Proofs.Ytnmogfjbbibeiaa
