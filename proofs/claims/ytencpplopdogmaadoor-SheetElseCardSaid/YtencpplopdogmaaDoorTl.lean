/- Blocks of bytes that may be written; what a message's blocks leave. -/
import Derived.Test.YtencpplopdogmaaDoorTk
import Derived.Laws.Tables
namespace Go.Proofs.YtencpplopdogmaaDoor
set_option maxRecDepth 100000
open Go.RowKit
set_option linter.unusedVariables false

/-- Block g is just these bytes, and they may be written. -/
def BB (w : World) (g : Nat) (l : List UInt8) : Prop := ∃ t, At w g t (Lib.byteCells l).toArray
theorem BB.lt {w : World} {g : Nat} {l : List UInt8} (h : BB w g l) : g < w.heap.size := by
  obtain ⟨t, h⟩ := h
  exact h.lt
theorem BB.kp {w w' : World} {g : Nat} {l : List UInt8} {S : List Nat} (h : BB w g l) (k : Kp S w w') (hS : g ∉ S) : BB w' g l := by
  obtain ⟨t, h⟩ := h
  exact ⟨t, h.kp k hS⟩
theorem BB.cell {w : World} {g j : Nat} {l : List UInt8} {b : UInt8} (h : BB w g l) (hb : l[j]? = some b) : w.cell? ⟨g, j, none⟩ = some (.int .u8 (b.toNat : Int)) := by
  obtain ⟨t, h⟩ := h
  rw [h.cell j]
  simp [Lib.byteCells, hb]
theorem BB.free {w : World} {g : Nat} {l : List UInt8} (h : BB w g l) (j : Nat) : w.frozen? ⟨g, j, none⟩ = false := by
  obtain ⟨t, h⟩ := h
  exact h.frozen j
theorem BB.blk {w : World} {g : Nat} {l : List UInt8} (h : BB w g l) : Blk w g l := ⟨h.lt, fun j x hj => h.cell hj⟩
theorem BB.set {w : World} {g : Nat} {l : List UInt8} (h : BB w g l) (j : Nat) (b : UInt8) : BB (w.setCell ⟨g, j, none⟩ (.int .u8 (b.toNat : Int))) g (l.set j b) := by
  obtain ⟨t, h⟩ := h
  refine ⟨t, ?_⟩
  have h2 := h.set j (.int .u8 (b.toNat : Int))
  have e : (Lib.byteCells (l.set j b)).toArray = (Lib.byteCells l).toArray.setIfInBounds j (.int .u8 (b.toNat : Int)) := by
    simp [Lib.byteCells, List.map_set]
  rw [e]
  exact h2
theorem BB.row {w : World} {g : Nat} {l : List UInt8} (h : BB w g l) (l' : List UInt8) : BB (w.setRow g (Lib.byteCells l').toArray) g l' := by
  obtain ⟨t, h⟩ := h
  exact ⟨t, setRow_heap w g _ _ t (0, 0) h⟩
theorem Kp.row {S : List Nat} {w w' : World} (h : Kp S w w') {g : Nat} (hg : g < w.heap.size → g ∈ S) (cs : Array Value) : Kp S w (w'.setRow g cs) :=
  ⟨h.os, h.tape, h.output, by rw [setRow_size]; exact h.size, fun k hk hS => (setRow_other w' g k cs (fun e => hS (e ▸ hg (e ▸ hk)))).trans (h.block k hk hS)⟩
theorem BB.clear {P : Program} {w : World} {g o n c : Nat} {l : List UInt8} (h : BB w g l) (hn : o + n ≤ l.length) (t e ty : TypeId) (ht : P.underlying t = some (.slice e)) (hv : ∀ w, (zeroValue e).run P w = .ok (.int .u8 0) w) :
    (Builtin.clear_ #[t] ty #[.slice (some ⟨g, o, none⟩) n c]).run P w = .ok (.tuple #[]) (w.setRow g (Lib.byteCells (l.take o ++ (List.replicate n 0 ++ l.drop (o + n)))).toArray) := by
  obtain ⟨t2, h⟩ := h
  cases n with
  | zero =>
    have e : l.take o ++ (List.replicate 0 0 ++ l.drop (o + 0)) = l := by simp
    rw [e, setRow_self w g _ t2 (0, 0) h]
    simp [Builtin.clear_, run_underlying ht]
  | succ n =>
    have hzc : (Builtin.zeroCells (Value.int .u8 0).cells (n + 1)).toList = Lib.byteCells (List.replicate (n + 1) 0) := by
      simp [Builtin.zeroCells, Lib.byteCells, Value.cells]
      apply List.ext_getElem
      · simp
      · intro i h1 h2
        simp [Nat.mod_one]
    have hst := run_storeCells_at (P := P) g o t2 (Lib.byteCells (List.replicate (n + 1) 0)) 0 _ w h (by simp [Lib.byteCells]; omega) (by
      intro v hv
      obtain ⟨b, _, rfl⟩ := List.mem_map.1 hv
      rfl)
    have e2 : (Lib.byteCells (l.take o ++ (List.replicate (n + 1) 0 ++ l.drop (o + (n + 1))))).toArray = ((Lib.byteCells l).toArray.toList.take (o + 0) ++ Lib.byteCells (List.replicate (n + 1) 0) ++ (Lib.byteCells l).toArray.toList.drop (o + 0 + (Lib.byteCells (List.replicate (n + 1) (0 : UInt8))).length)).toArray := by
      simp [Lib.byteCells, List.map_take, List.map_drop]
    rw [e2]
    simp [Builtin.clear_, run_underlying ht, hv, hzc, hst]
/-- 'copy(x[o:], s)': as many bytes go over as there is room. -/
theorem BB.copy {P : Program} {w : World} {g o dLen dCap n : Nat} {l : List UInt8} {s : ByteArray} (h : BB w g l) (hn : Nat.min s.size dLen = n) (hl : o + n ≤ l.length) (dT sT ty elem : TypeId)
    (hu : P.underlying dT = some (.slice elem)) (hs : (P.info? elem).map (·.size) = some 1) :
    (Builtin.copy_ #[dT, sT] ty #[.slice (some ⟨g, o, none⟩) dLen dCap, .string s]).run P w = .ok (goInt n) (w.setRow g (Lib.byteCells (l.take o ++ (s.data.toList.take n ++ l.drop (o + n)))).toArray) := by
  obtain ⟨t2, h⟩ := h
  have hsz : s.data.toList.length = s.size := by simp
  have hln : (s.data.toList.take n).length = n := by
    rw [List.length_take, hsz, ← hn]
    have : Nat.min s.size dLen ≤ s.size := Nat.min_le_left _ _
    omega
  have hst := run_storeCells_at (P := P) g o t2 (Lib.byteCells (s.data.toList.take n)) 0 _ w h (by simp [Lib.byteCells]; omega) (by
    intro v hv
    obtain ⟨b, _, rfl⟩ := List.mem_map.1 hv
    rfl)
  have e2 : (Lib.byteCells (l.take o ++ (s.data.toList.take n ++ l.drop (o + n)))).toArray = ((Lib.byteCells l).toArray.toList.take (o + 0) ++ Lib.byteCells (s.data.toList.take n) ++ (Lib.byteCells l).toArray.toList.drop (o + 0 + (Lib.byteCells (s.data.toList.take n)).length)).toArray := by
    rw [Lib.byteCells_length, hln]
    simp [Lib.byteCells, List.map_take, List.map_drop]
  have htk : List.take n (List.map (fun b : UInt8 => Value.int IntKind.u8 (b.toNat : Int)) s.data.toList) = Lib.byteCells (s.data.toList.take n) := by
    rw [← List.map_take]
    rfl
  cases hq : P.info? elem with
  | none => simp [hq] at hs
  | some i =>
    simp [hq] at hs
    rw [e2]
    simp only [Nat.add_zero] at hst ⊢
    simp [Builtin.copy_, run_underlying hu, Builtin.lenOf, Builtin.firstCells, sizeOf, typeInfo, hq, hn]
    rw [htk, hst]
    simp [Result.andThen]

theorem blocksW_snoc : ∀ (k : Nat) (h : List Nat) (l : List UInt8), blocksW (k + 1) h l = takeW (blocksW k h l) ((l.drop (64 * k)).take 64) := by
  intro k
  induction k with
  | zero => intro h l; simp [blocksW]
  | succ k ih =>
    intro h l
    rw [blocksW, ih]
    rw [blocksW, List.drop_drop, show 64 + 64 * k = 64 * (k + 1) by omega]
theorem blocksW_add : ∀ (k j : Nat) (h : List Nat) (l : List UInt8), blocksW (k + j) h l = blocksW j (blocksW k h l) (l.drop (64 * k)) := by
  intro k
  induction k with
  | zero => intro j h l; simp [blocksW]
  | succ k ih =>
    intro j h l
    rw [show k + 1 + j = (k + j) + 1 by omega, blocksW, ih, List.drop_drop, blocksW, show 64 + 64 * k = 64 * (k + 1) by omega]
theorem blocksW_pre : ∀ (k : Nat) (h : List Nat) (l m : List UInt8), 64 * k ≤ l.length → blocksW k h (l ++ m) = blocksW k h l := by
  intro k
  induction k with
  | zero => intro h l m _; rfl
  | succ k ih =>
    intro h l m hl
    rw [blocksW, blocksW, List.take_append_of_le_length (by omega), List.drop_append_of_le_length (by omega), ih _ _ _ (by rw [List.length_drop]; omega)]
theorem addW_len (a b : List Nat) (h : a.length = b.length) : (addW a b).length = a.length := by simp [addW, h]
theorem roundW_len (v : List Nat) (k x : Nat) : (roundW v k x).length = v.length := by
  unfold roundW
  split <;> rfl
theorem roundsW_len (h w : List Nat) : (roundsW h w).length = h.length := by
  unfold roundsW
  generalize List.zip kW w = z
  induction z generalizing h with
  | nil => rfl
  | cons x z ih => rw [List.foldl_cons, ih, roundW_len]
theorem takeW_len (h : List Nat) (b : List UInt8) : (takeW h b).length = h.length := addW_len _ _ (roundsW_len _ _).symm
theorem takeW_lt (h : List Nat) (b : List UInt8) : ∀ x ∈ takeW h b, x < 4294967296 := by
  intro x hx
  unfold takeW addW at hx
  obtain ⟨i, hi⟩ := List.getElem?_of_mem hx
  rw [List.getElem?_zipWith] at hi
  split at hi
  · injection hi with hi
    rw [← hi]
    exact Nat.mod_lt _ (by decide)
  · cases hi
theorem blocksW_len : ∀ (k : Nat) (h : List Nat) (l : List UInt8), (blocksW k h l).length = h.length := by
  intro k
  induction k with
  | zero => intro h l; rfl
  | succ k ih => intro h l; rw [blocksW, ih, takeW_len]
theorem blocksW_lt : ∀ (k : Nat) (h : List Nat) (l : List UInt8), (∀ x ∈ h, x < 4294967296) → ∀ x ∈ blocksW k h l, x < 4294967296 := by
  intro k
  induction k with
  | zero => intro h l hh; exact hh
  | succ k ih => intro h l hh; rw [blocksW]; exact ih _ _ (takeW_lt _ _)
/-- The length's eight bytes. -/
def len8 (n : Nat) : List UInt8 := (List.range 8).map fun i => UInt8.ofNat (n / 2 ^ (8 * (7 - i)))
/-- What finish leaves: the rest's bytes r, the length's n. -/
def finW (H : List Nat) (r : List UInt8) (n : Nat) : List Nat :=
  if r.length + 1 > 56 then takeW (takeW H (r ++ 128 :: List.replicate (63 - r.length) 0)) (List.replicate 56 0 ++ len8 n)
  else takeW H (r ++ 128 :: (List.replicate (55 - r.length) 0 ++ len8 n))
theorem fin_sha (H : List Nat) (l : List UInt8) : finW (blocksW (l.length / 64) H l) (l.drop (64 * (l.length / 64))) (8 * l.length) = blocksW ((l.length + 72) / 64) H (l ++ padW l.length) := by
  obtain ⟨q, hq⟩ : ∃ q, l.length / 64 = q := ⟨_, rfl⟩
  obtain ⟨r, hr⟩ : ∃ r, l.drop (64 * q) = r := ⟨_, rfl⟩
  have hrl : r.length = l.length % 64 := by rw [← hr, List.length_drop]; omega
  have hl8 : (len8 (8 * l.length)).length = 8 := by simp [len8]
  have hpre := blocksW_pre q H l (padW l.length) (by omega)
  have hdr : (l ++ padW l.length).drop (64 * q) = r ++ padW l.length := by rw [List.drop_append_of_le_length (by omega), hr]
  rw [hq, hr]
  unfold finW
  by_cases h : r.length + 1 > 56
  · rw [if_pos h, show (l.length + 72) / 64 = q + 2 by omega, blocksW_add, hpre, hdr]
    have hp : padW l.length = (128 :: List.replicate (63 - r.length) 0) ++ (List.replicate 56 0 ++ len8 (8 * l.length)) := by
      unfold padW len8
      rw [show (119 - l.length % 64) % 64 = (63 - r.length) + 56 by omega, ← List.replicate_append_replicate]
      simp
    rw [hp]
    have e1 : (r ++ ((128 :: List.replicate (63 - r.length) 0) ++ (List.replicate 56 0 ++ len8 (8 * l.length)))) = (r ++ 128 :: List.replicate (63 - r.length) 0) ++ (List.replicate 56 0 ++ len8 (8 * l.length)) := by simp
    have e2 : (r ++ 128 :: List.replicate (63 - r.length) (0 : UInt8)).length = 64 := by simp; omega
    rw [e1, blocksW, List.take_append_of_le_length (by omega), List.take_of_length_le (by omega), List.drop_append_of_le_length (by omega), List.drop_of_length_le (by omega), List.nil_append, blocksW, List.take_of_length_le (by simp [hl8])]
    rfl
  · rw [if_neg h, show (l.length + 72) / 64 = q + 1 by omega, blocksW_add, hpre, hdr]
    have hp : padW l.length = 128 :: (List.replicate (55 - r.length) 0 ++ len8 (8 * l.length)) := by
      unfold padW len8
      rw [show (119 - l.length % 64) % 64 = 55 - r.length by omega]
    rw [hp, blocksW, List.take_of_length_le (by simp [hl8]; omega)]
    rfl
end Go.Proofs.YtencpplopdogmaaDoor
