/- Frames as plain lists of bytes. -/
import Derived.Test.YthnfjkinliekoaaDoorPkD
import Derived.Test.YthnfjkinliekoaaDoorCrM
import Derived.Test.YthnfjkinliekoaaDoorBs
namespace Go.Proofs.YthnfjkinliekoaaDoor
set_option maxRecDepth 100000
open Go.RowKit
set_option linter.unusedVariables false

/-- A sum as bytes, the lowest first. -/
def sum4 (m : Nat) : List UInt8 := [UInt8.ofNat m, UInt8.ofNat (m / 256), UInt8.ofNat (m / 65536), UInt8.ofNat (m / 16777216)]
theorem sum4_len (m : Nat) : (sum4 m).length = 4 := rfl
theorem sum4_inj {a b : Nat} (ha : a < 4294967296) (hb : b < 4294967296) (h : sum4 a = sum4 b) : a = b := by
  unfold sum4 at h
  simp only [List.cons.injEq, and_true] at h
  obtain ⟨h0, h1, h2, h3⟩ := h
  have e0 := congrArg UInt8.toNat h0
  have e1 := congrArg UInt8.toNat h1
  have e2 := congrArg UInt8.toNat h2
  have e3 := congrArg UInt8.toNat h3
  simp at e0 e1 e2 e3
  omega
def frm (p : List UInt8) : List UInt8 := numB p.length ++ sum4 (Crc.more 0 p) ++ p
def frms (ss : List ByteArray) : List UInt8 := ss.flatMap fun s => frm s.data.toList
theorem frms_succ {ss : List ByteArray} {k : Nat} {s : ByteArray} (h : ss[k]? = some s) : frms (ss.take (k + 1)) = frms (ss.take k) ++ frm s.data.toList := by
  unfold frms
  rw [List.take_add_one, h]
  simp
theorem frms_cons (s : ByteArray) (ss : List ByteArray) : frms (s :: ss) = frm s.data.toList ++ frms ss := by simp [frms]
theorem frms_append (a b : List ByteArray) : frms (a ++ b) = frms a ++ frms b := by simp [frms]
theorem numB_pos (n : Nat) (h : n ≤ 1000000000) : 1 ≤ (numB (n : Int)).length ∧ (numB (n : Int)).length ≤ 10 := numB_len (by omega) (by omega)
theorem frm_len {p : List UInt8} (h : p.length ≤ 1000000000) : p.length + 5 ≤ (frm p).length ∧ (frm p).length ≤ p.length + 14 := by
  have := numB_pos p.length h
  unfold frm
  rw [List.length_append, List.length_append, sum4_len]
  omega
theorem frms_len : ∀ (ss : List ByteArray), (∀ s ∈ ss, s.size ≤ 1000000000) → (frms ss).length ≤ 14 * tot ss := by
  intro ss
  induction ss with
  | nil => intro _; simp [frms]
  | cons s ss ih =>
    intro h
    have h1 := ih fun z hz => h z (List.mem_cons_of_mem _ hz)
    have h2 := (frm_len (p := s.data.toList) (by have := h s (by simp); simpa using this)).2
    rw [frms_cons, List.length_append]
    unfold tot at *
    simp only [List.map_cons, List.sum_cons]
    have : s.data.toList.length = s.size := by simp
    omega

/-- What stands first: how many bytes its number takes, and how many the payload has. -/
def opn (l : List UInt8) : Option (Nat × Nat) :=
  if (decN l).2 = 0 ∨ (decN l).1 < 0 ∨ 1048576 < (decN l).1 ∨ (l.length : Int) < (decN l).2 + 4 + (decN l).1 then none
  else if sum4 (Crc.more 0 ((l.drop ((decN l).2 + 4)).take (decN l).1.toNat)) = (l.drop (decN l).2).take 4 then some ((decN l).2, (decN l).1.toNat) else none
theorem opn_none {l : List UInt8} {n : Int} {u : Nat} (h : decN l = (n, u)) (hn : u = 0 ∨ n < 0 ∨ 1048576 < n ∨ (l.length : Int) < u + 4 + n) : opn l = none := by
  unfold opn
  rw [h]
  exact if_pos hn
theorem opn_sum {l : List UInt8} {n u : Nat} (h : decN l = ((n : Int), u)) (h0 : 0 < u) (hn : n ≤ 1048576) (hl : u + 4 + n ≤ l.length) :
    opn l = if sum4 (Crc.more 0 ((l.drop (u + 4)).take n)) = (l.drop u).take 4 then some (u, n) else none := by
  unfold opn
  rw [h]
  simp only
  rw [if_neg (by omega)]
  simp
theorem opn_frm {p : List UInt8} (rest : List UInt8) (h : p.length ≤ 1048576) : opn (frm p ++ rest) = some ((numB (p.length : Int)).length, p.length) := by
  obtain ⟨b, hb⟩ : ∃ b, numB (p.length : Int) = b := ⟨_, rfl⟩
  have hd : decN (frm p ++ rest) = ((p.length : Int), b.length) := by
    unfold frm
    rw [List.append_assoc, List.append_assoc, decN_numB _ _ (by omega) (by omega), hb]
  have hb1 := numB_pos p.length (by omega)
  rw [hb] at hb1
  have hf : frm p = b ++ (sum4 (Crc.more 0 p) ++ p) := by unfold frm; rw [hb, List.append_assoc]
  rw [opn_sum hd (by omega) h (by rw [hf]; simp only [List.length_append, sum4_len]; omega), hb]
  have e1 : ((frm p ++ rest).drop (b.length + 4)).take p.length = p := by
    rw [hf, List.append_assoc, ← List.drop_drop, List.drop_left', List.append_assoc, List.drop_left' (by rw [sum4_len]), List.take_left' rfl]
    rfl
  have e2 : ((frm p ++ rest).drop b.length).take 4 = sum4 (Crc.more 0 p) := by
    rw [hf, List.append_assoc, List.drop_left' rfl, List.append_assoc, List.take_left' (by rw [sum4_len])]
  rw [e1, e2, if_pos rfl]
theorem opn_some {l : List UInt8} {u n : Nat} (h : opn l = some (u, n)) : l.take (u + 4 + n) = frm ((l.drop (u + 4)).take n) ∧ u + 4 + n ≤ l.length ∧ n ≤ 1048576 ∧ 0 < u ∧ decN l = ((n : Int), u) := by
  obtain ⟨m, v, hd⟩ : ∃ m v, decN l = (m, v) := ⟨_, _, rfl⟩
  by_cases hc : v = 0 ∨ m < 0 ∨ 1048576 < m ∨ (l.length : Int) < v + 4 + m
  · rw [opn_none hd hc] at h
    cases h
  · obtain ⟨k, rfl⟩ : ∃ k : Nat, m = (k : Int) := ⟨m.toNat, by omega⟩
    rw [opn_sum hd (by omega) (by omega) (by omega)] at h
    split at h
    case isTrue hs =>
      injection h with h
      injection h with h1 h2
      subst h1 h2
      have h3 := (decN_some hd (by omega)).1
      have hpl : ((l.drop (v + 4)).take k).length = k := by rw [List.length_take, List.length_drop]; omega
      refine ⟨?_, by omega, by omega, by omega, hd⟩
      unfold frm
      rw [hpl, ← h3, hs]
      rw [List.take_add, List.take_add]
    case isFalse => cases h
theorem opn_cut {p : List UInt8} {c : Nat} (hp : p.length ≤ 1048576) (hc : c < (frm p).length) : opn ((frm p).take c) = none := by
  cases h : opn ((frm p).take c) with
  | none => rfl
  | some x =>
    obtain ⟨u, n⟩ := x
    obtain ⟨h1, h2, h3, h4, -⟩ := opn_some h
    obtain ⟨q, hq⟩ : ∃ q, (((frm p).take c).drop (u + 4)).take n = q := ⟨_, rfl⟩
    rw [hq] at h1
    have hql : q.length = n := by rw [← hq, List.length_take, List.length_drop]; omega
    have hsplit : frm p = frm q ++ (frm p).drop (u + 4 + n) := by
      have e : (frm p).take (u + 4 + n) = frm q := by
        rw [← h1, List.take_take, Nat.min_eq_left]
        rw [List.length_take] at h2
        omega
      rw [← e, List.take_append_drop]
    have o1 := opn_frm (p := p) [] hp
    have o2 := opn_frm (p := q) ((frm p).drop (u + 4 + n)) (by omega)
    rw [List.append_nil] at o1
    rw [← hsplit, o1] at o2
    injection o2 with o2
    injection o2 with o3 o4
    have h5 := congrArg List.length h1
    have h6 : (frm q).length = (frm p).length := by unfold frm; rw [List.length_append, List.length_append, List.length_append, List.length_append, sum4_len, sum4_len, o4]
    rw [List.length_take, List.length_take] at h5
    rw [List.length_take] at h2
    omega

def scnF : Nat → List UInt8 → List ByteArray × Nat
  | 0, _ => ([], 0)
  | f + 1, l => match opn l with
    | none => ([], 0)
    | some (u, n) => (bs ((l.drop (u + 4)).take n) :: (scnF f (l.drop (u + 4 + n))).1, u + 4 + n + (scnF f (l.drop (u + 4 + n))).2)
def scn (l : List UInt8) : List ByteArray × Nat := scnF (l.length + 1) l
theorem scnF_any : ∀ (f f' : Nat) (l : List UInt8), l.length < f → l.length < f' → scnF f l = scnF f' l := by
  intro f
  induction f with
  | zero => intro f' l h; omega
  | succ f ih =>
    intro f' l h h'
    obtain ⟨g, rfl⟩ : ∃ g, f' = g + 1 := ⟨f' - 1, by omega⟩
    rw [scnF, scnF]
    cases ho : opn l with
    | none => rfl
    | some x =>
      obtain ⟨u, n⟩ := x
      obtain ⟨-, h2, -, h4, -⟩ := opn_some ho
      have e := ih g (l.drop (u + 4 + n)) (by rw [List.length_drop]; omega) (by rw [List.length_drop]; omega)
      simp only [e]
theorem scn_none {l : List UInt8} (h : opn l = none) : scn l = ([], 0) := by
  unfold scn
  rw [scnF, h]
theorem scn_some {l : List UInt8} {u n : Nat} (h : opn l = some (u, n)) : scn l = (bs ((l.drop (u + 4)).take n) :: (scn (l.drop (u + 4 + n))).1, u + 4 + n + (scn (l.drop (u + 4 + n))).2) := by
  obtain ⟨-, h2, -, h4, -⟩ := opn_some h
  have e : scn l = scnF (l.length + 1) l := rfl
  rw [e, scnF, h]
  have e2 : scnF l.length (l.drop (u + 4 + n)) = scn (l.drop (u + 4 + n)) := scnF_any _ _ _ (by rw [List.length_drop]; omega) (by omega)
  simp only [e2]
theorem scn_frm {s : ByteArray} (rest : List UInt8) (h : s.size ≤ 1048576) : scn (frm s.data.toList ++ rest) = (s :: (scn rest).1, (frm s.data.toList).length + (scn rest).2) := by
  have hl : s.data.toList.length = s.size := by simp
  have ho := opn_frm (p := s.data.toList) rest (by omega)
  obtain ⟨h1, h2, h3, h4, -⟩ := opn_some ho
  rw [scn_some ho]
  have hfl : (frm s.data.toList).length = (numB (s.data.toList.length : Int)).length + 4 + s.data.toList.length := by unfold frm; simp only [List.length_append, sum4_len]
  have e1 : (frm s.data.toList ++ rest).drop ((numB (s.data.toList.length : Int)).length + 4 + s.data.toList.length) = rest := by rw [← hfl, List.drop_left' rfl]
  have e2 : ((frm s.data.toList ++ rest).drop ((numB (s.data.toList.length : Int)).length + 4)).take s.data.toList.length = s.data.toList := by
    unfold frm
    rw [List.append_assoc, List.append_assoc, ← List.drop_drop, List.drop_left' rfl, List.drop_left' (by rw [sum4_len]), List.take_left' rfl]
  rw [e1, e2, hfl, bs_of]
theorem scn_frms : ∀ (ss : List ByteArray) (rest : List UInt8), (∀ s ∈ ss, s.size ≤ 1048576) → scn (frms ss ++ rest) = (ss ++ (scn rest).1, (frms ss).length + (scn rest).2) := by
  intro ss
  induction ss with
  | nil => intro rest _; simp [frms]
  | cons s ss ih =>
    intro rest h
    rw [frms_cons, List.append_assoc, scn_frm _ (h s (by simp)), ih rest fun z hz => h z (List.mem_cons_of_mem _ hz)]
    simp [Nat.add_assoc]
end Go.Proofs.YthnfjkinliekoaaDoor
