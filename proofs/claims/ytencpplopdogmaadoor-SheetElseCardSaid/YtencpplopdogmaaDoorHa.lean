/- Sheets, by definition: which ones are right, how they are written, what is built of them; their bytes are read in one way. -/
import Derived.Test.YtencpplopdogmaaDoorGc
import Derived.Test.YtencpplopdogmaaDoorTa
import Derived.Test.YtencpplopdogmaaDoorGe
namespace Go.Proofs.YtencpplopdogmaaDoor
set_option maxRecDepth 100000
open Go.RowKit
set_option linter.unusedVariables false

/-- A chunk's digest. -/
def dgs (c : ByteArray) : ByteArray := bs (shaW c.data.toList)
theorem dgs_size (c : ByteArray) : (dgs c).size = 32 := by unfold dgs; rw [bs_size, shaW_len]
/-- A sheet that is right. -/
def Rt (z : Int) (hs : List ByteArray) : Prop := (0 ≤ z ∧ z ≤ 512) ∧ (hs.length : Int) = cntZ z ∧ ∀ h ∈ hs, h.size = 32
instance (z : Int) (hs : List ByteArray) : Decidable (Rt z hs) := by unfold Rt; infer_instance
theorem Rt.len {z : Int} {hs : List ByteArray} (h : Rt z hs) : hs.length ≤ 8 := by
  have h1 := h.1; have h2 := h.2.1
  unfold cntZ at h2
  rw [if_neg (by omega)] at h2
  omega
/-- A sheet's bytes. -/
def pk (z : Int) (hs : List ByteArray) : List UInt8 := numB z ++ (numB (hs.length : Int) ++ texts hs)
/-- These bytes are a right sheet's. -/
def Prs (l : List UInt8) (z : Int) (hs : List ByteArray) : Prop := Rt z hs ∧ l = pk z hs
def Sz63 (hs : List ByteArray) : Prop := ∀ h ∈ hs, h.size ≤ 9223372036854775807

theorem textsS_cons (s : ByteArray) (ss : List ByteArray) : texts (s :: ss) = numB s.size ++ (s.data.toList ++ texts ss) := by simp [texts]
theorem textsS_append (a b : List ByteArray) : texts (a ++ b) = texts a ++ texts b := by simp [texts]
theorem num_inj {a b : Int} {r r' : List UInt8} (ha : -9223372036854775808 ≤ a ∧ a ≤ 9223372036854775807) (hb : -9223372036854775808 ≤ b ∧ b ≤ 9223372036854775807) (h : numB a ++ r = numB b ++ r') : a = b ∧ r = r' := by
  have h1 := decN_numB a r ha.1 ha.2
  have h2 := decN_numB b r' hb.1 hb.2
  rw [h] at h1
  rw [h1] at h2
  injection h2 with h2 h3
  subst h2
  exact ⟨rfl, List.append_cancel_left h⟩
theorem Sz63.cons {x : ByteArray} {xs : List ByteArray} (h : Sz63 (x :: xs)) : x.size ≤ 9223372036854775807 ∧ Sz63 xs := ⟨h x (by simp), fun y hy => h y (List.mem_cons_of_mem _ hy)⟩
theorem txt_inj : ∀ (xs ys : List ByteArray) (r r' : List UInt8), xs.length = ys.length → Sz63 xs → Sz63 ys → texts xs ++ r = texts ys ++ r' → xs = ys ∧ r = r' := by
  intro xs
  induction xs with
  | nil =>
    intro ys r r' hl _ _ h
    cases ys with
    | nil => exact ⟨rfl, by simpa [texts] using h⟩
    | cons y ys => simp at hl
  | cons x xs ih =>
    intro ys r r' hl hx hy h
    cases ys with
    | nil => simp at hl
    | cons y ys =>
      have hx' := hx.cons
      have hy' := hy.cons
      simp only [textsS_cons, List.append_assoc] at h
      obtain ⟨h1, h2⟩ := num_inj (a := (x.size : Int)) (b := (y.size : Int)) (by omega) (by omega) h
      have hs : x.data.toList.length = y.data.toList.length := by simp; omega
      obtain ⟨h3, h4⟩ := List.append_inj h2 hs
      obtain ⟨h5, h6⟩ := ih ys r r' (by simpa using hl) hx'.2 hy'.2 h4
      exact ⟨by rw [h5, bs_eq h3], h6⟩
theorem Rt.sz {z : Int} {hs : List ByteArray} (h : Rt z hs) : Sz63 hs := fun x hx => by have := h.2.2 x hx; omega
theorem Rt.z63 {z : Int} {hs : List ByteArray} (h : Rt z hs) : -9223372036854775808 ≤ z ∧ z ≤ 9223372036854775807 := by have := h.1; omega
theorem Prs.one {l : List UInt8} {z z' : Int} {hs hs' : List ByteArray} (h : Prs l z hs) (h' : Prs l z' hs') : z = z' ∧ hs = hs' := by
  have e : pk z hs = pk z' hs' := h.2.symm.trans h'.2
  unfold pk at e
  obtain ⟨e1, e2⟩ := num_inj h.1.z63 h'.1.z63 e
  have l1 := h.1.len
  have l2 := h'.1.len
  obtain ⟨e3, e4⟩ := num_inj (by omega) (by omega) e2
  exact ⟨e1, (txt_inj hs hs' [] [] (by omega) h.1.sz h'.1.sz (by rw [List.append_nil, List.append_nil]; exact e4)).1⟩
/-- The number that is read is the one that stands there. -/
theorem num_there {l r : List UInt8} {n z : Int} {u : Nat} (hd : decN l = (n, u)) (hz : -9223372036854775808 ≤ z ∧ z ≤ 9223372036854775807) (h : l = numB z ++ r) : n = z ∧ u = (numB z).length ∧ 0 < u ∧ l.drop u = r := by
  rw [h, decN_numB z r hz.1 hz.2] at hd
  injection hd with h1 h2
  subst h1 h2
  exact ⟨rfl, rfl, (numB_len hz.1 hz.2).1, by rw [h]; simp⟩

/-- What is read so far, and what is left. -/
def Pre (l : List UInt8) (hk : List ByteArray) (rest : List UInt8) : Prop := l = texts hk ++ rest ∧ Sz63 hk
/-- These bytes are not those of m texts. -/
def Nope (l : List UInt8) (m : Nat) : Prop := ∀ hs : List ByteArray, hs.length = m → Sz63 hs → l ≠ texts hs
theorem Pre.zero (l : List UInt8) : Pre l [] l := ⟨by simp [texts], by intro h hh; simp at hh⟩
theorem Pre.step {l rest : List UInt8} {hk : List ByteArray} {j u : Nat} {t : ByteArray} (h : Pre l hk rest) (hd : decN rest = ((j : Int), u)) (hu : 0 < u) (hj : u + j ≤ rest.length) (hr : rest.length ≤ 9223372036854775807) (ht : bs ((rest.drop u).take j) = t) : Pre l (hk ++ [t]) (rest.drop (u + j)) := by
  obtain ⟨h1, -, -, -⟩ := decN_some hd hu
  subst ht
  have hs : (bs ((rest.drop u).take j)).size = j := by rw [bs_size, List.length_take, List.length_drop]; omega
  refine ⟨?_, fun x hx => ?_⟩
  · rw [textsS_append, List.append_assoc, h.1]
    congr 1
    rw [textsS_cons, hs, bs_list, ← h1]
    simp only [texts, List.flatMap_nil, List.append_nil]
    rw [List.append_assoc, show rest.drop (u + j) = (rest.drop u).drop j by rw [List.drop_drop], List.take_append_drop, List.take_append_drop]
  · rcases List.mem_append.1 hx with hx | hx
    · exact h.2 x hx
    · obtain rfl : x = _ := by simpa using hx
      omega
theorem Pre.nope {l rest : List UInt8} {hk : List ByteArray} {m u : Nat} {n : Int} (h : Pre l hk rest) (hk' : hk.length < m) (hd : decN rest = (n, u)) (hno : u = 0 ∨ n < 0 ∨ (rest.length : Int) - u < n) : Nope l m := by
  intro hs hl hz he
  have e : texts (hs.take hk.length) ++ texts (hs.drop hk.length) = texts hk ++ rest := by rw [← textsS_append, List.take_append_drop, ← he, h.1]
  obtain ⟨-, e2⟩ := txt_inj _ _ _ _ (by rw [List.length_take]; omega) (fun x hx => hz x (List.mem_of_mem_take hx)) h.2 e
  cases hd' : hs.drop hk.length with
  | nil =>
    have := congrArg List.length hd'
    rw [List.length_drop] at this
    simp at this
    omega
  | cons x xs =>
    have hx := hz x (List.mem_of_mem_drop (by rw [hd']; simp))
    rw [hd', textsS_cons] at e2
    obtain ⟨h1, h2, h3, h4⟩ := num_there hd (by omega) e2.symm
    have h5 := congrArg List.length h4
    rw [List.length_drop] at h5
    have h6 : x.data.toList.length = x.size := by simp
    have h7 := congrArg List.length e2
    simp only [List.length_append] at h7 h5
    omega
theorem Pre.done {l rest : List UInt8} {hk hs : List ByteArray} (h : Pre l hk rest) (hl : hs.length = hk.length) (hz : Sz63 hs) (he : l = texts hs) : hs = hk ∧ rest = [] := by
  have e : texts hs ++ [] = texts hk ++ rest := by rw [List.append_nil, ← he, h.1]
  obtain ⟨e1, e2⟩ := txt_inj _ _ _ _ hl hz h.2 e
  exact ⟨e1, e2.symm⟩
theorem texts_ge : ∀ (hs : List ByteArray), Sz63 hs → hs.length ≤ (texts hs).length := by
  intro hs
  induction hs with
  | nil => intro _; simp
  | cons x xs ih =>
    intro h
    have h1 := h.cons
    have h2 := ih h1.2
    have h3 := (numB_len (z := (x.size : Int)) (by omega) (by omega)).1
    rw [textsS_cons]
    simp only [List.length_append, List.length_cons]
    omega
theorem Prs.first {l : List UInt8} {z z' : Int} {hs : List ByteArray} {u : Nat} (h : Prs l z hs) (hd : decN l = (z', u)) : z' = z ∧ 0 < u ∧ l.drop u = numB (hs.length : Int) ++ texts hs := by
  obtain ⟨h1, h2, h3, h4⟩ := num_there hd h.1.z63 h.2
  exact ⟨h1, h3, h4⟩
theorem Prs.second {l : List UInt8} {z z' n : Int} {hs : List ByteArray} {u v : Nat} (h : Prs l z hs) (hd : decN l = (z', u)) (hd2 : decN (l.drop u) = (n, v)) : n = hs.length ∧ 0 < v ∧ (l.drop u).drop v = texts hs ∧ hs.length ≤ ((l.drop u).drop v).length := by
  have h1 := (h.first hd).2.2
  have hl := h.1.len
  obtain ⟨h2, h3, h4, h5⟩ := num_there hd2 (by omega) h1
  exact ⟨h2, h4, h5, by rw [h5]; exact texts_ge hs h.1.sz⟩
/-- What was read to the end is a right sheet's bytes. -/
theorem prs_of {l : List UInt8} {z : Int} {hs : List ByteArray} {u v : Nat} (hd : decN l = (z, u)) (hu : 0 < u) (hd2 : decN (l.drop u) = ((hs.length : Int), v)) (hv : 0 < v) (hr : Rt z hs) (hp : Pre ((l.drop u).drop v) hs []) : Prs l z hs := by
  refine ⟨hr, ?_⟩
  have h1 := (decN_some hd hu).1
  have h2 := (decN_some hd2 hv).1
  have h3 := hp.1
  rw [List.append_nil] at h3
  unfold pk
  rw [← h1, ← h2, ← h3, List.take_append_drop, List.take_append_drop]

/-- What is built of a sheet and chunks: the bytes and the error. -/
def bld (z : Int) (hs cs : List ByteArray) : ByteArray × Int :=
  if Rt z hs then if cs.length = hs.length then if cs.map dgs = hs then if ((flat cs).length : Int) = z then (bs (flat cs), 0) else (bs [], 101) else (bs [], 101) else (bs [], 1) else (bs [], 3)
/-- What is made of bytes. -/
def mkH (l : List UInt8) : List ByteArray := (chunks l (cnt l.length)).map dgs
theorem mkH_len (l : List UInt8) : (mkH l).length = cnt l.length := by unfold mkH; rw [List.length_map, chunks_length]
theorem mkH_right {l : List UInt8} (h : l.length ≤ 512) : Rt l.length (mkH l) := ⟨by omega, by rw [mkH_len]; unfold cntZ cnt; rw [if_neg (by omega)]; omega, fun x hx => by
  obtain ⟨c, _, rfl⟩ := List.mem_map.1 hx
  exact dgs_size c⟩
theorem bld_back {l : List UInt8} (h : l.length ≤ 512) : bld l.length (mkH l) (chunks l (cnt l.length)) = (bs l, 0) := by
  unfold bld
  rw [if_pos (mkH_right h), if_pos (by rw [mkH_len, chunks_length]), if_pos (show (chunks l (cnt l.length)).map dgs = mkH l from rfl), chunks_flat, if_pos rfl]
end Go.Proofs.YtencpplopdogmaaDoor
