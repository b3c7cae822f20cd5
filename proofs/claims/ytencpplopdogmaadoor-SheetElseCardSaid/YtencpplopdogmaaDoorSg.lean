/- Words that may be written; the state's sum. -/
import Derived.Test.YtencpplopdogmaaDoorSf
import Derived.ChangeAlike
import Derived.RegionTactic
namespace Go.Proofs.YtencpplopdogmaaDoor
set_option maxRecDepth 100000
open Go.RowKit
set_option linter.unusedVariables false

def wordCells (l : List Nat) : List Value := l.map fun (x : Nat) => .int .u32 (x : Int)
/-- Block g begins with these words, and they may be written. -/
def WB (w : World) (g : Nat) (l : List Nat) : Prop := ∃ cs t fr, w.heap[g]? = some (.cells cs t fr) ∧ cs.toList.take l.length = wordCells l ∧ l.length ≤ cs.size ∧ (l.length ≤ fr.1 ∨ fr.2 = 0)
theorem WB.lt {w : World} {g : Nat} {l : List Nat} (h : WB w g l) : g < w.heap.size := by
  obtain ⟨cs, t, fr, h1, _⟩ := h
  rcases Nat.lt_or_ge g w.heap.size with hlt | hge
  · exact hlt
  · rw [Array.getElem?_eq_none hge] at h1; cases h1
theorem WB.cell {w : World} {g j : Nat} {l : List Nat} {b : Nat} (h : WB w g l) (hb : l[j]? = some b) : w.cell? ⟨g, j, none⟩ = some (.int .u32 (b : Int)) := by
  obtain ⟨cs, t, fr, h1, h2, h3, _⟩ := h
  have hj := (List.getElem?_eq_some_iff.1 hb).1
  have h4 : (cs.toList.take l.length)[j]? = some (.int .u32 (b : Int)) := by rw [h2]; simp [wordCells, hb]
  rw [List.getElem?_take, if_pos hj] at h4
  rw [cell_of_row w g j cs _ _ h1]
  simpa using h4
theorem WB.free {w : World} {g j : Nat} {l : List Nat} (h : WB w g l) (hj : j < l.length) : w.frozen? ⟨g, j, none⟩ = false := by
  obtain ⟨cs, t, fr, h1, h2, h3, h4⟩ := h
  simp [World.frozen?, h1]
  omega
theorem WB.set {w : World} {g j : Nat} {l : List Nat} (h : WB w g l) (b : Nat) : WB (w.setCell ⟨g, j, none⟩ (.int .u32 (b : Int))) g (l.set j b) := by
  obtain ⟨cs, t, fr, h1, h2, h3, h4⟩ := h
  refine ⟨cs.setIfInBounds j (.int .u32 (b : Int)), t, fr, ?_, ?_, by simpa using h3, by simpa using h4⟩
  · simp [World.setCell, Array.getElem?_modify, h1]
  · rw [Array.toList_setIfInBounds, List.length_set, List.take_set, h2]
    simp [wordCells, List.map_set]
theorem WB.kp {w w' : World} {g : Nat} {l : List Nat} {S : List Nat} (h : WB w g l) (k : Kp S w w') (hS : g ∉ S) : WB w' g l := by
  have hlt := h.lt
  obtain ⟨cs, t, fr, h1, h2⟩ := h
  exact ⟨cs, t, fr, (k.block g hlt hS).trans h1, h2⟩
theorem WB.words {w : World} {g : Nat} {l : List Nat} (h : WB w g l) (hl : ∀ x ∈ l, x < 4294967296) : Words w g l :=
  ⟨h.lt, fun j x hj => ⟨h.cell hj, hl x (List.mem_of_getElem? hj)⟩⟩
def add32 (a b : Nat) : Nat := (a + b) % 4294967296
def addW (a b : List Nat) : List Nat := List.zipWith add32 a b
/-- The first k words are added. -/
def addK (a b : List Nat) (k : Nat) : List Nat := (addW a b).take k ++ a.drop k
theorem addK_zero (a b : List Nat) : addK a b 0 = a := by simp [addK]
theorem addK_len {a b : List Nat} (h : a.length = b.length) (k : Nat) : (addK a b k).length = a.length := by
  simp [addK, addW, h]; omega
theorem addK_at {a b : List Nat} {k x y : Nat} (hx : a[k]? = some x) (hy : b[k]? = some y) : (addK a b k)[k]? = some x ∧ (addK a b k).set k (add32 x y) = addK a b (k + 1) := by
  have h1 := (List.getElem?_eq_some_iff.1 hx).1
  have h2 := (List.getElem?_eq_some_iff.1 hy).1
  have hl : ((addW a b).take k).length = k := by simp [addW]; omega
  have hz : (addW a b)[k]? = some (add32 x y) := by simp [addW, List.getElem?_zipWith, hx, hy]
  constructor
  · unfold addK
    rw [List.getElem?_append_right (by omega), hl, Nat.sub_self, List.getElem?_drop, Nat.add_zero, hx]
  · unfold addK
    rw [List.set_append, if_neg (by omega), hl, Nat.sub_self, List.take_add_one, hz]
    have hd : a.drop k = x :: a.drop (k + 1) := by
      rw [List.drop_eq_getElem_cons h1]
      congr 1
      have := List.getElem?_eq_getElem h1
      rw [hx] at this
      injection this with this
      exact this.symm
    rw [hd]
    simp
theorem addK_all {a b : List Nat} (h : a.length = b.length) : addK a b a.length = addW a b := by
  unfold addK
  rw [List.drop_of_length_le (Nat.le_refl _), List.append_nil, List.take_of_length_le]
  simp [addW]
  omega
set_option maxHeartbeats 1000000 in
theorem add_any (g : Nat) (H V : List Nat) (A : Option Addr) (c : Nat) (w : World) (hH : H.length = 8) (hV : V.length = 8) (hw : WB w g H) (hL : Ls w A 8 (wordCells V)) (hA : ∀ ad, A = some ad → ad.block ≠ g) :
    Calls Tryd.prog 68 #[.pointer (some ⟨g, 0, none⟩), .slice A 8 c] w fun e w' => e = .returned (.tuple #[]) ∧ WB w' g (addW H V) ∧ Kp [g] w w' := by
  have HH := Lib.hid hH
  have HV := Lib.hid hV
  clear hH hV
  go_enter Tryd.func68, Tryd.ntmps68
  go_wp2_with fail
  go_loopg [8] 8 (fun gk i wr => ∃ k : Nat, 8 - k ≤ gk ∧ i = .int .i64 k ∧ k ≤ 8 ∧ WB wr g (addK H V k) ∧ Kp [g] w wr)
  case atStart => exact ⟨0, by omega, rfl, Nat.zero_le _, by rw [addK_zero]; exact hw, Kp.rfl_ _ _⟩
  case round =>
    obtain ⟨k, hgk, rfl, hk, hb, hkp⟩ := hrel
    by_cases hlt : k < 8
    · obtain ⟨x, hx⟩ : ∃ x, H[k]? = some x := ⟨_, List.getElem?_eq_getElem (by rw [HH.out]; exact hlt)⟩
      obtain ⟨y, hy⟩ : ∃ y, V[k]? = some y := ⟨_, List.getElem?_eq_getElem (by rw [HV.out]; exact hlt)⟩
      obtain ⟨ad, u, rfl, hub, hu, hcy⟩ := (hL.kp hkp (fun _ ad e => by simpa using hA ad e)).at_ hlt
      have hu2 : (wordCells V)[k]? = some (.int .u32 (y : Int)) := by simp [wordCells, hy]
      rw [hu2] at hu
      injection hu with hu
      subst hu
      obtain ⟨hk1, hk2⟩ := addK_at hx hy
      have hlen := addK_len (a := H) (b := V) (by rw [HH.out, HV.out]) k
      have hc := hb.cell hk1
      have hf := hb.free (j := k) (by rw [hlen, HH.out]; exact hlt)
      have hb2 := hb.set (j := k) (add32 x y)
      rw [hk2] at hb2
      have hkp2 : Kp [g] w (wr.setCell ⟨g, k, none⟩ (.int .u32 (add32 x y : Nat))) := hkp.set (by simp) _
      have hki : (k : Int) < 8 := by omega
      have hxy : ((x : Int) + (y : Int)) % 4294967296 = ((add32 x y : Nat) : Int) := by unfold add32; omega
      clear hk1 hk2 hlen hx hy hu2 hb
      generalize add32 x y = z at *
      go_wp2_with fail
      go_region
      have hb3 : WB (wr.setCell ⟨g, k, none⟩ (.int .u32 (z : Int))).drew g (addK H V (k + 1)) := hb2
      have hkp3 := hkp2.drew
      clear hb2 hkp2 hc hcy hf hxy
      generalize (wr.setCell ⟨g, k, none⟩ (.int .u32 (z : Int))).drew = wq at *
      go_wp2_with fail
      go_roundg (8 - (k + 1))
      case measure => omega
      case rel => exact ⟨k + 1, by omega, by go_num, by omega, hb3, hkp3⟩
    · obtain rfl : k = 8 := by omega
      have hall := addK_all (a := H) (b := V) (by rw [HH.out, HV.out])
      rw [HH.out] at hall
      rw [hall] at hb
      go_wp2_with fail
      go_end0
      exact ⟨rfl, hb, hkp⟩
end Go.Proofs.YtencpplopdogmaaDoor
