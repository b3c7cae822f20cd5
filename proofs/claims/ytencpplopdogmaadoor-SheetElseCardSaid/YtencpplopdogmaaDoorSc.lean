/- What a name is of. -/
import Derived.Test.YtencpplopdogmaaDoorSb
import Derived.BigQuiet
import Derived.Deep.QuietTactic
namespace Go.Proofs.YtencpplopdogmaaDoor
set_option maxRecDepth 100000
open Go.RowKit
set_option linter.unusedVariables false

theorem unhex_cons (a b : UInt8) (l : List UInt8) : unhex (a :: b :: l) = match val a, val b, unhex l with
    | some x, some y, some r => some (UInt8.ofNat (16 * x + y) :: r)
    | _, _, _ => none := by
  rw [unhex]
  cases val a <;> cases val b <;> cases unhex l <;> rfl
theorem unhex_append : ∀ (f : Nat) (a b : List UInt8), a.length = 2 * f → unhex (a ++ b) = (unhex a).bind fun x => (unhex b).map fun y => x ++ y := by
  intro f
  induction f with
  | zero =>
    intro a b h
    obtain rfl : a = [] := List.eq_nil_of_length_eq_zero (by omega)
    rw [unhex]
    cases h : unhex b <;> simp [h]
  | succ f ih =>
    intro a b h
    match a, h with
    | c :: d :: a, h =>
      rw [List.cons_append, List.cons_append, unhex_cons, unhex_cons, ih a b (by simp at h; omega)]
      cases val c <;> cases val d <;> cases unhex a <;> cases unhex b <;> simp
    | [_], h => simp at h; omega
    | [], h => simp at h
theorem unhex_odd : ∀ (f : Nat) (a : List UInt8), a.length = 2 * f + 1 → unhex a = none := by
  intro f
  induction f with
  | zero =>
    intro a h
    match a, h with
    | [_], _ => rw [unhex]
    | [], h => simp at h
    | _ :: _ :: _, h => simp at h
  | succ f ih =>
    intro a h
    match a, h with
    | c :: d :: a, h =>
      rw [unhex_cons, ih a (by simp at h; omega)]
      cases val c <;> cases val d <;> rfl
    | [_], h => simp at h
    | [], h => simp at h
theorem take2 {l : List UInt8} {i : Nat} {a b : UInt8} (ha : l[i]? = some a) (hb : l[i + 1]? = some b) : l.take (i + 2) = l.take i ++ [a, b] := by
  rw [show i + 2 = (i + 1) + 1 by omega, List.take_add_one, List.take_add_one, ha, hb]
  simp
theorem unhex_step {l acc : List UInt8} {k : Nat} {a b : UInt8} {x y : Nat} (h : unhex (l.take (2 * k)) = some acc) (hl : 2 * k < l.length) (ha : l[2 * k]? = some a) (hb : l[2 * k + 1]? = some b) (hx : val a = some x) (hy : val b = some y) :
    unhex (l.take (2 * (k + 1))) = some (acc ++ [UInt8.ofNat (16 * x + y)]) := by
  rw [show 2 * (k + 1) = 2 * k + 2 by omega, take2 ha hb, unhex_append k _ _ (by rw [List.length_take]; omega), h, unhex_cons, hx, hy, unhex]
  rfl
theorem unhex_bad {l : List UInt8} {k : Nat} {a b : UInt8} (hl : 2 * k < l.length) (ha : l[2 * k]? = some a) (hb : l[2 * k + 1]? = some b) (hx : val a = none ∨ val b = none) : unhex l = none := by
  have e : l = l.take (2 * k) ++ (a :: b :: l.drop (2 * k + 2)) := by
    have h1 := List.take_append_drop (2 * k + 2) l
    rw [take2 ha hb, List.append_assoc] at h1
    exact h1.symm
  rw [e, unhex_append k _ _ (by rw [List.length_take]; omega), unhex_cons]
  rcases hx with hx | hx
  · rw [hx]; cases unhex (l.take (2 * k)) <;> rfl
  · rw [hx]; cases unhex (l.take (2 * k)) <;> cases val a <;> rfl
theorem unhex_len : ∀ (f : Nat) (l r : List UInt8), l.length ≤ f → unhex l = some r → l.length = 2 * r.length := by
  intro f l r hl h
  have := hexN_len r
  rw [hex_unhex f l r hl h] at this
  exact this
/-- What a name is of is told. -/
def Hashed (s : ByteArray) (w : World) (e : Ending) (w' : World) : Prop := Kp [] w w' ∧ ((unhex s.data.toList = none ∧ e = .returned (.tuple #[.string ⟨#[]⟩, .bool false])) ∨ ∃ r, unhex s.data.toList = some r ∧ e = .returned (.tuple #[.string (bs r), .bool true]))
theorem valI {c : UInt8} {n : Nat} (h : val c = some n) : ((val c).map fun n => (n : Int)).getD (-1) = (n : Int) := by rw [h]; rfl
theorem valN {c : UInt8} (h : val c = none) : ((val c).map fun n => (n : Int)).getD (-1) = -1 := by rw [h]; rfl
end Go.Proofs.YtencpplopdogmaaDoor
