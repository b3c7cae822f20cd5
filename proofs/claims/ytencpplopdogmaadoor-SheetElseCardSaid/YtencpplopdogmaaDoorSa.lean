/- Digests' names: what they are, by definition. -/
import Derived.Test.YtencpplopdogmaaDoorPkA
import Derived.Test.YtencpplopdogmaaDoorBs
import Derived.Deep.RegionLaw
import Derived.Deep.RegionHeld3
namespace Go.Proofs.YtencpplopdogmaaDoor
set_option maxRecDepth 100000
open Go.RowKit
set_option linter.unusedVariables false

/-- The digit of a number below 16. -/
def dig (n : Nat) : UInt8 := if n < 10 then UInt8.ofNat (48 + n) else UInt8.ofNat (87 + n)
def hexB (b : UInt8) : List UInt8 := [dig (b.toNat / 16), dig (b.toNat % 16)]
def hexN (l : List UInt8) : List UInt8 := l.flatMap hexB
/-- What a digit stands for. -/
def val (c : UInt8) : Option Nat := if 48 ≤ c.toNat ∧ c.toNat ≤ 57 then some (c.toNat - 48) else if 97 ≤ c.toNat ∧ c.toNat ≤ 102 then some (c.toNat - 87) else none
def unhex : List UInt8 → Option (List UInt8)
  | [] => some []
  | [_] => none
  | a :: b :: l => match val a, val b, unhex l with
    | some x, some y, some r => some (UInt8.ofNat (16 * x + y) :: r)
    | _, _, _ => none
theorem dig_to (n : Nat) (h : n < 16) : (dig n).toNat = if n < 10 then 48 + n else 87 + n := by
  unfold dig
  split <;> simp <;> omega
theorem val_dig (n : Nat) (h : n < 16) : val (dig n) = some n := by
  unfold val
  rw [dig_to n h]
  split <;> split <;> first | (congr 1; omega) | skip
  all_goals first | omega | skip
  all_goals split <;> first | (congr 1; omega) | omega
theorem val_lt {c : UInt8} {n : Nat} (h : val c = some n) : n < 16 ∧ dig n = c := by
  unfold val at h
  split at h
  · injection h with h
    subst h
    refine ⟨by omega, ?_⟩
    apply UInt8.toNat_inj.1
    rw [dig_to _ (by omega)]
    split <;> omega
  · split at h
    · injection h with h
      subst h
      refine ⟨by omega, ?_⟩
      apply UInt8.toNat_inj.1
      rw [dig_to _ (by omega)]
      split <;> omega
    · cases h
theorem hexN_cons (b : UInt8) (l : List UInt8) : hexN (b :: l) = dig (b.toNat / 16) :: dig (b.toNat % 16) :: hexN l := rfl
theorem hexN_append (a b : List UInt8) : hexN (a ++ b) = hexN a ++ hexN b := by simp [hexN]
theorem hexN_len (l : List UInt8) : (hexN l).length = 2 * l.length := by
  induction l with
  | nil => rfl
  | cons b l ih => rw [hexN_cons]; simp [ih]; omega
theorem unhex_hex (l : List UInt8) : unhex (hexN l) = some l := by
  induction l with
  | nil => rfl
  | cons b l ih =>
    have hb := b.toNat_lt
    rw [hexN_cons, unhex, val_dig _ (by omega), val_dig _ (by omega), ih]
    simp only [Option.some.injEq, List.cons.injEq, and_true]
    apply UInt8.toNat_inj.1
    simp
    omega
theorem hex_unhex : ∀ (f : Nat) (l r : List UInt8), l.length ≤ f → unhex l = some r → hexN r = l := by
  intro f
  induction f with
  | zero =>
    intro l r hl h
    obtain rfl : l = [] := List.eq_nil_of_length_eq_zero (by omega)
    rw [unhex] at h
    injection h with h
    subst h
    rfl
  | succ f ih =>
    intro l r hl h
    match l with
    | [] =>
      rw [unhex] at h
      injection h with h
      subst h
      rfl
    | [_] => simp [unhex] at h
    | a :: b :: l =>
      rw [unhex] at h
      cases ha : val a with
      | none => simp [ha] at h
      | some x =>
        cases hb : val b with
        | none => simp [ha, hb] at h
        | some y =>
          cases hr : unhex l with
          | none => simp [ha, hb, hr] at h
          | some q =>
            simp only [ha, hb, hr, Option.some.injEq] at h
            subst h
            have h1 := val_lt ha
            have h2 := val_lt hb
            have e : (UInt8.ofNat (16 * x + y)).toNat = 16 * x + y := by simp; omega
            rw [hexN_cons, e, ih l q (by simp at hl; omega) hr, show (16 * x + y) / 16 = x by omega, show (16 * x + y) % 16 = y by omega, h1.2, h2.2]

theorem dig_all : ∀ x : Fin 16, (ByteArray.mk #[48, 49, 50, 51, 52, 53, 54, 55, 56, 57, 97, 98, 99, 100, 101, 102])[x.val]'x.isLt = dig x.val := by decide +kernel
theorem dig_at (x : Nat) (h : x < 16) : (ByteArray.mk #[48, 49, 50, 51, 52, 53, 54, 55, 56, 57, 97, 98, 99, 100, 101, 102])[x]'h = dig x := dig_all ⟨x, h⟩
theorem hexN_succ {l : List UInt8} {k : Nat} {b : UInt8} (h : l[k]? = some b) : hexN (l.take (k + 1)) = hexN (l.take k) ++ hexB b := by
  rw [List.take_add_one, h]
  simp [hexN]
/-- Bytes that are appended to a slice of the call's own, as one step of a region that draws its order. -/
theorem step_bytes {ops : Array Oper} {o : Oper} {a : Act} {w1 : World} {K : Act → World → Prop} {Q : Exit → Act → World → Prop} {E : Prop} (base : Nat) (hgd : o.guard = none) (s x : Operand)
    (ho : o.op = .call { callee := .builtin .append, args := #[s, x], argTypes := #[47, 47] }) (A : Option Addr) (m c : Nat) (v : Value) (l nb : List UInt8)
    (hs : a.eval s = v) (hx : a.eval x = .slice A m c) (hown : OwnB base w1 v l) (hr : Ls w1 A m (Lib.byteCells nb)) (hb : base ≤ w1.heap.size) (hl : l.length ≤ 1099511627776) (hm : m ≤ 1099511627776)
    (h : ∀ v' w', OwnB base w' v' (l ++ nb) → Below base w1 w' → w1.heap.size ≤ w'.heap.size → K (a.put o.dst v') w') :
    if Region.wanted o (yielded ops a.tmps) = true then Oper.wp Tryd.prog o a w1 K Q else E := by
  have hw : Region.wanted o (yielded ops a.tmps) = true := by simp [Region.wanted, hgd]
  rw [if_pos hw]
  obtain ⟨i0, hi, hz, h1, h2⟩ := info_parts info_u8
  have hnl : nb.length = m := by have := hr.1; simpa [Lib.byteCells] using this
  obtain ⟨v', w', hrun, h2', h3, h4⟩ := run_app (P := Tryd.prog) w1 base 47 o.type 5 i0 _ 1 Tryd.underlying47 hi hz h1 h2 rfl v l.length (Lib.byteCells l) hown A m c _ hr
    (by intro u hu; obtain ⟨b, -, rfl⟩ := List.mem_map.1 hu; rfl) (by unfold maxLen; omega) (by omega) hb
  unfold Oper.wp execOp
  simp only [ho, resolve, invoke, builtin, Sem.run_bind, Sem.run_pure, Result.andThen_ok, List.map_toArray, List.map_cons, List.map_nil, hs, hx, hrun]
  refine h v' w' ?_ ((Below.refl _ _).grown h3 hb fun k hk => (own_block_lt hown hk).1) h3.size
  unfold OwnB
  rw [Lib.byteCells_append, List.length_append, hnl]
  exact h2'
theorem own2 {base g : Nat} {w : World} {v : Value} {l : List UInt8} (h : OwnB base w v l) (o : Obj) : OwnB base (w.drew.alloc o) v l := own_kp h (((Kp.rfl_ [] w).drew).alloc o) (by simp)
end Go.Proofs.YtencpplopdogmaaDoor
