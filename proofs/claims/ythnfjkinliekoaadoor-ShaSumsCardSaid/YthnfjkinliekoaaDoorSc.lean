/- What a name is of. -/
import Derived.Test.YthnfjkinliekoaaDoorSb
import Derived.BigQuiet
import Derived.Deep.QuietTactic
namespace Go.Proofs.YthnfjkinliekoaaDoor
set_option maxRecDepth 100000
open Go.RowKit
set_option linter.unusedVariables false

theorem unhex_cons (a b : UInt8) (l : List UInt8) : unhex (a :: b :: l) = match val a, val b, unhex l with
    | some x, some y, some r => some (UInt8.ofNat (16 * x + y) :: r)
    | _, _, _ => none := by
  rw [unhex]
  cases val a <;> cases val b <;> cases unhex l <;> rfl
theorem unhex_append : ∀ (f : Nat) (a b : List UInt8), a.length = 2 * f → unhex (a ++ b) = (unhex a).bind fun x => (unhex b).map fun y => x ++ y := by
  intro f
  induction f with
  | zero =>
    intro a b h
    obtain rfl : a = [] := List.eq_nil_of_length_eq_zero (by omega)
    rw [unhex]
    cases h : unhex b <;> simp [h]
  | succ f ih =>
    intro a b h
    match a, h with
    | c :: d :: a, h =>
      rw [List.cons_append, List.cons_append, unhex_cons, unhex_cons, ih a b (by simp at h; omega)]
      cases val c <;> cases val d <;> cases unhex a <;> cases unhex b <;> simp
    | [_], h => simp at h; omega
    | [], h => simp at h
theorem unhex_odd : ∀ (f : Nat) (a : List UInt8), a.length = 2 * f + 1 → unhex a = none := by
  intro f
  induction f with
  | zero =>
    intro a h
    match a, h with
    | [_], _ => rw [unhex]
    | [], h => simp at h
    | _ :: _ :: _, h => simp at h
  | succ f ih =>
    intro a h
    match a, h with
    | c :: d :: a, h =>
      rw [unhex_cons, ih a (by simp at h; omega)]
      cases val c <;> cases val d <;> rfl
    | [_], h => simp at h
    | [], h => simp at h
theorem take2 {l : List UInt8} {i : Nat} {a b : UInt8} (ha : l[i]? = some a) (hb : l[i + 1]? = some b) : l.take (i + 2) = l.take i ++ [a, b] := by
  rw [show i + 2 = (i + 1) + 1 by omega, List.take_add_one, List.take_add_one, ha, hb]
  simp
theorem unhex_step {l acc : List UInt8} {k : Nat} {a b : UInt8} {x y : Nat} (h : unhex (l.take (2 * k)) = some acc) (hl : 2 * k < l.length) (ha : l[2 * k]? = some a) (hb : l[2 * k + 1]? = some b) (hx : val a = some x) (hy : val b = some y) :
    unhex (l.take (2 * (k + 1))) = some (acc ++ [UInt8.ofNat (16 * x + y)]) := by
  rw [show 2 * (k + 1) = 2 * k + 2 by omega, take2 ha hb, unhex_append k _ _ (by rw [List.length_take]; omega), h, unhex_cons, hx, hy, unhex]
  rfl
theorem unhex_bad {l : List UInt8} {k : Nat} {a b : UInt8} (hl : 2 * k < l.length) (ha : l[2 * k]? = some a) (hb : l[2 * k + 1]? = some b) (hx : val a = none ∨ val b = none) : unhex l = none := by
  have e : l = l.take (2 * k) ++ (a :: b :: l.drop (2 * k + 2)) := by
    have h1 := List.take_append_drop (2 * k + 2) l
    rw [take2 ha hb, List.append_assoc] at h1
    exact h1.symm
  rw [e, unhex_append k _ _ (by rw [List.length_take]; omega), unhex_cons]
  rcases hx with hx | hx
  · rw [hx]; cases unhex (l.take (2 * k)) <;> rfl
  · rw [hx]; cases unhex (l.take (2 * k)) <;> cases val a <;> rfl
theorem unhex_len : ∀ (f : Nat) (l r : List UInt8), l.length ≤ f → unhex l = some r → l.length = 2 * r.length := by
  intro f l r hl h
  have := hexN_len r
  rw [hex_unhex f l r hl h] at this
  exact this
/-- What a name is of is told. -/
def Hashed (s : ByteArray) (w : World) (e : Ending) (w' : World) : Prop := Kp [] w w' ∧ ((unhex s.data.toList = none ∧ e = .returned (.tuple #[.string ⟨#[]⟩, .bool false])) ∨ ∃ r, unhex s.data.toList = some r ∧ e = .returned (.tuple #[.string (bs r), .bool true]))
theorem valI {c : UInt8} {n : Nat} (h : val c = some n) : ((val c).map fun n => (n : Int)).getD (-1) = (n : Int) := by rw [h]; rfl
theorem valN {c : UInt8} (h : val c = none) : ((val c).map fun n => (n : Int)).getD (-1) = -1 := by rw [h]; rfl
theorem val_some (c : UInt8) (n : Nat) (w : World) (h : val c = some n) : Calls Tryd.prog 39 #[.int .u8 (c.toNat : Int)] w fun e w' => e = .returned (.int .i64 n) ∧ w = w' := by
  have := val_to c w
  rwa [valI h] at this
theorem val_none (c : UInt8) (w : World) (h : val c = none) : Calls Tryd.prog 39 #[.int .u8 (c.toNat : Int)] w fun e w' => e = .returned (.int .i64 (-1)) ∧ w = w' := by
  have := val_to c w
  rwa [valN h] at this
theorem val_q (c : UInt8) (z : Int) (w : World) (k : Nat) (h : ((val c).map fun n => (n : Int)).getD (-1) = z) : Calls Tryd.prog 39 #[.int .u8 (c.toNat : Int)] (w.drewN k) fun e w' => e = .returned (.int .i64 z) ∧ ∃ m, w' = w.drewN m := by
  rw [← h]
  exact (val_to c (w.drewN k)).mono fun e w' ⟨a, b⟩ => ⟨a, k, b.symm⟩
set_option maxHeartbeats 1000000 in
theorem hash_odd (s : ByteArray) (w : World) (hs : s.size ≤ 1000000) (ho : s.size % 2 = 1) :
    Calls Tryd.prog 17 #[.string s] w (Hashed s w) := by
  have hn := unhex_odd (s.size / 2) s.data.toList (by simp; omega)
  have HN := Lib.hid hn
  clear hn
  have h1 : (s.size : Int).tmod 2 = 1 := by rw [Int.tmod_eq_emod_of_nonneg (by omega)]; omega
  go_enter Tryd.func17, Tryd.ntmps17
  go_wp2_with fail
  go_ret2
  exact ⟨Kp.rfl_ _ _, .inl ⟨HN.out, rfl⟩⟩
set_option maxHeartbeats 1000000 in
theorem hash_even (s : ByteArray) (w : World) (n : Nat) (hs : s.size ≤ 1000000) (ho : s.size = 2 * n) :
    Calls Tryd.prog 17 #[.string s] w (Hashed s w) := by
  have hll : s.data.toList.length = s.size := by simp
  have h1 : (s.size : Int).tmod 2 = 0 := by rw [Int.tmod_eq_emod_of_nonneg (by omega)]; omega
  have h3 : (s.size : Int) / 2 = (n : Int) := by omega
  have HLL := Lib.hid hll
  clear hll
  obtain ⟨i0, hi, hz, hz1, hz2⟩ := info_parts info_u8
  go_enter Tryd.func17, Tryd.ntmps17
  go_wp2_with (at_make; go_must (refine wpList_make_own _ rfl _ _ 48 rfl w.heap.size 5 i0 _ 1 Tryd.underlying48 hi hz hz1 .i64 .i64 (n : Int) n rfl rfl (by omega) (by rw [hz2]; omega) (by unfold maxLen; omega) (Nat.le_refl _) ?_); intro w1 hown1 hg1)
  have hb1 : Below w.heap.size w w1 := (Below.refl _ _).grown hg1 (Nat.le_refl _) (by simp)
  have hs1 := hg1.size
  go_wp2_with fail
  go_loopg [4, 5] n (fun gk v i wr => ∃ (j k : Nat) (acc : List UInt8), n - k ≤ gk ∧ i = .int .i64 (j : Int) ∧ j = 2 * k ∧ k ≤ n ∧ OwnB w.heap.size wr v acc ∧ unhex (s.data.toList.take (2 * k)) = some acc ∧ Below w.heap.size w wr ∧ w.heap.size ≤ wr.heap.size)
  case atStart => exact ⟨0, 0, [], by omega, rfl, rfl, Nat.zero_le _, hown1, by rw [Nat.mul_zero, List.take_zero, unhex], hb1, hs1⟩
  case round =>
    clear hown1 hb1 hs1 hg1
    obtain ⟨j, k, acc, hgk, rfl, hjk, hk, hown, hun, hbel, hsz⟩ := hrel
    have HUN := Lib.hid hun
    clear hun
    by_cases hlt : k < n
    · have hj1 : j < s.size := by omega
      have hj2 : j + 1 < s.size := by omega
      obtain ⟨a, haa, hal⟩ := byte_at hj1
      obtain ⟨b, hbb, hbl⟩ := byte_at hj2
      have hacl : acc.length ≤ 1000000 := by
        have := unhex_len _ _ _ (Nat.le_refl _) HUN.out
        rw [List.length_take, HLL.out] at this
        omega
      have i1 : (j : Int) < (s.size : Int) := by omega
      have i2 : (j : Int) + 1 < (s.size : Int) := by omega
      have i0' : (0 : Int) ≤ (j : Int) + 1 := by omega
      have i3 : ((j : Int) + 1).toNat = j + 1 := by omega
      have i4 : IntKind.i64.wrap ((j : Int) + 1) = (j : Int) + 1 := IntWalk.i64_in _ (by omega)
      rw [hjk] at hal hbl
      have HJ := Lib.hid hjk
      clear hjk
      by_cases hbad : val a = none ∨ val b = none
      · have hno := unhex_bad (by rw [HLL.out]; omega) hal hbl hbad
        have HNO := Lib.hid hno
        clear hno hal hbl
        obtain ⟨va, hva⟩ : ∃ v, ((val a).map fun n => (n : Int)).getD (-1) = v := ⟨_, rfl⟩
        obtain ⟨vb, hvb⟩ : ∃ v, ((val b).map fun n => (n : Int)).getD (-1) = v := ⟨_, rfl⟩
        have hor : va < 0 ∨ (¬ va < 0 ∧ vb < 0) := by
          rcases hbad with h | h
          · rw [valN h] at hva; omega
          · rw [valN h] at hvb; omega
        clear hbad
        have HVA := Lib.hid hva
        have HVB := Lib.hid hvb
        clear hva hvb
        go_wp2_with fail
        go_quiet (first
          | (go_at_call 39; with_reducible exact val_q a va _ _ HVA.out)
          | (go_at_call 39; with_reducible exact val_q b vb _ _ HVB.out))
        rcases hor with hor | ⟨hor, hor2⟩
        all_goals
          go_wp2_with fail
          go_ret2
          exact ⟨(Kp.of_below hbel).drewN _, .inl ⟨HNO.out, rfl⟩⟩
      · obtain ⟨x, hx⟩ : ∃ x, val a = some x := Option.ne_none_iff_exists'.1 fun h => hbad (.inl h)
        obtain ⟨y, hy⟩ : ∃ y, val b = some y := Option.ne_none_iff_exists'.1 fun h => hbad (.inr h)
        have hx1 := (val_lt hx).1
        have hy1 := (val_lt hy).1
        have hst := unhex_step HUN.out (by rw [HLL.out]; omega) hal hbl hx hy
        have HST := Lib.hid hst
        clear hst hal hbl hbad
        have HVA := Lib.hid (valI hx)
        have HVB := Lib.hid (valI hy)
        clear hx hy
        go_wp2_with fail
        go_quiet (first
          | (go_at_call 39; with_reducible exact val_q a x _ _ HVA.out)
          | (go_at_call 39; with_reducible exact val_q b y _ _ HVB.out))
        obtain ⟨c, hcz⟩ : ∃ c : UInt8, (c.toNat : Int) = 16 * (x : Int) + (y : Int) := ⟨UInt8.ofNat (16 * x + y), by simp; omega⟩
        have hce : UInt8.ofNat (16 * x + y) = c := by
          apply UInt8.toNat_inj.1
          simp
          omega
        rw [hce] at HST
        have hcb : 16 * (x : Int) + (y : Int) = (c.toNat : Int) := hcz.symm
        clear hce hcz
        have hownq : OwnB w.heap.size (wr.drewN nq) _ acc := hown
        have hbq : Below w.heap.size w (wr.drewN nq) := ⟨hbel.os, hbel.tape, hbel.output, hbel.size, hbel.block⟩
        have hsq : w.heap.size ≤ (wr.drewN nq).heap.size := hsz
        clear hbel hsz hown
        generalize wr.drewN nq = wq at *
        go_wp2_with (at_builtin; go_must (refine wpl_byte wq w.heap.size rfl _ _ rfl _ acc c hownq rfl rfl hsq (by omega) ?_); intro v6 w6 hown6 hbel6 hsz6)
        go_roundg (n - (k + 1))
        case measure => omega
        case rel => exact ⟨j + 2, k + 1, acc ++ [c], by omega, by go_num, by have := HJ.out; omega, by omega, hown6, HST.out, hbq.trans hbel6, by omega⟩
    · obtain rfl : k = n := by omega
      have htk : s.data.toList.take (2 * k) = s.data.toList := List.take_of_length_le (by rw [HLL.out]; omega)
      rw [htk] at HUN
      have hcv := conv_bytes hown
      go_wp2_with fail
      go_ret2
      exact ⟨Kp.of_below hbel, .inr ⟨acc, HUN.out, rfl⟩⟩
theorem hash_any (s : ByteArray) (w : World) (hs : s.size ≤ 1000000) : Calls Tryd.prog 17 #[.string s] w (Hashed s w) := by
  by_cases h : s.size % 2 = 1
  · exact hash_odd s w hs h
  · exact hash_even s w (s.size / 2) hs (by omega)
end Go.Proofs.YthnfjkinliekoaaDoor
