/- Package pack: a number read from the front of bytes. · Package pack: the reader. -/
import Derived.Test.YtencpplopdogmaaDoorPkA
import Derived.Laws.BitsAllLaws
import Derived.Laws.BitsLemmas
import Derived.Laws.EntriesVeiled
namespace Go.Proofs.YtencpplopdogmaaDoor
set_option maxRecDepth 100000
open Go.RowKit
set_option linter.unusedVariables false

def unf (z : Nat) : Int := if z % 2 = 1 then -((z / 2 : Nat) : Int) - 1 else ((z / 2 : Nat) : Int)
def decG (i : Nat) : List UInt8 → Option (Nat × Nat)
  | [] => none
  | b :: rest =>
    if 10 ≤ i then none
    else if i = 9 ∧ 1 < b.toNat then none
    else if 128 ≤ b.toNat then (decG (i + 1) rest).map fun r => (b.toNat % 128 + 128 * r.1, r.2 + 1)
    else if b.toNat = 0 ∧ 0 < i then none
    else some (b.toNat, 1)
def decN (l : List UInt8) : Int × Nat := match decG 0 l with
  | none => (0, 0)
  | some r => (unf r.1, r.2)

set_option maxHeartbeats 400000 in
theorem unfolded_any (z : Nat) (w : World) (hz : z ≤ 18446744073709551615) :
    Calls Tryd.prog 71 #[.int .u64 z] w fun e w' => e = .returned (.int .i64 (unf z)) ∧ w = w' := by
  by_cases h : z % 2 = 1
  · have hb : ((z : Int) % 2 == 1) = true := by rw [beq_iff_eq]; omega
    go_enter Tryd.func71, Tryd.ntmps71
    go_wp2
    go_ret
    exact ⟨ret_int (by unfold unf; rw [if_pos h]; omega), rfl⟩
  · have hb : ((z : Int) % 2 == 1) = false := by rw [beq_eq_false_iff_ne]; omega
    go_enter Tryd.func71, Tryd.ntmps71
    go_wp2
    go_ret
    exact ⟨ret_int (by unfold unf; rw [if_neg h]; omega), rfl⟩

/-- What is read so far: acc, of the first i groups. -/
def DecRel (l : List UInt8) (i acc : Nat) : Prop := acc < 128 ^ i ∧ decG 0 l = (decG i (l.drop i)).map fun r => (acc + 128 ^ i * r.1, r.2 + i)

theorem DecRel.start (l : List UInt8) : DecRel l 0 0 := ⟨by decide, by
  cases h : decG 0 (l.drop 0) with
  | none => simp at h; simp [h]
  | some r => simp at h; simp [h]⟩
theorem drop_at {l : List UInt8} {k : Nat} {b : UInt8} (h : l[k]? = some b) : l.drop k = b :: l.drop (k + 1) := by
  obtain ⟨hk, rfl⟩ := List.getElem?_eq_some_iff.1 h
  exact List.drop_eq_getElem_cons hk
theorem DecRel.cont {l : List UInt8} {k acc : Nat} {b : UInt8} (h : DecRel l k acc) (hb : l[k]? = some b) (h10 : k < 9) (h128 : 128 ≤ b.toNat) : DecRel l (k + 1) (acc + 128 ^ k * (b.toNat % 128)) := by
  obtain ⟨h1, h2⟩ := h
  have hp : 128 ^ k * (b.toNat % 128) ≤ 128 ^ k * 127 := Nat.mul_le_mul_left _ (by omega)
  refine ⟨by rw [Nat.pow_succ]; omega, ?_⟩
  rw [h2, drop_at hb, decG, if_neg (by omega), if_neg (by omega), if_pos h128]
  cases decG (k + 1) (l.drop (k + 1)) with
  | none => rfl
  | some r =>
    simp only [Option.map_some, Option.some.injEq, Prod.mk.injEq]
    refine ⟨?_, by omega⟩
    rw [Nat.pow_succ, Nat.mul_add, Nat.mul_assoc]
    omega
theorem DecRel.fail {l : List UInt8} {k acc : Nat} (h : DecRel l k acc) (hn : decG k (l.drop k) = none) : decN l = (0, 0) := by
  unfold decN
  rw [h.2, hn]
  rfl
theorem DecRel.end_ {l : List UInt8} {k acc : Nat} {b : UInt8} (h : DecRel l k acc) (hb : l[k]? = some b) (h10 : k < 10) (h9 : ¬ (k = 9 ∧ 1 < b.toNat)) (h128 : ¬ 128 ≤ b.toNat) (h0 : ¬ (b.toNat = 0 ∧ 0 < k)) :
    decN l = (unf (acc + 128 ^ k * (b.toNat % 128)), k + 1) := by
  unfold decN
  rw [h.2, drop_at hb, decG, if_neg (by omega), if_neg h9, if_neg h128, if_neg h0]
  have e : b.toNat % 128 = b.toNat := by omega
  simp only [Option.map_some, e]
  rw [Nat.add_comm 1 k]
theorem fail_long {l : List UInt8} {k : Nat} (h : 10 ≤ k) : decG k (l.drop k) = none := by
  cases l.drop k with
  | nil => rfl
  | cons b r => rw [decG, if_pos h]
theorem fail_end {l : List UInt8} {k : Nat} (h : l.length ≤ k) : decG k (l.drop k) = none := by
  rw [List.drop_eq_nil_of_le h]; rfl
theorem fail_nine {l : List UInt8} {k : Nat} {b : UInt8} (hb : l[k]? = some b) (h : k = 9 ∧ 1 < b.toNat) : decG k (l.drop k) = none := by
  rw [drop_at hb, decG, if_neg (by omega), if_pos h]
theorem fail_zero {l : List UInt8} {k : Nat} {b : UInt8} (hb : l[k]? = some b) (h10 : k < 10) (h : b.toNat = 0 ∧ 0 < k) : decG k (l.drop k) = none := by
  rw [drop_at hb, decG, if_neg (by omega), if_neg (by omega), if_neg (by omega), if_pos h]
theorem pow_le9 {k : Nat} (h : k ≤ 9) : 128 ^ k ≤ 9223372036854775808 := by
  have e : (128 : Nat) ^ 9 = 9223372036854775808 := by decide
  rw [← e]
  exact Nat.pow_le_pow_right (by omega) h
theorem or_add {acc x k : Nat} (hk9 : k ≤ 9) (h : acc < 128 ^ k) (hx : 128 ^ k * x ≤ 18446744073709551615) :
    bits .or .u64 (acc : Int) (IntKind.u64.wrap ((x : Int) * 2 ^ (7 * k))) = ((acc + 128 ^ k * x : Nat) : Int) := by
  have hp : (2 : Nat) ^ (7 * k) = 128 ^ k := by rw [Nat.pow_mul]
  have hacc := pow_le9 hk9
  have e1 : (x : Int) * 2 ^ (7 * k) = ((128 ^ k * x : Nat) : Int) := by
    rw [← hp]
    push_cast
    exact Int.mul_comm _ _
  have e2 : IntKind.u64.wrap ((128 ^ k * x : Nat) : Int) = ((128 ^ k * x : Nat) : Int) := by rw [IntKind.wrap_u64]; omega
  rw [e1, e2, bits_or_u64_nat _ _ (by omega) (by omega)]
  congr 1
  have := Nat.shiftLeft_add_eq_or_of_lt (b := acc) (i := 7 * k) (by rw [hp]; exact h) x
  rw [Nat.shiftLeft_eq, hp] at this
  rw [Nat.or_comm, Nat.mul_comm (128 ^ k) x, ← this]
  omega

set_option maxRecDepth 100000 in
set_option maxHeartbeats 2000000 in
theorem number_to (s : ByteArray) (n : Int) (u : Nat) (w : World) (hd : decN s.data.toList = (n, u)) (hs : s.size ≤ 1000000000) :
    Calls Tryd.prog 57 #[.string s] w fun e w' => e = .returned (.tuple #[.int .i64 n, .int .i64 u]) ∧ w = w' := by
  have HD := Lib.hid hd
  clear hd
  go_enter Tryd.func57, Tryd.ntmps57
  go_wp2_with fail
  go_loopg [4, 5, 6] 10 (fun gk z i g wr => ∃ k acc : Nat, 10 - k ≤ gk ∧ i = .int .i64 k ∧ z = .int .u64 acc ∧ k ≤ 10 ∧ k ≤ s.size ∧ DecRel s.data.toList k acc ∧ w = wr)
  case atStart => exact ⟨0, 0, by omega, rfl, rfl, by omega, by omega, DecRel.start _, rfl⟩
  case round =>
    obtain ⟨k, acc, hgk, rfl, rfl, hk, hks, hrel, rfl⟩ := hrel
    by_cases hlt : k < s.size
    · obtain ⟨b, hb⟩ : ∃ b, s[k] = b := ⟨_, rfl⟩
      have hbl : s.data.toList[k]? = some b := by rw [List.getElem?_eq_getElem (by simpa using hlt), Array.getElem_toList]; exact congrArg some hb
      by_cases h10 : k < 10
      · have h10' : (k : Int) < 10 := by omega
        by_cases h9 : k = 9 ∧ 1 < b.toNat
        · have hz := HD.out.symm.trans (hrel.fail (fail_nine hbl h9))
          obtain ⟨rfl, hb1⟩ := h9
          injection hz with hz1 hz2
          subst hz1 hz2
          clear hbl hrel
          go_wp2_with fail
          go_ret2
          exact ⟨rfl, rfl⟩
        · have hk9 : k ≤ 9 := by omega
          have hpw := pow_le9 hk9
          have hacc := hrel.1
          have h9b : k = 9 → ¬ (1 : Int) < b.toNat := fun h => by omega
          have hxb : 128 ^ k * (b.toNat % 128) ≤ 18446744073709551615 - acc := by
            by_cases hk : k = 9
            · subst hk
              have e : (128 : Nat) ^ 9 = 9223372036854775808 := by decide
              rw [e] at hacc ⊢
              have : b.toNat % 128 ≤ 1 := by omega
              have := Nat.mul_le_mul_left 9223372036854775808 this
              omega
            · have hp8 : 128 ^ k ≤ 72057594037927936 := by
                have e : (128 : Nat) ^ 8 = 72057594037927936 := by decide
                rw [← e]
                exact Nat.pow_le_pow_right (by omega) (by omega)
              have : 128 ^ k * (b.toNat % 128) ≤ 72057594037927936 * 127 := Nat.mul_le_mul hp8 (by omega)
              omega
          have hor := or_add (x := b.toNat % 128) hk9 hacc (by omega)
          have hor' : bits .or .u64 (acc : Int) (IntKind.u64.wrap ((b.toNat : Int) % 128 * 2 ^ (7 * k))) = ((acc + 128 ^ k * (b.toNat % 128) : Nat) : Int) := by
            rw [← hor]; push_cast; rfl
          clear hor
          obtain ⟨ac2, hac2⟩ : ∃ a, acc + 128 ^ k * (b.toNat % 128) = a := ⟨_, rfl⟩
          rw [hac2] at hor'
          have hac2b : ac2 ≤ 18446744073709551615 := by omega
          clear hxb hpw hacc
          by_cases h128 : 128 ≤ b.toNat
          · have hk9' : k < 9 := by omega
            have hr2 := hrel.cont hbl hk9' h128
            rw [hac2] at hr2
            have hkb : ((k : Int) == 9) = false := by rw [beq_eq_false_iff_ne]; omega
            clear hac2 hrel hbl h9 h9b
            go_wp2_with fail
            go_roundg (10 - (k + 1))
            case measure => omega
            case rel => exact ⟨k + 1, ac2, by omega, by go_num, rfl, by omega, by omega, hr2, rfl⟩
          · by_cases h0 : b.toNat = 0 ∧ 0 < k
            · have hz := HD.out.symm.trans (hrel.fail (fail_zero hbl h10 h0))
              injection hz with hz1 hz2
              subst hz1 hz2
              have hg0 : ((b.toNat : Int) % 128 == 0) = true := by rw [beq_iff_eq]; omega
              have hg1 : ¬ (1 : Int) < b.toNat := by omega
              have hk0 := h0.2
              clear hbl hrel hac2 h9 h9b
              by_cases hk9' : k = 9
              · subst hk9'
                go_wp2_with fail
                go_ret2
                exact ⟨rfl, rfl⟩
              · have hkb : ((k : Int) == 9) = false := by rw [beq_eq_false_iff_ne]; omega
                go_wp2_with fail
                go_ret2
                exact ⟨rfl, rfl⟩
            · have hz := HD.out.symm.trans (hrel.end_ hbl h10 h9 h128 h0)
              rw [hac2] at hz
              injection hz with hz1 hz2
              subst hz1 hz2
              by_cases hb0 : b.toNat = 0
              · obtain rfl : k = 0 := by omega
                obtain rfl : acc = 0 := by have := hrel.1; simp at this; exact this
                obtain rfl : ac2 = 0 := by rw [← hac2, hb0]
                have hg0 : ((b.toNat : Int) % 128 == 0) = true := by rw [beq_iff_eq]; omega
                have hg2 : (b.toNat : Int) % 128 = 0 := by omega
                have hor0 : bits .or .u64 0 0 = 0 := by decide
                clear hbl hrel hac2 h9 h9b hor' hb0
                go_wp2_with fail
                refine (unfolded_any 0 _ (by omega)).mono ?_
                rintro e w2 ⟨rfl, rfl⟩
                go_wp2_with fail
                go_ret2
                exact ⟨rfl, rfl⟩
              · have hg0 : ((b.toNat : Int) % 128 == 0) = false := by rw [beq_eq_false_iff_ne]; omega
                have hg1 : k = 9 → ¬ (1 : Int) < b.toNat := fun h => by omega
                clear hbl hrel hac2 h9 h9b
                by_cases hk9' : k = 9
                · have hg2 := hg1 hk9'
                  have hkb : ((k : Int) == 9) = true := by rw [beq_iff_eq]; omega
                  clear hg1 hk9'
                  go_wp2_with fail
                  refine (unfolded_any ac2 _ hac2b).mono ?_
                  rintro e w2 ⟨rfl, rfl⟩
                  go_wp2_with fail
                  go_ret2
                  exact ⟨rfl, rfl⟩
                · have hkb : ((k : Int) == 9) = false := by rw [beq_eq_false_iff_ne]; omega
                  clear hg1
                  go_wp2_with fail
                  refine (unfolded_any ac2 _ hac2b).mono ?_
                  rintro e w2 ⟨rfl, rfl⟩
                  go_wp2_with fail
                  go_ret2
                  exact ⟨rfl, rfl⟩
      · have hz := HD.out.symm.trans (hrel.fail (fail_long (by omega)))
        injection hz with hz1 hz2
        subst hz1 hz2
        have hk10 : ¬ ((k : Int) < 10) := by omega
        clear hbl hrel
        go_wp2_with fail
        go_ret2
        exact ⟨rfl, rfl⟩
    · have hz := HD.out.symm.trans (hrel.fail (fail_end (by simp; omega)))
      injection hz with hz1 hz2
      subst hz1 hz2
      clear hrel
      go_wp2_with fail
      go_ret2
      exact ⟨rfl, rfl⟩
end Go.Proofs.YtencpplopdogmaaDoor
namespace Go.Proofs.YtencpplopdogmaaDoor
set_option maxRecDepth 100000
open Go.RowKit
set_option linter.unusedVariables false

def Rdr (w : World) (g : Nat) (s : ByteArray) (sp : Bool) : Prop := At w g 82 #[.string s, .bool sp]
theorem Rdr.cells {w : World} {g : Nat} {s : ByteArray} {sp : Bool} (h : Rdr w g s sp) :
    w.cell? ⟨g, 0, none⟩ = some (.string s) ∧ w.cell? ⟨g, 1, none⟩ = some (.bool sp) ∧ w.frozen? ⟨g, 0, none⟩ = false ∧ w.frozen? ⟨g, 1, none⟩ = false ∧ g < w.heap.size :=
  ⟨(At.cell h 0).trans rfl, (At.cell h 1).trans rfl, At.frozen h 0, At.frozen h 1, At.lt h⟩
def Rp (g : Nat) : Value := .pointer (some ⟨g, 0, none⟩)

set_option maxHeartbeats 400000 in
theorem read_any (s : ByteArray) (w : World) : Calls Tryd.prog 33 #[.string s] w fun e w' => e = .returned (.pointer (some ⟨w.heap.size, 0, none⟩)) ∧ Rdr w' w.heap.size s false ∧ Kp [] w w' := by
  go_enter Tryd.func33, Tryd.ntmps33
  go_wp2
  go_ret
  exact ⟨rfl, At.new _ _ _, (Kp.rfl_ _ _).alloc _⟩
set_option maxHeartbeats 400000 in
theorem good_any (g : Nat) (s : ByteArray) (sp : Bool) (w : World) (h : Rdr w g s sp) : Calls Tryd.prog 61 #[.pointer (some ⟨g, 0, none⟩)] w fun e w' => e = .returned (.bool (!sp)) ∧ w = w' := by
  obtain ⟨c0, c1, f0, f1, hlt⟩ := h.cells
  go_enter Tryd.func61, Tryd.ntmps61
  go_wp2
  go_ret
  exact ⟨rfl, rfl⟩
set_option maxHeartbeats 400000 in
theorem good_nil (w : World) : Calls Tryd.prog 61 #[.pointer none] w fun e w' => e = .returned (.bool false) ∧ w = w' := by
  go_enter Tryd.func61, Tryd.ntmps61
  go_wp2
  go_ret
  exact ⟨rfl, rfl⟩
set_option maxHeartbeats 400000 in
theorem left_any (g : Nat) (s : ByteArray) (sp : Bool) (w : World) (h : Rdr w g s sp) : Calls Tryd.prog 58 #[.pointer (some ⟨g, 0, none⟩)] w fun e w' => e = .returned (.int .i64 s.size) ∧ w = w' := by
  obtain ⟨c0, c1, f0, f1, hlt⟩ := h.cells
  go_enter Tryd.func58, Tryd.ntmps58
  go_wp2
  go_ret
  exact ⟨rfl, rfl⟩
set_option maxHeartbeats 400000 in
theorem left_nil (w : World) : Calls Tryd.prog 58 #[.pointer none] w fun e w' => e = .returned (.int .i64 0) ∧ w = w' := by
  go_enter Tryd.func58, Tryd.ntmps58
  go_wp2
  go_ret
  exact ⟨rfl, rfl⟩
set_option maxHeartbeats 400000 in
theorem spoil_any (g : Nat) (s : ByteArray) (sp : Bool) (w : World) (h : Rdr w g s sp) : Calls Tryd.prog 59 #[.pointer (some ⟨g, 0, none⟩)] w fun e w' => e = .returned (.tuple #[]) ∧ Rdr w' g s true ∧ Kp [g] w w' := by
  obtain ⟨c0, c1, f0, f1, hlt⟩ := h.cells
  go_enter Tryd.func59, Tryd.ntmps59
  go_wp2
  go_end0
  exact ⟨rfl, At.set h 1 _, (Kp.rfl_ _ _).set (by simp) _⟩
set_option maxHeartbeats 400000 in
theorem spoil_nil (w : World) : Calls Tryd.prog 59 #[.pointer none] w fun e w' => e = .returned (.tuple #[]) ∧ w = w' := by
  go_enter Tryd.func59, Tryd.ntmps59
  go_wp2
  go_end0
  exact ⟨rfl, rfl⟩
set_option maxHeartbeats 400000 in
theorem done_any (g : Nat) (s : ByteArray) (sp : Bool) (w : World) (h : Rdr w g s sp) : Calls Tryd.prog 37 #[.pointer (some ⟨g, 0, none⟩)] w fun e w' => e = .returned (.bool (!sp && s.size == 0)) ∧ w = w' := by
  cases sp
  all_goals
    go_enter Tryd.func37, Tryd.ntmps37
    go_wp2_with fail
    refine (good_any g s _ _ h).mono ?_
    rintro e w1 ⟨rfl, rfl⟩
    go_wp2_with (go_at_call 58; refine (left_any g s _ _ h).mono ?_; rintro e w1 ⟨rfl, rfl⟩)
    go_ret
    exact ⟨ret_bool (by first | rfl | (rw [Bool.eq_iff_iff]; simp)), rfl⟩
set_option maxHeartbeats 400000 in
theorem done_nil (w : World) : Calls Tryd.prog 37 #[.pointer none] w fun e w' => e = .returned (.bool false) ∧ w = w' := by
  go_enter Tryd.func37, Tryd.ntmps37
  go_wp2_with fail
  refine (good_nil _).mono ?_
  rintro e w1 ⟨rfl, rfl⟩
  go_wp2_with fail
  go_ret
  exact ⟨rfl, rfl⟩
set_option maxHeartbeats 1000000 in
theorem num_nil (w : World) : Calls Tryd.prog 34 #[.pointer none] w fun e w' => e = .returned (.int .i64 0) ∧ Kp [] w w' := by
  go_enter Tryd.func34, Tryd.ntmps34
  go_wp2_with (first | (go_at_call 61; refine (good_nil _).mono ?_; rintro e w1 ⟨rfl, rfl⟩) | go_in)
  refine bodyPost_ret (results_none rfl _ _ _) rfl ?_
  go_wp2_with fail
  go_ret
  exact ⟨rfl, (Kp.rfl_ _ _).alloc _⟩
set_option maxHeartbeats 1000000 in
theorem num_yes (g : Nat) (s : ByteArray) (n : Int) (u : Nat) (w : World) (h : Rdr w g s false) (hd : decN s.data.toList = (n, u)) (hu : 0 < u) (hus : u ≤ s.size) (hs : s.size ≤ 1000000000) :
    Calls Tryd.prog 34 #[.pointer (some ⟨g, 0, none⟩)] w fun e w' => e = .returned (.int .i64 n) ∧ Rdr w' g (s.extract u s.size) false ∧ Kp [g] w w' := by
  obtain ⟨c0, c1, f0, f1, hlt⟩ := h.cells
  have hne : g ≠ w.heap.size := by omega
  have h1 : Rdr (w.alloc (.cells #[.int .i64 0] 3)) g s false := At.alloc h _
  have HD := Lib.hid hd
  clear hd
  go_enter Tryd.func34, Tryd.ntmps34
  go_wp2_with (first | (go_at_call 61; refine (good_any g s _ _ h1).mono ?_; rintro e w1 ⟨rfl, rfl⟩) | (go_at_call 57; refine (number_to s n u _ HD.out hs).mono ?_; rintro e w1 ⟨rfl, rfl⟩) | go_in)
  go_end0
  go_wp2_with fail
  go_ret
  exact ⟨rfl, At.alloc (At.set h 0 _) _, ((Kp.rfl_ _ _).set (by simp) _).alloc _⟩
set_option maxHeartbeats 1000000 in
theorem num_no (g : Nat) (s : ByteArray) (w : World) (h : Rdr w g s false) (hd : decN s.data.toList = (0, 0)) (hs : s.size ≤ 1000000000) :
    Calls Tryd.prog 34 #[.pointer (some ⟨g, 0, none⟩)] w fun e w' => e = .returned (.int .i64 0) ∧ Rdr w' g s true ∧ Kp [g] w w' := by
  obtain ⟨c0, c1, f0, f1, hlt⟩ := h.cells
  have hne : g ≠ w.heap.size := by omega
  have h1 : Rdr (w.alloc (.cells #[.int .i64 0] 3)) g s false := At.alloc h _
  have HD := Lib.hid hd
  clear hd
  go_enter Tryd.func34, Tryd.ntmps34
  go_wp2_with (first | (go_at_call 61; refine (good_any g s _ _ h1).mono ?_; rintro e w1 ⟨rfl, rfl⟩) | (go_at_call 57; refine (number_to s 0 0 _ HD.out hs).mono ?_; rintro e w1 ⟨rfl, rfl⟩) | go_in)
  refine bodyPost_ret (results_none rfl _ _ _) rfl ?_
  go_wp2_with fail
  go_ret
  exact ⟨rfl, At.alloc (At.set h 1 _) _, ((Kp.rfl_ _ _).set (by simp) _).alloc _⟩
set_option maxHeartbeats 1000000 in
theorem num_bad (g : Nat) (s : ByteArray) (w : World) (h : Rdr w g s true) :
    Calls Tryd.prog 34 #[.pointer (some ⟨g, 0, none⟩)] w fun e w' => e = .returned (.int .i64 0) ∧ Rdr w' g s true ∧ Kp [g] w w' := by
  obtain ⟨c0, c1, f0, f1, hlt⟩ := h.cells
  have h1 : Rdr (w.alloc (.cells #[.int .i64 0] 3)) g s true := At.alloc h _
  go_enter Tryd.func34, Tryd.ntmps34
  go_wp2_with (first | (go_at_call 61; refine (good_any g s _ _ h1).mono ?_; rintro e w1 ⟨rfl, rfl⟩) | go_in)
  refine bodyPost_ret (results_none rfl _ _ _) rfl ?_
  go_wp2_with fail
  go_ret
  exact ⟨rfl, At.alloc h _, (Kp.rfl_ _ _).alloc _⟩
set_option maxHeartbeats 1000000 in
theorem text_nil (w : World) : Calls Tryd.prog 36 #[.pointer none] w fun e w' => e = .returned (.string ⟨#[]⟩) ∧ Kp [] w w' := by
  go_enter Tryd.func36, Tryd.ntmps36
  go_wp2_with (first | (go_at_call 61; refine (good_nil _).mono ?_; rintro e w1 ⟨rfl, rfl⟩) | go_in)
  refine bodyPost_ret (results_none rfl _ _ _) rfl ?_
  go_wp2_with fail
  go_ret
  exact ⟨rfl, (Kp.rfl_ _ _).alloc _⟩
set_option maxHeartbeats 1000000 in
theorem text_bad (g : Nat) (s : ByteArray) (w : World) (h : Rdr w g s true) :
    Calls Tryd.prog 36 #[.pointer (some ⟨g, 0, none⟩)] w fun e w' => e = .returned (.string ⟨#[]⟩) ∧ Rdr w' g s true ∧ Kp [g] w w' := by
  obtain ⟨c0, c1, f0, f1, hlt⟩ := h.cells
  have h1 : Rdr (w.alloc (.cells #[.string ⟨#[]⟩] 9)) g s true := At.alloc h _
  go_enter Tryd.func36, Tryd.ntmps36
  go_wp2_with (first | (go_at_call 61; refine (good_any g s _ _ h1).mono ?_; rintro e w1 ⟨rfl, rfl⟩) | go_in)
  refine bodyPost_ret (results_none rfl _ _ _) rfl ?_
  go_wp2_with fail
  go_ret
  exact ⟨rfl, At.alloc h _, (Kp.rfl_ _ _).alloc _⟩
/-- A number is there, and so many bytes behind it. -/
def TextOk (s : ByteArray) (n : Int) (u : Nat) : Prop := 0 < u ∧ u ≤ s.size ∧ 0 ≤ n ∧ n ≤ (s.size : Int) - u
set_option maxHeartbeats 1000000 in
theorem text_yes (g : Nat) (s : ByteArray) (n u : Nat) (w : World) (h : Rdr w g s false) (hd : decN s.data.toList = ((n : Int), u)) (hu : 0 < u) (hn : u + n ≤ s.size) (hs : s.size ≤ 1000000000) :
    Calls Tryd.prog 36 #[.pointer (some ⟨g, 0, none⟩)] w fun e w' => e = .returned (.string (s.extract u (u + n))) ∧ Rdr w' g (s.extract (u + n) s.size) false ∧ Kp [g] w w' := by
  obtain ⟨c0, c1, f0, f1, hlt⟩ := h.cells
  have hne : g ≠ w.heap.size := by omega
  have h1 : Rdr (w.alloc (.cells #[.string ⟨#[]⟩] 9)) g s false := At.alloc h _
  have HD := Lib.hid hd
  have hub : ((u : Int) == 0) = false := by rw [beq_eq_false_iff_ne]; omega
  clear hd
  go_enter Tryd.func36, Tryd.ntmps36
  go_wp2_with (first | (go_at_call 61; refine (good_any g s _ _ h1).mono ?_; rintro e w1 ⟨rfl, rfl⟩) | (go_at_call 57; refine (number_to s n u _ HD.out hs).mono ?_; rintro e w1 ⟨rfl, rfl⟩) | go_in)
  go_end0
  go_wp2_with fail
  go_ret
  exact ⟨rfl, At.alloc (At.set h 0 _) _, ((Kp.rfl_ _ _).set (by simp) _).alloc _⟩
set_option maxHeartbeats 1000000 in
theorem text_no (g : Nat) (s : ByteArray) (n : Int) (u : Nat) (w : World) (h : Rdr w g s false) (hd : decN s.data.toList = (n, u)) (hno : u = 0 ∨ (0 < u ∧ n < 0) ∨ (0 < u ∧ 0 ≤ n ∧ (s.size : Int) - u < n)) (hus : u ≤ s.size) (hs : s.size ≤ 1000000000) :
    Calls Tryd.prog 36 #[.pointer (some ⟨g, 0, none⟩)] w fun e w' => e = .returned (.string ⟨#[]⟩) ∧ Rdr w' g s true ∧ Kp [g] w w' := by
  obtain ⟨c0, c1, f0, f1, hlt⟩ := h.cells
  have hne : g ≠ w.heap.size := by omega
  have h1 : Rdr (w.alloc (.cells #[.string ⟨#[]⟩] 9)) g s false := At.alloc h _
  have HD := Lib.hid hd
  clear hd
  rcases hno with h0 | ⟨h0, h2⟩ | ⟨h0, h2, h3⟩
  · have hub : ((u : Int) == 0) = true := by rw [beq_iff_eq]; omega
    clear h0
    go_enter Tryd.func36, Tryd.ntmps36
    go_wp2_with (first | (go_at_call 61; refine (good_any g s _ _ h1).mono ?_; rintro e w1 ⟨rfl, rfl⟩) | (go_at_call 57; refine (number_to s n u _ HD.out hs).mono ?_; rintro e w1 ⟨rfl, rfl⟩) | go_in)
    refine bodyPost_ret (results_none rfl _ _ _) rfl ?_
    go_wp2_with fail
    go_ret
    exact ⟨rfl, At.alloc (At.set h 1 _) _, ((Kp.rfl_ _ _).set (by simp) _).alloc _⟩
  · have hub : ((u : Int) == 0) = false := by rw [beq_eq_false_iff_ne]; omega
    go_enter Tryd.func36, Tryd.ntmps36
    go_wp2_with (first | (go_at_call 61; refine (good_any g s _ _ h1).mono ?_; rintro e w1 ⟨rfl, rfl⟩) | (go_at_call 57; refine (number_to s n u _ HD.out hs).mono ?_; rintro e w1 ⟨rfl, rfl⟩) | go_in)
    refine bodyPost_ret (results_none rfl _ _ _) rfl ?_
    go_wp2_with fail
    go_ret
    exact ⟨rfl, At.alloc (At.set h 1 _) _, ((Kp.rfl_ _ _).set (by simp) _).alloc _⟩
  · have hub : ((u : Int) == 0) = false := by rw [beq_eq_false_iff_ne]; omega
    go_enter Tryd.func36, Tryd.ntmps36
    go_wp2_with (first | (go_at_call 61; refine (good_any g s _ _ h1).mono ?_; rintro e w1 ⟨rfl, rfl⟩) | (go_at_call 57; refine (number_to s n u _ HD.out hs).mono ?_; rintro e w1 ⟨rfl, rfl⟩) | go_in)
    refine bodyPost_ret (results_none rfl _ _ _) rfl ?_
    go_wp2_with fail
    go_ret
    exact ⟨rfl, At.alloc (At.set h 1 _) _, ((Kp.rfl_ _ _).set (by simp) _).alloc _⟩
end Go.Proofs.YtencpplopdogmaaDoor
