/- The document's own reader; a count. · The document's own reader: a text, a count; the program's count. -/
import Derived.Test.YtencpplopdogmaaDoorGc
import Derived.BigQuiet
import Derived.Deep.QuietTactic
namespace Go.Proofs.YtencpplopdogmaaDoor
set_option maxRecDepth 100000
open Go.RowKit
set_option linter.unusedVariables false

def Rrd (w : World) (g : Nat) (s : ByteArray) (k : Nat) (b : Bool) : Prop := At w g 63 #[.string s, .int .i64 k, .bool b]
theorem Rrd.cells {w : World} {g : Nat} {s : ByteArray} {k : Nat} {b : Bool} (h : Rrd w g s k b) :
    w.cell? ⟨g, 0, none⟩ = some (.string s) ∧ w.cell? ⟨g, 1, none⟩ = some (.int .i64 k) ∧ w.cell? ⟨g, 2, none⟩ = some (.bool b) ∧ w.frozen? ⟨g, 1, none⟩ = false ∧ w.frozen? ⟨g, 2, none⟩ = false ∧ g < w.heap.size :=
  ⟨(At.cell h 0).trans rfl, (At.cell h 1).trans rfl, (At.cell h 2).trans rfl, At.frozen h 1, At.frozen h 2, At.lt h⟩

set_option maxHeartbeats 1000000 in
theorem rdone_any (g : Nat) (s : ByteArray) (k : Nat) (b : Bool) (w : World) (h : Rrd w g s k b) :
    Calls Tryd.prog 40 #[.pointer (some ⟨g, 0, none⟩)] w fun e w' => e = .returned (.bool (!b && k == s.size)) ∧ ∃ m, w' = w.drewN m := by
  obtain ⟨c0, c1, c2, f1, f2, hlt⟩ := h.cells
  cases b
  · go_enter Tryd.func40, Tryd.ntmps40
    go_wp2_with fail
    go_quiet (fail)
    go_wp2_with fail
    go_ret
    exact ⟨ret_bool (by first | rfl | (rw [Bool.eq_iff_iff]; simp; omega)), _, rfl⟩
  · go_enter Tryd.func40, Tryd.ntmps40
    go_wp2_with fail
    go_quiet (fail)
    go_wp2_with fail
    go_ret
    exact ⟨ret_bool (by simp), _, rfl⟩
set_option maxHeartbeats 1000000 in
theorem rrnum_bad (g : Nat) (s : ByteArray) (k : Nat) (w : World) (h : Rrd w g s k true) :
    Calls Tryd.prog 38 #[.pointer (some ⟨g, 0, none⟩)] w fun e w' => e = .returned (.int .i64 0) ∧ w = w' := by
  obtain ⟨c0, c1, c2, f1, f2, hlt⟩ := h.cells
  go_enter Tryd.func38, Tryd.ntmps38
  go_wp2_with fail
  go_ret
  exact ⟨rfl, rfl⟩

theorem Rrd.adv {w : World} {g : Nat} {s : ByteArray} {k k' : Nat} {b : Bool} {z : Int} (h : Rrd w g s k b) (hz : z = (k' : Int)) : Rrd (w.setCell ⟨g, 1, none⟩ (.int .i64 z)) g s k' b := by
  subst hz
  exact At.set h 1 _
theorem Rrd.spoil {w : World} {g : Nat} {s : ByteArray} {k : Nat} {b : Bool} (h : Rrd w g s k b) : Rrd (w.setCell ⟨g, 2, none⟩ (.bool true)) g s k true := At.set h 2 _
theorem idx_list {s : ByteArray} {i : Nat} (h : i < s.size) : s.data.toList[i]? = some s[i] := by
  rw [List.getElem?_eq_getElem (by simpa using h), Array.getElem_toList]; rfl
theorem pow_step {j : Nat} (h : j < 9) : 128 ^ j * 128 ≤ 9223372036854775808 := by
  have e : (128 : Nat) ^ 9 = 9223372036854775808 := by decide
  rw [← Nat.pow_succ, ← e]
  exact Nat.pow_le_pow_right (by omega) (by omega)
/-- What a number of groups may add. -/
theorem add_le {acc j x : Nat} (h : acc < 128 ^ j) (hj : j ≤ 9) (hx : x < 128) (h9 : j = 9 → x ≤ 1) : acc + 128 ^ j * x ≤ 18446744073709551615 := by
  by_cases hk : j = 9
  · subst hk
    have e : (128 : Nat) ^ 9 = 9223372036854775808 := by decide
    rw [e] at h ⊢
    have := Nat.mul_le_mul_left 9223372036854775808 (h9 rfl)
    omega
  · have hp8 : 128 ^ j ≤ 72057594037927936 := by
      have e : (128 : Nat) ^ 8 = 72057594037927936 := by decide
      rw [← e]
      exact Nat.pow_le_pow_right (by omega) (by omega)
    have : 128 ^ j * x ≤ 72057594037927936 * 127 := Nat.mul_le_mul hp8 (by omega)
    omega

set_option maxRecDepth 100000 in
set_option maxHeartbeats 4000000 in
theorem rrnum_to (g : Nat) (s : ByteArray) (k : Nat) (n : Int) (u : Nat) (w : World) (h : Rrd w g s k false) (hd : decN (s.data.toList.drop k) = (n, u)) (hk : k ≤ s.size) (hs : s.size ≤ 1000000000) :
    Calls Tryd.prog 38 #[.pointer (some ⟨g, 0, none⟩)] w fun e w' => e = .returned (.int .i64 n) ∧ Rrd w' g s (k + u) (u == 0) ∧ Kp [g] w w' := by
  obtain ⟨c0, c1, c2, f1, f2, hlt⟩ := h.cells
  have HD := Lib.hid hd
  clear hd
  go_enter Tryd.func38, Tryd.ntmps38
  go_wp2_with fail
  go_loopg [3, 4, 5] 10 (fun gk z un i wr => ∃ j acc q : Nat, 10 - j ≤ gk ∧ i = .int .i64 j ∧ z = .int .u64 acc ∧ un = .int .u64 q ∧ j ≤ 9 ∧ k + j ≤ s.size ∧ DecRel (s.data.toList.drop k) j acc ∧ 128 ^ j = q ∧ Rrd wr g s k false ∧ Kp [g] w wr)
  case atStart => exact ⟨0, 0, 1, by omega, rfl, rfl, rfl, by omega, by omega, DecRel.start _, rfl, h, Kp.rfl_ _ _⟩
  case round =>
    clear c0 c1 c2 f1 f2 hlt h
    obtain ⟨j, acc, q, hgk, rfl, rfl, rfl, hj, hkj, hrel, hq, hr, hkp⟩ := hrel
    obtain ⟨c0, c1, c2, f1, f2, hlt⟩ := hr.cells
    have HQ := Lib.hid hq
    clear hq
    have hw1 : IntKind.i64.wrap ((k : Int) + (j : Int)) = (k : Int) + (j : Int) := IntWalk.i64_in _ (by omega)
    by_cases hin : k + j < s.size
    · have hin' : (k : Int) + (j : Int) < (s.size : Int) := by omega
      have hj10 : (j : Int) < 10 := by omega
      obtain ⟨b, hb⟩ : ∃ b, s[k + j] = b := ⟨_, rfl⟩
      have hbl : (s.data.toList.drop k)[j]? = some b := by rw [List.getElem?_drop, idx_list hin, hb]
      go_wp2_with fail
      go_quiet (fail)
      have hrq : Rrd (wr.drewN nq) g s k false := hr
      have hkq := hkp.drewN nq
      clear hr hkp c0 c1 c2 f1 f2 hlt
      generalize wr.drewN nq = wq at *
      obtain ⟨c0, c1, c2, f1, f2, hlt⟩ := hrq.cells
      have hwb : IntKind.u64.wrap (b.toNat : Int) = (b.toNat : Int) := by have := b.toNat_lt; rw [IntKind.wrap_u64]; omega
      have hi0 : (0 : Int) ≤ (k : Int) + (j : Int) := by omega
      have hi1 : ((k : Int) + (j : Int)).toNat = k + j := by omega
      go_wp2_with fail
      go_quiet (fail)
      have hrq2 : Rrd (wq.drewN nq) g s k false := hrq
      have hkq2 := hkq.drewN nq
      clear hrq hkq c0 c1 c2 f1 f2 hlt hi0 hi1 hb hw1
      generalize wq.drewN nq = wp at *
      obtain ⟨c0, c1, c2, f1, f2, hlt⟩ := hrq2.cells
      by_cases h9 : j = 9 ∧ 1 < b.toNat
      · have hz := HD.out.symm.trans (hrel.fail (fail_nine hbl h9))
        injection hz with hz1 hz2
        subst hz1 hz2
        have h91 : ((j : Int) == 9) = true := by rw [beq_iff_eq]; omega
        have h92 := h9.2
        clear hbl hrel h9
        go_wp2_with fail
        go_ret
        exact ⟨rfl, hrq2.spoil, hkq2.set (by simp) _⟩
      · have hbt := b.toNat_lt
        obtain ⟨x, hx⟩ : ∃ x, b.toNat % 128 = x := ⟨_, rfl⟩
        have hadd : acc + 128 ^ j * (b.toNat % 128) ≤ 18446744073709551615 := add_le hrel.1 hj (by omega) (by omega)
        obtain ⟨y, hy⟩ : ∃ y, 128 ^ j * (b.toNat % 128) = y := ⟨_, rfl⟩
        rw [hy] at hadd
        have hm : IntKind.u64.wrap ((b.toNat : Int) % 128 * (q : Int)) = (y : Int) := by
          have e : (b.toNat : Int) % 128 * (q : Int) = (y : Int) := by
            rw [← hy, HQ.out, Nat.mul_comm q]; push_cast; rfl
          rw [e, IntKind.wrap_u64]; omega
        obtain ⟨ac2, hac⟩ : ∃ z, acc + y = z := ⟨_, rfl⟩
        have hm2 : IntKind.u64.wrap ((acc : Int) + (y : Int)) = (ac2 : Int) := by rw [IntKind.wrap_u64]; omega
        obtain ⟨q2, hq2⟩ : ∃ z : Int, IntKind.u64.wrap ((q : Int) * 128) = z := ⟨_, rfl⟩
        have hac2 : ac2 ≤ 18446744073709551615 := by omega
        have h9c : j = 9 → ¬ (1 : Int) < b.toNat := fun h => by omega
        by_cases h128 : 128 ≤ b.toNat
        · have hj9 : j < 9 := by omega
          have hr2 := hrel.cont hbl hj9 h128
          rw [hy, hac] at hr2
          have hps := pow_step hj9
          have hpq : 128 ^ (j + 1) = q * 128 := by rw [Nat.pow_succ, HQ.out]
          have hm3 : q2 = ((q * 128 : Nat) : Int) := by rw [← hq2, IntKind.wrap_u64]; rw [HQ.out] at hps; omega
          have HPQ := Lib.hid hpq
          subst hm3
          have h91 : ((j : Int) == 9) = false := by rw [beq_eq_false_iff_ne]; omega
          have h128' : ¬ (b.toNat : Int) < 128 := by omega
          clear hpq hps hbl hrel h9 h9c hy hac hx
          go_wp2_with fail
          go_roundg (10 - (j + 1))
          case measure => omega
          case rel => exact ⟨j + 1, ac2, q * 128, by omega, by go_num, rfl, rfl, by omega, by omega, hr2, HPQ.out, hrq2, hkq2⟩
        · by_cases h0 : b.toNat = 0 ∧ 0 < j
          · have hz := HD.out.symm.trans (hrel.fail (fail_zero hbl (by omega) h0))
            injection hz with hz1 hz2
            subst hz1 hz2
            have h128' : (b.toNat : Int) < 128 := by omega
            have h01 : ((b.toNat : Int) == 0) = true := by rw [beq_iff_eq]; omega
            have h02 : (0 : Int) < j := by omega
            have h03 := h0.2
            have h1b : ¬ (1 : Int) < b.toNat := by omega
            clear hbl hrel h9 h9c hy hac hx h0
            by_cases h9' : j = 9
            · have h91 : ((j : Int) == 9) = true := by rw [beq_iff_eq]; omega
              clear h9'
              go_wp2_with fail
              go_ret
              exact ⟨rfl, hrq2.spoil, hkq2.set (by simp) _⟩
            · have h91 : ((j : Int) == 9) = false := by rw [beq_eq_false_iff_ne]; omega
              clear h9'
              go_wp2_with fail
              go_ret
              exact ⟨rfl, hrq2.spoil, hkq2.set (by simp) _⟩
          · have hz := HD.out.symm.trans (hrel.end_ hbl (by omega) h9 h128 h0)
            rw [hy, hac] at hz
            injection hz with hz1 hz2
            subst hz1 hz2
            have h128' : (b.toNat : Int) < 128 := by omega
            have hcase : (j = 9 ∧ ¬ (1 : Int) < b.toNat ∧ ((j : Int) == 9) = true) ∨ ((j : Int) == 9) = false := by
              by_cases h : j = 9
              · exact .inl ⟨h, by omega, by rw [beq_iff_eq]; omega⟩
              · exact .inr (by rw [beq_eq_false_iff_ne]; omega)
            have hcas0 : ((0 : Int) < j ∧ 0 < j ∧ ((b.toNat : Int) == 0) = false) ∨ (¬ (0 : Int) < j ∧ ¬ 0 < j) := by
              by_cases h : 0 < j
              · exact .inl ⟨by omega, h, by rw [beq_eq_false_iff_ne]; omega⟩
              · exact .inr ⟨by omega, h⟩
            have hodd : (ac2 % 2 = 1 ∧ ((ac2 : Int) % 2 == 1) = true) ∨ (¬ ac2 % 2 = 1 ∧ ((ac2 : Int) % 2 == 1) = false) := by
              by_cases h : ac2 % 2 = 1
              · exact .inl ⟨h, by rw [beq_iff_eq]; omega⟩
              · exact .inr ⟨h, by rw [beq_eq_false_iff_ne]; omega⟩
            clear hbl hrel h9 h9c hy hac hx h0 h128
            rcases hcase with ⟨h90, h92, h93⟩ | h91 <;> rcases hcas0 with ⟨h01, h02, h03⟩ | ⟨h01, h02⟩ <;> rcases hodd with ⟨ho, ho2⟩ | ⟨ho, ho2⟩
            all_goals
              try (have H90 := Lib.hid h90; clear h90)
              go_wp2_with fail
              go_ret
              try have h90 := H90.out
              exact ⟨ret_int (by unfold unf; (first | rw [if_pos ho] | rw [if_neg ho]); omega), hrq2.adv (by omega), hkq2.set (by simp) _⟩
    · have hz := HD.out.symm.trans (hrel.fail (fail_end (by simp; omega)))
      injection hz with hz1 hz2
      subst hz1 hz2
      have hin' : ¬ (k : Int) + (j : Int) < (s.size : Int) := by omega
      have hind : decide ((k : Int) + (j : Int) < (s.size : Int)) = false := by simpa using hin'
      have hj10 : (j : Int) < 10 := by omega
      clear hrel
      go_wp2_with fail
      go_quiet (fail)
      have hrq : Rrd (wr.drewN nq) g s k false := hr
      have hkq := hkp.drewN nq
      clear hr hkp c0 c1 c2 f1 f2 hlt
      generalize wr.drewN nq = wq at *
      obtain ⟨c0, c1, c2, f1, f2, hlt⟩ := hrq.cells
      go_wp2_with fail
      go_ret
      exact ⟨rfl, hrq.spoil, hkq.set (by simp) _⟩
end Go.Proofs.YtencpplopdogmaaDoor
namespace Go.Proofs.YtencpplopdogmaaDoor
set_option maxRecDepth 100000
open Go.RowKit
set_option linter.unusedVariables false

/-- What a text is refused for. -/
def NoText (s : ByteArray) (k : Nat) (n : Int) (u : Nat) : Prop := u = 0 ∨ n < 0 ∨ (s.size : Int) - ((k + u : Nat) : Int) < n
def RText (g : Nat) (s : ByteArray) (w : World) (e : Ending) (w' : World) : Prop := e = .returned (.string ⟨#[]⟩) ∧ (∃ k, Rrd w' g s k true) ∧ Kp [g] w w'
def RCount (g : Nat) (s : ByteArray) (w : World) (e : Ending) (w' : World) : Prop := e = .returned (.int .i64 0) ∧ (∃ k, Rrd w' g s k true) ∧ Kp [g] w w'

set_option maxHeartbeats 2000000 in
theorem rrtext_bad (g : Nat) (s : ByteArray) (k : Nat) (w : World) (h : Rrd w g s k true) :
    Calls Tryd.prog 39 #[.pointer (some ⟨g, 0, none⟩)] w (RText g s w) := by
  go_enter Tryd.func39, Tryd.ntmps39
  go_wp2_with fail
  refine (rrnum_bad g s k _ h).mono ?_
  rintro e w1 ⟨rfl, rfl⟩
  obtain ⟨c0, c1, c2, f1, f2, hlt⟩ := h.cells
  go_wp2_with fail
  go_quiet (fail)
  have hq : Rrd (w.drewN nq) g s k true := h
  have hkq : Kp [] w (w.drewN nq) := (Kp.rfl_ _ _).drewN _
  clear c0 c1 c2 f1 f2 hlt
  generalize w.drewN nq = wq at *
  obtain ⟨c0, c1, c2, f1, f2, hlt⟩ := hq.cells
  go_wp2_with fail
  go_ret
  exact ⟨rfl, ⟨k, hq.spoil⟩, (hkq.mono (T := [g]) (by simp)).set (by simp) _⟩
set_option maxHeartbeats 4000000 in
theorem rrtext_no (g : Nat) (s : ByteArray) (k : Nat) (n : Int) (u : Nat) (w : World) (h : Rrd w g s k false) (hd : decN (s.data.toList.drop k) = (n, u)) (hno : NoText s k n u) (hn1 : -9223372036854775808 ≤ n) (hn2 : n ≤ 9223372036854775807) (hk : k + u ≤ s.size) (hs : s.size ≤ 1000000000) :
    Calls Tryd.prog 39 #[.pointer (some ⟨g, 0, none⟩)] w (RText g s w) := by
  have HD := Lib.hid hd
  clear hd
  have hc : u = 0 ∨ (¬ u = 0 ∧ n < 0) ∨ (¬ u = 0 ∧ ¬ n < 0 ∧ (s.size : Int) - ((k + u : Nat) : Int) < n) := by unfold NoText at hno; omega
  clear hno
  rcases hc with hu | ⟨hu, hc⟩ | ⟨hu, hc, hc2⟩
  · subst hu
    go_enter Tryd.func39, Tryd.ntmps39
    go_wp2_with fail
    refine (rrnum_to g s k n 0 _ h HD.out (by omega) hs).mono ?_
    rintro e w1 ⟨rfl, h1, hk1⟩
    have h2 : Rrd w1 g s k true := h1
    clear h1 h
    obtain ⟨c0, c1, c2, f1, f2, hlt⟩ := h2.cells
    go_wp2_with fail
    go_quiet (fail)
    have hq : Rrd (w1.drewN nq) g s k true := h2
    have hkq := hk1.drewN nq
    clear c0 c1 c2 f1 f2 hlt h2 hk1
    generalize w1.drewN nq = wq at *
    obtain ⟨c0, c1, c2, f1, f2, hlt⟩ := hq.cells
    go_wp2_with fail
    go_ret
    exact ⟨rfl, ⟨k, hq.spoil⟩, hkq.set (by simp) _⟩
  · go_enter Tryd.func39, Tryd.ntmps39
    go_wp2_with fail
    refine (rrnum_to g s k n u _ h HD.out (by omega) hs).mono ?_
    rintro e w1 ⟨rfl, h1, hk1⟩
    have hub : (u == 0) = false := by rw [beq_eq_false_iff_ne]; exact hu
    rw [hub] at h1
    clear h hub
    generalize k + u = K at *
    obtain ⟨c0, c1, c2, f1, f2, hlt⟩ := h1.cells
    go_wp2_with fail
    go_quiet (fail)
    have hq : Rrd (w1.drewN nq) g s K false := h1
    have hkq := hk1.drewN nq
    clear c0 c1 c2 f1 f2 hlt h1 hk1
    generalize w1.drewN nq = wq at *
    obtain ⟨c0, c1, c2, f1, f2, hlt⟩ := hq.cells
    go_wp2_with fail
    go_ret
    exact ⟨rfl, ⟨K, hq.spoil⟩, hkq.set (by simp) _⟩
  · go_enter Tryd.func39, Tryd.ntmps39
    go_wp2_with fail
    refine (rrnum_to g s k n u _ h HD.out (by omega) hs).mono ?_
    rintro e w1 ⟨rfl, h1, hk1⟩
    have hub : (u == 0) = false := by rw [beq_eq_false_iff_ne]; exact hu
    rw [hub] at h1
    clear h hub
    generalize k + u = K at *
    obtain ⟨c0, c1, c2, f1, f2, hlt⟩ := h1.cells
    have hw1 : IntKind.i64.wrap ((s.size : Int) - (K : Int)) = (s.size : Int) - (K : Int) := IntWalk.i64_in _ (by omega)
    go_wp2_with fail
    go_quiet (fail)
    have hq : Rrd (w1.drewN nq) g s K false := h1
    have hkq := hk1.drewN nq
    clear c0 c1 c2 f1 f2 hlt h1 hk1 hw1
    generalize w1.drewN nq = wq at *
    obtain ⟨c0, c1, c2, f1, f2, hlt⟩ := hq.cells
    go_wp2_with fail
    go_ret
    exact ⟨rfl, ⟨K, hq.spoil⟩, hkq.set (by simp) _⟩
set_option maxHeartbeats 4000000 in
theorem rrtext_yes (g : Nat) (s t : ByteArray) (k m u K : Nat) (w : World) (h : Rrd w g s k false) (hd : decN (s.data.toList.drop k) = ((m : Int), u)) (hu : 0 < u) (hK : k + u = K) (hm : K + m ≤ s.size) (hs : s.size ≤ 1000000000) (ht : s.extract K (K + m) = t) :
    Calls Tryd.prog 39 #[.pointer (some ⟨g, 0, none⟩)] w fun e w' => e = .returned (.string t) ∧ Rrd w' g s (K + m) false ∧ Kp [g] w w' := by
  have HD := Lib.hid hd
  have HK := Lib.hid hK
  have HT := Lib.hid ht
  have hk : k ≤ s.size := by omega
  clear hd hK ht
  go_enter Tryd.func39, Tryd.ntmps39
  go_wp2_with fail
  refine (rrnum_to g s k m u _ h HD.out hk hs).mono ?_
  rintro e w1 ⟨rfl, h1, hk1⟩
  have hub : (u == 0) = false := by rw [beq_eq_false_iff_ne]; omega
  rw [hub, HK.out] at h1
  clear h hub HD HK hk
  obtain ⟨c0, c1, c2, f1, f2, hlt⟩ := h1.cells
  have hw1 : IntKind.i64.wrap ((s.size : Int) - (K : Int)) = (s.size : Int) - (K : Int) := IntWalk.i64_in _ (by omega)
  have hm0 : ¬ (m : Int) < 0 := by omega
  have hm1 : ¬ (s.size : Int) - (K : Int) < (m : Int) := by omega
  go_wp2_with fail
  go_quiet (fail)
  have hq : Rrd (w1.drewN nq) g s K false := h1
  have hkq := hk1.drewN nq
  clear c0 c1 c2 f1 f2 hlt h1 hk1 hw1
  generalize w1.drewN nq = wq at *
  obtain ⟨c0, c1, c2, f1, f2, hlt⟩ := hq.cells
  have hw2 : IntKind.i64.wrap ((K : Int) + (m : Int)) = (K : Int) + (m : Int) := IntWalk.i64_in _ (by omega)
  have i1 : (0 : Int) ≤ (K : Int) := by omega
  have i2 : (K : Int) ≤ (K : Int) + (m : Int) := by omega
  have i3 : (K : Int) + (m : Int) ≤ (s.size : Int) := by omega
  have i4 : ((K : Int) + (m : Int)).toNat = K + m := by omega
  have i5 : (0 : Int) ≤ (m : Int) := by omega
  go_wp2_with fail
  go_quiet (fail)
  have hq2 : Rrd (wq.drewN nq) g s K false := hq
  have hkq2 := hkq.drewN nq
  clear c0 c1 c2 f1 f2 hlt hq hkq i1 i2 i3 i4 i5
  generalize wq.drewN nq = wp at *
  obtain ⟨c0, c1, c2, f1, f2, hlt⟩ := hq2.cells
  go_wp2_with fail
  go_ret
  exact ⟨by rw [← HT.out]; rfl, hq2.adv (by omega), hkq2.set (by simp) _⟩

/-- The program's count. -/
def PCount (g : Nat) (w : World) (e : Ending) (w' : World) : Prop := e = .returned (.int .i64 0) ∧ (∃ r, Rdr w' g r true) ∧ Kp [g] w w'
set_option maxHeartbeats 2000000 in
theorem count_bad (g : Nat) (r : ByteArray) (w : World) (h : Rdr w g r true) :
    Calls Tryd.prog 35 #[.pointer (some ⟨g, 0, none⟩)] w (PCount g w) := by
  go_enter Tryd.func35, Tryd.ntmps35
  go_wp2_with fail
  refine (num_bad g r _ h).mono ?_
  rintro e w1 ⟨rfl, h1, hk1⟩
  go_wp2_with fail
  refine (left_any g _ _ _ h1).mono ?_
  rintro e w2 ⟨rfl, rfl⟩
  go_wp2_with fail
  go_ret
  exact ⟨rfl, ⟨_, h1⟩, hk1⟩
set_option maxHeartbeats 2000000 in
theorem count_no0 (g : Nat) (s : ByteArray) (w : World) (h : Rdr w g s false) (hd : decN s.data.toList = (0, 0)) (hs : s.size ≤ 1000000000) :
    Calls Tryd.prog 35 #[.pointer (some ⟨g, 0, none⟩)] w (PCount g w) := by
  have HD := Lib.hid hd
  clear hd
  go_enter Tryd.func35, Tryd.ntmps35
  go_wp2_with fail
  refine (num_no g s _ h HD.out hs).mono ?_
  rintro e w1 ⟨rfl, h1, hk1⟩
  go_wp2_with fail
  refine (left_any g _ _ _ h1).mono ?_
  rintro e w2 ⟨rfl, rfl⟩
  go_wp2_with fail
  go_ret
  exact ⟨rfl, ⟨_, h1⟩, hk1⟩
set_option maxHeartbeats 2000000 in
theorem count_no (g : Nat) (s r : ByteArray) (n : Int) (u : Nat) (w : World) (h : Rdr w g s false) (hd : decN s.data.toList = (n, u)) (hu : 0 < u) (hus : u ≤ s.size) (hr : s.extract u s.size = r) (hno : n < 0 ∨ (¬ n < 0 ∧ (r.size : Int) < n)) (hs : s.size ≤ 1000000000) :
    Calls Tryd.prog 35 #[.pointer (some ⟨g, 0, none⟩)] w (PCount g w) := by
  have HD := Lib.hid hd
  have HR := Lib.hid hr
  clear hd hr
  rcases hno with hno | ⟨hno, hn2⟩
  · go_enter Tryd.func35, Tryd.ntmps35
    go_wp2_with fail
    refine (num_to g s r n u _ h HD.out hu hus hs HR.out).mono ?_
    rintro e w1 ⟨rfl, h1, hk1⟩
    go_wp2_with fail
    refine (spoil_any g r _ _ h1).mono ?_
    rintro e w2 ⟨rfl, h2, hk2⟩
    go_wp2_with fail
    go_ret
    exact ⟨rfl, ⟨_, h2⟩, hk1.trans hk2⟩
  · go_enter Tryd.func35, Tryd.ntmps35
    go_wp2_with fail
    refine (num_to g s r n u _ h HD.out hu hus hs HR.out).mono ?_
    rintro e w1 ⟨rfl, h1, hk1⟩
    go_wp2_with fail
    refine (left_any g _ _ _ h1).mono ?_
    rintro e w2 ⟨rfl, rfl⟩
    go_wp2_with fail
    refine (spoil_any g r _ _ h1).mono ?_
    rintro e w2 ⟨rfl, h2, hk2⟩
    go_wp2_with fail
    go_ret
    exact ⟨rfl, ⟨_, h2⟩, hk1.trans hk2⟩
set_option maxHeartbeats 2000000 in
theorem count_yes (g : Nat) (s r : ByteArray) (m u : Nat) (w : World) (h : Rdr w g s false) (hd : decN s.data.toList = ((m : Int), u)) (hu : 0 < u) (hus : u ≤ s.size) (hr : s.extract u s.size = r) (hm : m ≤ r.size) (hs : s.size ≤ 1000000000) :
    Calls Tryd.prog 35 #[.pointer (some ⟨g, 0, none⟩)] w fun e w' => e = .returned (.int .i64 m) ∧ Rdr w' g r false ∧ Kp [g] w w' := by
  have HD := Lib.hid hd
  have HR := Lib.hid hr
  clear hd hr
  have hm0 : ¬ (m : Int) < 0 := by omega
  go_enter Tryd.func35, Tryd.ntmps35
  go_wp2_with fail
  refine (num_to g s r m u _ h HD.out hu hus hs HR.out).mono ?_
  rintro e w1 ⟨rfl, h1, hk1⟩
  go_wp2_with fail
  refine (left_any g _ _ _ h1).mono ?_
  rintro e w2 ⟨rfl, rfl⟩
  go_wp2_with fail
  go_ret
  exact ⟨rfl, h1, hk1⟩
end Go.Proofs.YtencpplopdogmaaDoor
