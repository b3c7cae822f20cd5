/- Package seam and the document's own answers: where two lists part. -/
import Derived.Test.YtglehfpddhkoeaaApp
import Derived.Deep.QuietTactic
import Derived.BigQuiet
namespace Go.Proofs.Ytglehfpddhkoeaa
open Go.RowKit
set_option linter.unusedVariables false

/-- The greatest of the first n numbers at which the epoch is at most e; 0 if there is none. -/
def upN (zs : List Int) (e : Int) : Nat → Nat
  | 0 => 0
  | k + 1 => if zs.getD k 0 ≤ e then k + 1 else upN zs e k
theorem upN_le (zs : List Int) (e : Int) : ∀ k, upN zs e k ≤ k := by
  intro k
  induction k with
  | zero => simp [upN]
  | succ k ih => rw [upN]; split <;> omega
theorem upN_yes {zs : List Int} {e : Int} {k : Nat} (h : zs.getD k 0 ≤ e) : upN zs e (k + 1) = k + 1 := by rw [upN, if_pos h]
theorem upN_no {zs : List Int} {e : Int} {k : Nat} (h : ¬ zs.getD k 0 ≤ e) : upN zs e (k + 1) = upN zs e k := by rw [upN, if_neg h]
def SameUp (zs : List Int) (e : Int) (a b : Nat) : Prop := upN zs e a = upN zs e b

/-- A cell of a slice of integers. -/
theorem int_at {w : World} {A : Option Addr} {n k : Nat} {zs : List Int} (h : Ls w A n (zs.map (Value.int .i64))) (hk : k < n) :
    ∃ ad, A = some ad ∧ w.cell? (ad.add k) = some (.int .i64 (zs.getD k 0)) ∧ k < zs.length := by
  obtain ⟨ad, u, rfl, _, hu, hc⟩ := h.at_ hk
  rw [List.getElem?_map] at hu
  have hl : k < zs.length := by have := h.1; simp at this; omega
  rw [List.getElem?_eq_getElem hl] at hu
  refine ⟨ad, rfl, ?_, hl⟩
  rw [hc, ← hu, List.getD_eq_getElem?_getD, List.getElem?_eq_getElem hl]
  rfl

def mn (a b : Int) : Int := if b < a then b else a

set_option maxHeartbeats 400000 in
theorem upTo_any (A : Option Addr) (n c : Nat) (zs : List Int) (most e : Int) (w : World) (hL : Ls w A n (zs.map (Value.int .i64))) (hn : n ≤ maxLen) (b1 : -9223372036854775808 ≤ most) (b2 : most ≤ 9223372036854775807) :
    Calls Try.prog 33 #[.slice A n c, .int .i64 most, .int .i64 e] w fun r w' => r = .returned (.int .i64 (upN zs e (mn most n).toNat)) ∧ w = w' := by
  unfold maxLen at hn
  obtain ⟨m, hmd⟩ : ∃ m, (if (n : Int) < most then (n : Int) else most) = m := ⟨_, rfl⟩
  rw [show mn most n = m from hmd]
  have hm : m ≤ n ∧ -9223372036854775808 ≤ m := by rw [← hmd]; split <;> omega
  go_enter Try.func33, Try.ntmps33
  go_wp2
  clear hmd
  go_loop [7] (fun i => ∃ k : Int, i = .int .i64 k ∧ k ≤ n ∧ -9223372036854775808 ≤ k ∧ SameUp zs e m.toNat k.toNat) (fun i => (intOf i).toNat)
  case atStart => exact ⟨m, rfl, hm.1, hm.2, rfl⟩
  case round =>
    obtain ⟨k, rfl, hk, hk0, hs⟩ := hrel
    by_cases h0 : 0 < k
    · obtain ⟨j, rfl⟩ : ∃ j : Nat, k = (j : Int) + 1 := ⟨(k - 1).toNat, by omega⟩
      obtain ⟨ad, rfl, hcell, hl⟩ := int_at hL (show j < n by omega)
      have hj : ((j : Int) + 1).toNat = j + 1 := by omega
      unfold SameUp at hs
      rw [hj] at hs
      generalize hz : zs.getD j 0 = z at *
      by_cases hle : z ≤ e
      · rw [upN_yes (by rw [hz]; exact hle)] at hs
        have HS := Lib.hid hs
        clear hs hz hj
        go_wp2
        go_ret
        exact ⟨ret_int (by rw [HS.out]; omega), rfl⟩
      · rw [upN_no (by rw [hz]; exact hle)] at hs
        have HS := Lib.hid hs
        clear hs hz hj
        go_wp2
        go_round
        case rel => exact ⟨j, by go_num, by omega, by omega, by unfold SameUp; rw [HS.out]; rfl⟩
        case measure => simp [intOf]
    · have hj : k.toNat = 0 := by omega
      unfold SameUp at hs
      rw [hj] at hs
      have HS := Lib.hid hs
      clear hs hj
      go_wp2
      go_ret
      exact ⟨ret_int (by rw [HS.out]; rfl), rfl⟩

set_option maxHeartbeats 400000 in
theorem hint_any (A : Option Addr) (n c : Nat) (zs : List Int) (after since : Int) (w : World) (hL : Ls w A n (zs.map (Value.int .i64))) (hn : n ≤ maxLen) (b1 : -9223372036854775808 ≤ after) (b2 : after ≤ 9223372036854775807) :
    Calls Try.prog 26 #[.slice A n c, .int .i64 after, .int .i64 since] w fun r w' =>
      r = .returned (.agg #[.int .i64 (upN zs since (mn (after - 1) n).toNat), .int .i64 (if upN zs since (mn (after - 1) n).toNat = 0 then 0 else zs.getD (upN zs since (mn (after - 1) n).toNat - 1) 0)]) ∧ Kp [] w w' := by
  unfold maxLen at hn
  obtain ⟨k, hk⟩ : ∃ k, upN zs since (mn (after - 1) n).toNat = k := ⟨_, rfl⟩
  have hkn : k ≤ n := by
    have h1 := upN_le zs since (mn (after - 1) n).toNat
    have h2 : mn (after - 1) n ≤ n := by unfold mn; split <;> omega
    omega
  rw [hk]
  by_cases h1 : after < 1
  · have h0 : (mn (after - 1) n).toNat = 0 := by unfold mn; split <;> omega
    rw [h0, upN] at hk
    subst hk
    go_enter Try.func26, Try.ntmps26
    go_wp2
    refine bodyPost_ret (v := .agg #[.int .i64 0, .int .i64 0]) (by simp [results, Try.results26, go_sem]) rfl ⟨rfl, (Kp.rfl_ _ _).alloc _⟩
  · have HK := Lib.hid hk
    clear hk
    by_cases hk0 : k = 0
    · subst hk0
      go_enter Try.func26, Try.ntmps26
      go_wp2_with fail
      refine (upTo_any A n c zs (after - 1) since _ ?_ (by unfold maxLen; omega) (by omega) (by omega)).mono ?_
      · exact hL.kp ((Kp.rfl_ [] w).alloc _) (by simp)
      rw [HK.out]
      rintro e w1 ⟨rfl, rfl⟩
      go_wp2_with fail
      refine bodyPost_ret (v := .agg #[.int .i64 0, .int .i64 0]) (by simp [results, Try.results26, go_sem]) rfl ⟨rfl, (Kp.rfl_ _ _).alloc _⟩
    · obtain ⟨j, rfl⟩ : ∃ j : Nat, k = j + 1 := ⟨k - 1, by omega⟩
      obtain ⟨ad, rfl, hcell, hl⟩ := int_at hL (show j < n by omega)
      have e1 : (if j + 1 = 0 then 0 else zs.getD (j + 1 - 1) 0) = zs.getD j 0 := by simp
      rw [e1]
      clear e1 hl
      generalize zs.getD j 0 = z at *
      have hc2 := fun o => cell_alloc hcell o
      clear hk0
      go_enter Try.func26, Try.ntmps26
      go_wp2_with fail
      refine (upTo_any (some ad) n c zs (after - 1) since _ ?_ (by unfold maxLen; omega) (by omega) (by omega)).mono ?_
      · exact hL.kp ((Kp.rfl_ [] w).alloc _) (by simp)
      rw [HK.out]
      rintro e w1 ⟨rfl, rfl⟩
      go_wp2_with fail
      refine bodyPost_ret (v := .agg #[.int .i64 ((j : Int) + 1), .int .i64 z]) (by simp [results, Try.results26, go_sem]) rfl ⟨rfl, (Kp.rfl_ _ _).alloc _⟩

set_option maxHeartbeats 400000 in
theorem next_any (A : Option Addr) (n c : Nat) (zs : List Int) (hn0 he : Int) (w : World) (hL : Ls w A n (zs.map (Value.int .i64))) (hn : n ≤ maxLen) (b1 : -9223372036854775808 ≤ hn0) (b2 : hn0 ≤ 9223372036854775807) :
    Calls Try.prog 28 #[.slice A n c, .agg #[.int .i64 hn0, .int .i64 he]] w fun r w' => r = .returned (.int .i64 (upN zs he (mn hn0 n).toNat)) ∧ Kp [] w w' := by
  go_enter Try.func28, Try.ntmps28
  go_wp2_with fail
  refine (upTo_any A n c zs hn0 he _ (hL.kp ((Kp.rfl_ [] w).alloc _) (by simp)) hn b1 b2).mono ?_
  rintro e w1 ⟨rfl, rfl⟩
  go_wp2_with fail
  go_ret
  exact ⟨rfl, (Kp.rfl_ _ _).alloc _⟩

set_option maxHeartbeats 400000 in
theorem own_any (A : Option Addr) (n c : Nat) (zs : List Int) (w : World) (hL : Ls w A n (zs.map (Value.int .i64))) (hn : n * 8 ≤ 140737488355328) :
    Calls Try.prog 23 #[.slice A n c] w fun r w' => ∃ A' c', r = .returned (.slice A' n c') ∧ Ls w' A' n (zs.map (Value.int .i64)) ∧ Kp [] w w' ∧ n ≤ c' ∧ (∀ ad, A' = some ad → w.heap.size ≤ ad.block) := by
  go_enter Try.func23, Try.ntmps23
  go_wp2_with (at_builtin; refine wpl_copy_int w rfl _ _ rfl A n c zs rfl rfl hL hn ?_; intro A2 c2 w5 hc5 hL5 hA5 hk5)
  go_ret
  exact ⟨A2, c2, rfl, hL5, hk5, hc5, hA5⟩

/-- What the document's own search holds behind the first k numbers, of which the first m count. -/
def mnN (a b : Nat) : Nat := if b < a then b else a
theorem mnN_succ_in {m k : Nat} (h : k + 1 ≤ m) : mnN m (k + 1) = k + 1 ∧ mnN m k = k := by unfold mnN; constructor <;> split <;> omega
theorem mnN_succ_out {m k : Nat} (h : ¬ k + 1 ≤ m) : mnN m (k + 1) = m ∧ mnN m k = m := by unfold mnN; constructor <;> split <;> omega
theorem mnN_zero (m : Nat) : mnN m 0 = 0 := by unfold mnN; split <;> omega
theorem mn_toNat (a : Int) (n : Nat) : (mn a n).toNat = mnN a.toNat n := by unfold mn mnN; split <;> split <;> omega
def At2 (w : World) (g : Nat) (a b : Int) : Prop := At w g 41 #[.int .i64 a, .int .i64 b]
theorem At2.cells {w : World} {g : Nat} {a b : Int} (h : At2 w g a b) : w.cell? ⟨g, 0, none⟩ = some (.int .i64 a) ∧ w.cell? ⟨g, 1, none⟩ = some (.int .i64 b) ∧ w.frozen? ⟨g, 0, none⟩ = false ∧ w.frozen? ⟨g, 1, none⟩ = false :=
  ⟨(At.cell h 0).trans rfl, (At.cell h 1).trans rfl, At.frozen h 0, At.frozen h 1⟩
/-- The place that number k is, 0 if there is none. -/
def epAt (zs : List Int) (k : Nat) : Int := if k = 0 then 0 else zs.getD (k - 1) 0

set_option maxHeartbeats 400000 in
theorem rnext_any (A : Option Addr) (n c : Nat) (zs : List Int) (hn0 he : Int) (w : World) (hL : Ls w A n (zs.map (Value.int .i64))) (hn : n ≤ maxLen) (hn' : n ≤ 100000) :
    Calls Try.prog 29 #[.slice A n c, .agg #[.int .i64 hn0, .int .i64 he]] w fun r w' => r = .returned (.int .i64 (upN zs he (mn hn0 n).toNat)) ∧ Kp [] w w' := by
  rw [mn_toNat]
  go_enter Try.func29, Try.ntmps29
  go_wp2_with fail
  go_loopw [5, 6] (fun b i wr => ∃ k : Nat, i = .int .i64 (k + 1) ∧ b = .int .i64 (upN zs he (mnN hn0.toNat k)) ∧ k ≤ n ∧ At2 wr w.heap.size hn0 he ∧ Kp [] w wr) (fun _ i _ => n + 1 - (intOf i).toNat)
  case atStart => exact ⟨0, rfl, by rw [mnN_zero]; rfl, Nat.zero_le _, At.new _ _ _, (Kp.rfl_ _ _).alloc _⟩
  case round =>
    obtain ⟨k, rfl, rfl, hk, hat, hkp⟩ := hrel
    obtain ⟨c0, c1, -, -⟩ := hat.cells
    by_cases hlt : k < n
    · obtain ⟨ad, rfl, hcell, hl⟩ := int_at (hL.kp hkp (by simp)) hlt
      by_cases hm : ((k : Int) + 1) ≤ hn0
      · have hm2 := mnN_succ_in (m := hn0.toNat) (k := k) (by omega)
        generalize hz : zs.getD k 0 = z at *
        by_cases hle : z ≤ he
        · have e : upN zs he (mnN hn0.toNat (k + 1)) = k + 1 := by rw [hm2.1]; exact upN_yes (by rw [hz]; exact hle)
          have E := Lib.hid e
          clear e hm2 hz
          go_wp2_with fail
          go_quiet (fail)
          go_wp2_with fail
          go_roundw
          case rel => exact ⟨k + 1, by go_num, by rw [E.out]; go_num, by omega, hat, hkp.drewN _⟩
          case measure => simp [intOf]; omega
        · have e : upN zs he (mnN hn0.toNat (k + 1)) = upN zs he (mnN hn0.toNat k) := by rw [hm2.1, hm2.2]; exact upN_no (by rw [hz]; exact hle)
          have E := Lib.hid e
          clear e hm2 hz
          go_wp2_with fail
          go_quiet (fail)
          go_wp2_with fail
          go_roundw
          case rel => exact ⟨k + 1, by go_num, by rw [E.out], by omega, hat, hkp.drewN _⟩
          case measure => simp [intOf]; omega
      · have hm2 := mnN_succ_out (m := hn0.toNat) (k := k) (by omega)
        have e : upN zs he (mnN hn0.toNat (k + 1)) = upN zs he (mnN hn0.toNat k) := by rw [hm2.1, hm2.2]
        have hd : decide (((k : Int) + 1) ≤ hn0) = false := by simpa using hm
        have E := Lib.hid e
        clear e hm2 hl
        go_wp2_with fail
        go_quiet (fail)
        go_wp2_with fail
        go_roundw
        case rel => exact ⟨k + 1, by go_num, by rw [E.out], by omega, hat, hkp.drewN _⟩
        case measure => simp [intOf]; omega
    · have hkn : k = n := by omega
      subst hkn
      go_wp2_with fail
      go_ret
      exact ⟨rfl, hkp⟩

set_option maxHeartbeats 400000 in
theorem rhint_any (A : Option Addr) (n c : Nat) (zs : List Int) (after since : Int) (w : World) (hL : Ls w A n (zs.map (Value.int .i64))) (hn : n ≤ maxLen) (hn' : n ≤ 100000) (b1 : -9223372036854775808 ≤ after) :
    Calls Try.prog 27 #[.slice A n c, .int .i64 after, .int .i64 since] w fun r w' =>
      r = .returned (.agg #[.int .i64 (upN zs since (mn (after - 1) n).toNat), .int .i64 (epAt zs (upN zs since (mn (after - 1) n).toNat))]) ∧ Kp [] w w' := by
  rw [mn_toNat]
  go_enter Try.func27, Try.ntmps27
  go_wp2_with fail
  go_loopw [8] (fun i wr => ∃ k : Nat, i = .int .i64 (k + 1) ∧ k ≤ n ∧ At2 wr w.heap.size 0 0 ∧ At2 wr (w.heap.size + 1) (upN zs since (mnN (after - 1).toNat k)) (epAt zs (upN zs since (mnN (after - 1).toNat k))) ∧ Kp [] w wr)
    (fun i _ => n + 1 - (intOf i).toNat)
  case atStart => exact ⟨0, rfl, Nat.zero_le _, At.alloc (At.new _ _ _) _, by rw [mnN_zero]; exact At.new_ (by simp), ((Kp.rfl_ _ _).alloc _).alloc _⟩
  case round =>
    obtain ⟨k, rfl, hk, ha0, ha1, hkp⟩ := hrel
    obtain ⟨c0, c1, f0, f1⟩ := ha1.cells
    by_cases hlt : k < n
    · obtain ⟨ad, rfl, hcell, hl⟩ := int_at (hL.kp hkp (by simp)) hlt
      by_cases hm : ((k : Int) + 1) < after
      · have hm2 := mnN_succ_in (m := (after - 1).toNat) (k := k) (by omega)
        by_cases hle : zs.getD k 0 ≤ since
        · have e : upN zs since (mnN (after - 1).toNat (k + 1)) = k + 1 := by rw [hm2.1]; exact upN_yes hle
          have e2 : epAt zs (k + 1) = zs.getD k 0 := by simp [epAt]
          have E := Lib.hid e
          have E2 := Lib.hid e2
          generalize hz : zs.getD k 0 = z at *
          clear e e2 hm2 hz
          go_wp2_with fail
          go_roundw
          case rel => exact ⟨k + 1, by go_num, by omega, (ha0.far (p := ⟨w.heap.size + 1, 0, none⟩) (by simp) _).far (p := ⟨w.heap.size + 1, 1, none⟩) (by simp) _, by rw [E.out, E2.out]; exact At.set (At.set ha1 0 _) 1 _, (hkp.set (by simp) _).set (by simp) _⟩
          case measure => simp [intOf]; omega
        · have e : upN zs since (mnN (after - 1).toNat (k + 1)) = upN zs since (mnN (after - 1).toNat k) := by rw [hm2.1, hm2.2]; exact upN_no hle
          have E := Lib.hid e
          generalize hz : zs.getD k 0 = z at *
          clear e hm2 hz
          go_wp2_with fail
          go_roundw
          case rel => exact ⟨k + 1, by go_num, by omega, ha0, by rw [E.out]; exact ha1, hkp⟩
          case measure => simp [intOf]; omega
      · have hm2 := mnN_succ_out (m := (after - 1).toNat) (k := k) (by omega)
        have e : upN zs since (mnN (after - 1).toNat (k + 1)) = upN zs since (mnN (after - 1).toNat k) := by rw [hm2.1, hm2.2]
        have E := Lib.hid e
        clear e hm2 hl
        go_wp2_with fail
        go_roundw
        case rel => exact ⟨k + 1, by go_num, by omega, ha0, by rw [E.out]; exact ha1, hkp⟩
        case measure => simp [intOf]; omega
    · have hkn : k = n := by omega
      subst hkn
      obtain ⟨d0, d1, g0, g1⟩ := ha0.cells
      go_wp2_with fail
      refine bodyPost_ret (v := .agg #[.int .i64 (upN zs since (mnN (after - 1).toNat k)), .int .i64 (epAt zs (upN zs since (mnN (after - 1).toNat k)))]) (by simp [results, Try.results27, go_sem, d0, d1]) rfl ⟨rfl, (hkp.set (by simp) _).set (by simp) _⟩
end Go.Proofs.Ytglehfpddhkoeaa
