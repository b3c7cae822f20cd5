/- The document's own Common. -/
import Derived.Test.YtglehfpddhkoeaaSeamN
namespace Go.Proofs.Ytglehfpddhkoeaa
open Go.RowKit
set_option linter.unusedVariables false

def tst (ls : List (List Int)) (k : Nat) (l : List Int) : Bool := decide (k ≤ l.length) && (l.getD (k - 1) 0 == (headL ls).getD (k - 1) 0)
def fitsAt (ls : List (List Int)) (k : Nat) : Bool := ls.all (tst ls k)
def bst (ls : List (List Int)) : Nat → Nat
  | 0 => 0
  | k + 1 => if fitsAt ls (k + 1) then k + 1 else bst ls k
def FT (ls : List (List Int)) (k i : Nat) (b : Bool) : Prop := (ls.take i).all (tst ls k) = b
theorem FT.step {ls : List (List Int)} {k i : Nat} {b : Bool} {l : List Int} (h : FT ls k i b) (hl : ls[i]? = some l) : FT ls k (i + 1) (b && tst ls k l) := by
  unfold FT at h ⊢
  rw [List.take_add_one, hl, List.all_append, h]
  simp
theorem FT.all {ls : List (List Int)} {k i : Nat} {b : Bool} (h : FT ls k i b) (hi : ls.length ≤ i) : fitsAt ls k = b := by
  unfold FT at h
  rw [List.take_of_length_le hi] at h
  exact h
theorem lensMin_lt : ∀ (ls : List (List Int)) (m j : Nat), lensMin ls m < j → j ≤ m → ∃ l ∈ ls, l.length < j := by
  intro ls
  induction ls with
  | nil => intro m j h1 h2; simp [lensMin] at h1; omega
  | cons a rest ih =>
    intro m j h1 h2
    rw [lensMin] at h1
    by_cases ha : a.length < j
    · exact ⟨a, by simp, ha⟩
    · obtain ⟨l, hl, h⟩ := ih _ j h1 (by unfold mnN; split <;> omega)
      exact ⟨l, List.mem_cons_of_mem _ hl, h⟩
theorem fits_alike {ls : List (List Int)} {k : Nat} (h : ∀ l ∈ ls, k ≤ l.length) : fitsAt ls k = alikeAt ls k := by
  have key : ∀ l ∈ ls, tst ls k l = (l.getD (k - 1) 0 == (headL ls).getD (k - 1) 0) := fun l hl => by
    unfold tst
    rw [decide_eq_true (h l hl), Bool.true_and]
  unfold fitsAt alikeAt
  rw [Bool.eq_iff_iff, List.all_eq_true, List.all_eq_true]
  exact ⟨fun hh l hl => by rw [← key l hl]; exact hh l hl, fun hh l hl => by rw [key l hl]; exact hh l hl⟩
theorem fits_no {ls : List (List Int)} {k : Nat} {l : List Int} (hl : l ∈ ls) (h : l.length < k) : fitsAt ls k = false := by
  cases hf : fitsAt ls k with
  | false => rfl
  | true =>
    unfold fitsAt at hf
    rw [List.all_eq_true] at hf
    have := hf l hl
    unfold tst at this
    simp at this
    omega
theorem bst_cmn (ls : List (List Int)) : bst ls (headL ls).length = cmn ls := by
  have key : ∀ k, k ≤ (headL ls).length → bst ls k = cmnN ls (mnN (lensMin ls (headL ls).length) k) := by
    intro k
    induction k with
    | zero => intro _; rw [mnN_zero]; rfl
    | succ k ih =>
      intro hk
      rw [bst]
      by_cases hm : k + 1 ≤ lensMin ls (headL ls).length
      · have e := mnN_succ_in hm
        rw [fits_alike fun l hl => by have := (lensMin_le ls (headL ls).length).2 l hl; omega, e.1, cmnN, ih (by omega), e.2]
      · obtain ⟨l, hl, h⟩ := lensMin_lt ls (headL ls).length (k + 1) (by omega) hk
        have e := mnN_succ_out hm
        rw [fits_no hl h, e.1, ih (by omega), e.2]
        simp
  rw [key _ (Nat.le_refl _)]
  unfold cmn
  congr 1
  have := (lensMin_le ls (headL ls).length).1
  unfold mnN
  split <;> omega

set_option maxHeartbeats 1000000 in
theorem rcommon_nil (A : Option Addr) (c : Nat) (w : World) : Calls Try.prog 25 #[.slice A 0 c] w fun r w' => r = .returned (.int .i64 0) ∧ Kp [] w w' := by
  go_enter Try.func25, Try.ntmps25
  go_wp2_with fail
  go_ret
  exact ⟨rfl, Kp.rfl_ _ _⟩
set_option maxRecDepth 100000 in
set_option maxHeartbeats 4000000 in
theorem rcommon_any (A : Option Addr) (n c : Nat) (ls : List (List Int)) (xs : List Value) (ok : Nat → Prop) (w : World) (hL : Ls w A n xs) (hR : Rws w ok ls xs) (hn : n ≤ 100000) (hlen : ∀ l ∈ ls, l.length ≤ 100000) (h0 : 0 < n) :
    Calls Try.prog 25 #[.slice A n c] w fun r w' => r = .returned (.int .i64 (cmn ls)) ∧ Kp [] w w' := by
  rw [← bst_cmn]
  have hnl : ls.length = n := by rw [← hR.1]; exact hL.1
  have HNL := Lib.hid hnl
  obtain ⟨ad, A0, c0, l0, rfl, hl0, hcell0, hlc0, hL0⟩ := hR.at_ hL h0
  have hh := head_of hl0
  have HH := Lib.hid hh
  have hb0 := hlen l0 (List.mem_of_getElem? hl0)
  rw [addr_add_zero] at hcell0
  rw [hh]
  obtain ⟨n0, hn0⟩ : ∃ n0, l0.length = n0 := ⟨_, rfl⟩
  have HN0 := Lib.hid hn0
  rw [hn0] at hcell0 hb0 ⊢
  clear hh hl0 hnl hlc0 hn0
  have hnb : ((n : Int) == 0) = false := by rw [beq_eq_false_iff_ne]; omega
  go_enter Try.func25, Try.ntmps25
  go_wp2_with fail
  go_loopg [4, 3] n0 (fun gk i q wr => ∃ k : Nat, n0 - k ≤ gk ∧ i = .int .i64 (k + 1) ∧ q = .int .i64 (bst ls k) ∧ k ≤ n0 ∧ Kp [] w wr)
  case atStart => exact ⟨0, by omega, rfl, rfl, Nat.zero_le _, Kp.rfl_ _ _⟩
  case round =>
    obtain ⟨k, hgk, rfl, rfl, hk, hkp⟩ := hrel
    have hcr0 : wr.cell? ad = some (.slice A0 n0 c0) := by rw [hkp.cell (by exact cell_block_lt hcell0) (by simp)]; exact hcell0
    by_cases hlt : k < n0
    · have hltI : ((k : Int) + 1) ≤ n0 := by omega
      obtain ⟨wo, rfl⟩ : ∃ wo : World, wo = wr := ⟨_, rfl⟩
      go_wp2_with fail
      go_loopg [6, 5] n (fun g2 i b wr => ∃ (j : Nat) (t : Bool), n - j ≤ g2 ∧ i = .int .i64 j ∧ b = .bool t ∧ j ≤ n ∧ FT ls (k + 1) j t ∧ Kp [] w wr)
      case atStart => exact ⟨0, true, by omega, rfl, rfl, Nat.zero_le _, rfl, hkp⟩
      case round =>
        clear hcr0 hkp
        obtain ⟨j, t, hg2, rfl, rfl, hj, hft, hkp⟩ := hrel
        by_cases hjn : j < n
        · have hjn' : (j : Int) < n := by omega
          obtain ⟨ad', A1, c1, l1, had, hl1, hcell1, hlc1, hL1⟩ := (hR.kp hkp (by simp) (fun _ h => h)).at_ (hL.kp hkp (by simp)) hjn
          obtain rfl : ad = ad' := by injection had
          have hst := hft.step hl1
          have hb1 := hlen l1 (List.mem_of_getElem? hl1)
          have hcr0 : wr.cell? ad = some (.slice A0 n0 c0) := by rw [hkp.cell (by exact cell_block_lt hcell0) (by simp)]; exact hcell0
          have hw : IntKind.i64.wrap ((k : Int) + 1 - 1) = (k : Int) := by rw [show ((k : Int) + 1 - 1) = (k : Int) by omega]; exact IntWalk.i64_in _ (by omega)
          cases t with
          | false =>
            rw [Bool.false_and] at hst
            have HST := Lib.hid hst
            clear hst hl1 had hft
            go_wp2_with fail
            go_quiet (fail)
            go_wp2_with fail
            go_roundg (n - (j + 1))
            case measure => omega
            case rel => exact ⟨j + 1, false, by omega, by go_num, rfl, by omega, HST.out, hkp.drewN _⟩
          | true =>
            rw [Bool.true_and] at hst
            by_cases hkl : k < l1.length
            · obtain ⟨ad0, rfl, hd0, hk0⟩ := int_at hL0 (show k < l0.length by rw [HN0.out]; omega)
              obtain ⟨ad1, rfl, hd1, hk1⟩ := int_at hL1 hkl
              have hdr0 := (hkp.cell (by exact cell_block_lt hd0) (by simp)).trans hd0
              have hT : tst ls (k + 1) l1 = (l1.getD k 0 == l0.getD k 0) := by
                unfold tst
                rw [decide_eq_true (by omega), Bool.true_and, HH.out, Nat.add_sub_cancel]
              rw [hT] at hst
              generalize l1.getD k 0 = z1 at *
              generalize l0.getD k 0 = z0 at *
              have HST := Lib.hid hst
              have hkl1 : ((k : Int) + 1) ≤ l1.length := by omega
              have hd : decide (((k : Int) + 1) ≤ l1.length) = true := by simpa using hkl1
              have hkc1 : (k : Int) < l1.length := by omega
              have hkc0 : (k : Int) < n0 := by omega
              clear hst hl1 had hft hT hk0 hk1 hd0
              go_wp2_with fail
              go_quiet (fail)
              go_wp2_with fail
              go_roundg (n - (j + 1))
              case measure => omega
              case rel => exact ⟨j + 1, (z1 == z0), by omega, by go_num, rfl, by omega, HST.out, hkp.drewN _⟩
            · have hT : tst ls (k + 1) l1 = false := by
                unfold tst
                rw [decide_eq_false (by omega), Bool.false_and]
              rw [hT] at hst
              have HST := Lib.hid hst
              have hd : decide (((k : Int) + 1) ≤ l1.length) = false := by simp; omega
              clear hst hl1 had hft hT
              go_wp2_with fail
              go_quiet (fail)
              go_wp2_with fail
              go_roundg (n - (j + 1))
              case measure => omega
              case rel => exact ⟨j + 1, false, by omega, by go_num, rfl, by omega, HST.out, hkp.drewN _⟩
        · have hfa := hft.all (by rw [HNL.out]; omega)
          have hbs : bst ls (k + 1) = if t then k + 1 else bst ls k := by rw [bst, hfa]
          have HB := Lib.hid hbs
          clear hft hfa hbs
          cases t with
          | false =>
            go_wp2_with fail
            go_roundg (n0 - (k + 1))
            case measure => omega
            case rel => exact ⟨k + 1, by omega, by go_num, by rw [HB.out]; rfl, by omega, hkp⟩
          | true =>
            go_wp2_with fail
            go_roundg (n0 - (k + 1))
            case measure => omega
            case rel => exact ⟨k + 1, by omega, by go_num, by rw [HB.out]; rfl, by omega, hkp⟩
    · have hk' : k = n0 := by omega
      subst hk'
      go_wp2_with fail
      go_ret
      exact ⟨rfl, hkp⟩
end Go.Proofs.Ytglehfpddhkoeaa
