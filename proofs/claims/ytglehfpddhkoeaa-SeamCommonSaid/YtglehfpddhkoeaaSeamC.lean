/- Package seam: up to where lists are known to be one. -/
import Derived.Test.YtglehfpddhkoeaaSeam
import Derived.Deep.LoopGhost
namespace Go.Proofs.Ytglehfpddhkoeaa
open Go.RowKit
set_option linter.unusedVariables false

/-- Values that are slices, each one of a list of integers; their memory is where ok lets it be. -/
def Rws (w : World) (ok : Nat → Prop) (ls : List (List Int)) (xs : List Value) : Prop :=
  xs.length = ls.length ∧ ∀ (i : Nat) (l : List Int), ls[i]? = some l → ∃ (A' : Option Addr) (c' : Nat), xs[i]? = some (Value.slice A' l.length c') ∧ l.length ≤ c' ∧ Ls w A' l.length (l.map (Value.int .i64)) ∧ (0 < l.length → ∀ ad, A' = some ad → ok ad.block)
theorem Rws.kp {w w' : World} {ok ok' : Nat → Prop} {ls : List (List Int)} {xs : List Value} {S : List Nat} (h : Rws w ok ls xs) (k : Kp S w w') (hS : ∀ b, ok b → b ∉ S) (ho : ∀ b, ok b → ok' b) : Rws w' ok' ls xs := by
  refine ⟨h.1, fun i l hl => ?_⟩
  obtain ⟨A', c', h1, h2, h3, h4⟩ := h.2 i l hl
  exact ⟨A', c', h1, h2, h3.kp k fun h0 ad had => hS _ (h4 h0 ad had), fun h0 ad had => ho _ (h4 h0 ad had)⟩
theorem Rws.at_ {w : World} {ok : Nat → Prop} {ls : List (List Int)} {xs : List Value} {A : Option Addr} {n i : Nat} (h : Rws w ok ls xs) (hL : Ls w A n xs) (hi : i < n) :
    ∃ (ad : Addr) (A' : Option Addr) (c' : Nat) (l : List Int), A = some ad ∧ ls[i]? = some l ∧ w.cell? (ad.add i) = some (.slice A' l.length c') ∧ l.length ≤ c' ∧ Ls w A' l.length (l.map (Value.int .i64)) := by
  obtain ⟨ad, u, rfl, _, hu, hc⟩ := hL.at_ hi
  have hl : i < ls.length := by have := h.1; have := hL.1; omega
  obtain ⟨A', c', h1, h2, h3, _⟩ := h.2 i _ (List.getElem?_eq_getElem hl)
  rw [hu] at h1
  injection h1 with h1
  exact ⟨ad, A', c', _, rfl, List.getElem?_eq_getElem hl, by rw [hc, h1], h2, h3⟩
theorem addr_add_zero (a : Addr) : a.add 0 = a := by simp [Addr.add]

def headL (ls : List (List Int)) : List Int := ls.headD []
def alikeAt (ls : List (List Int)) (k : Nat) : Bool := ls.all fun l => l.getD (k - 1) 0 == (headL ls).getD (k - 1) 0
def cmnN (ls : List (List Int)) : Nat → Nat
  | 0 => 0
  | k + 1 => if alikeAt ls (k + 1) then k + 1 else cmnN ls k
def lensMin : List (List Int) → Nat → Nat
  | [], m => m
  | l :: ls, m => lensMin ls (mnN m l.length)
def AlikeTo (ls : List (List Int)) (k i : Nat) : Prop := ∀ (j : Nat) (l : List Int), j < i → ls[j]? = some l → l.getD (k - 1) 0 = (headL ls).getD (k - 1) 0
theorem AlikeTo.step {ls : List (List Int)} {k i : Nat} {l : List Int} (h : AlikeTo ls k i) (hl : ls[i]? = some l) (he : l.getD (k - 1) 0 = (headL ls).getD (k - 1) 0) : AlikeTo ls k (i + 1) := by
  intro j l' hj hl'
  by_cases e : j = i
  · subst e; rw [hl] at hl'; injection hl' with hl'; subst hl'; exact he
  · exact h j l' (by omega) hl'
theorem AlikeTo.all {ls : List (List Int)} {k i : Nat} (h : AlikeTo ls k i) (hi : ls.length ≤ i) : alikeAt ls k = true := by
  unfold alikeAt
  rw [List.all_eq_true]
  intro l hl
  obtain ⟨j, hj, rfl⟩ := List.getElem_of_mem hl
  simpa using h j _ (by omega) (List.getElem?_eq_getElem hj)
theorem alike_no {ls : List (List Int)} {k i : Nat} {l : List Int} (hl : ls[i]? = some l) (he : ¬ l.getD (k - 1) 0 = (headL ls).getD (k - 1) 0) : alikeAt ls k = false := by
  cases h : alikeAt ls k with
  | false => rfl
  | true =>
    unfold alikeAt at h
    rw [List.all_eq_true] at h
    have := h l (List.mem_of_getElem? hl)
    simp at this
    exact absurd (by simpa using this) he
theorem head_of {ls : List (List Int)} {l : List Int} (h : ls[0]? = some l) : headL ls = l := by
  cases ls with
  | nil => cases h
  | cons a rest =>
    have h' : a = l := by simpa using h
    simp [headL, h']

set_option maxHeartbeats 1000000 in
theorem alike_any (A : Option Addr) (n c : Nat) (ls : List (List Int)) (xs : List Value) (ok : Nat → Prop) (m : Nat) (w : World) (hL : Ls w A n xs) (hR : Rws w ok ls xs) (hn : n ≤ 100000) (hlen : ∀ l ∈ ls, m + 1 ≤ l.length) (hm : m ≤ 100000) (h0 : 0 < n) :
    Calls Try.prog 32 #[.int .i64 (m + 1), .slice A n c] w fun r w' => r = .returned (.bool (alikeAt ls (m + 1))) ∧ Kp [] w w' := by
  have hnl : ls.length = n := by rw [← hR.1]; exact hL.1
  have HNL := Lib.hid hnl
  obtain ⟨ad, A0, c0, l0, rfl, hl0, hcell0, hlc0, hL0⟩ := hR.at_ hL h0
  have hhead := head_of hl0
  have HH := Lib.hid hhead
  have hm0 : m + 1 ≤ l0.length := hlen l0 (List.mem_of_getElem? hl0)
  obtain ⟨ad0, rfl, hd0, hk0⟩ := int_at hL0 (show m < l0.length by omega)
  rw [addr_add_zero] at hcell0
  obtain ⟨z0, hz0⟩ : ∃ z, l0.getD m 0 = z := ⟨_, rfl⟩
  rw [hz0] at hd0
  have HZ0 := Lib.hid hz0
  clear hz0 hhead hl0 hnl
  go_enter Try.func32, Try.ntmps32
  go_wp2_with fail
  go_loopw [9] (fun i wr => ∃ k : Nat, i = .int .i64 k ∧ k ≤ n ∧ AlikeTo ls (m + 1) k ∧ Kp [] w wr) (fun i _ => n - (intOf i).toNat)
  case atStart => exact ⟨0, rfl, Nat.zero_le _, fun j l hj => absurd hj (by omega), Kp.rfl_ _ _⟩
  case round =>
    obtain ⟨k, rfl, hk, hal, hkp⟩ := hrel
    by_cases hlt : k < n
    · obtain ⟨ad', A1, c1, l1, had, hl1, hcell1, hlc1, hL1⟩ := (hR.kp hkp (by simp) (fun _ h => h)).at_ (hL.kp hkp (by simp)) hlt
      obtain rfl : ad = ad' := by injection had
      have hm1 : m + 1 ≤ l1.length := hlen l1 (List.mem_of_getElem? hl1)
      obtain ⟨ad1, rfl, hd1, hk1⟩ := int_at hL1 (show m < l1.length by omega)
      have hcr0 : wr.cell? ad = some (.slice (some ad0) l0.length c0) := by
        rw [hkp.cell (by exact cell_block_lt hcell0) (by simp)]; exact hcell0
      have hdr0 : wr.cell? (ad0.add m) = some (.int .i64 z0) := by
        rw [hkp.cell (by exact cell_block_lt hd0) (by simp)]; exact hd0
      obtain ⟨z1, hz1⟩ : ∃ z, l1.getD m 0 = z := ⟨_, rfl⟩
      rw [hz1] at hd1
      have HZ1 := Lib.hid hz1
      have HL1 := Lib.hid hl1
      clear hz1 hl1 had hk1 hk0 hL1
      by_cases he : z1 = z0
      · subst he
        go_wp2_with fail
        go_quiet (fail)
        go_wp2_with fail
        go_roundw
        case rel => exact ⟨k + 1, by go_num, by omega, hal.step HL1.out (by rw [HH.out]; simp only [Nat.add_sub_cancel]; rw [HZ1.out, HZ0.out]), hkp.drewN _⟩
        case measure => simp [intOf]; omega
      · have he' : (z1 == z0) = false := by rw [beq_eq_false_iff_ne]; exact he
        have he2 : (z1 != z0) = true := by rw [bne_iff_ne]; exact he
        have hno : alikeAt ls (m + 1) = false := alike_no HL1.out (by rw [HH.out]; simp only [Nat.add_sub_cancel]; rw [HZ1.out, HZ0.out]; exact he)
        have HNO := Lib.hid hno
        clear hno he
        go_wp2_with fail
        go_quiet (fail)
        go_wp2_with fail
        go_ret
        exact ⟨ret_bool HNO.out.symm, hkp.drewN _⟩
    · have ha := hal.all (by rw [HNL.out]; omega)
      have HA := Lib.hid ha
      clear ha
      go_wp2_with fail
      go_ret
      exact ⟨ret_bool HA.out.symm, hkp⟩

def LM (ls : List (List Int)) (M k m : Nat) : Prop := M = lensMin (ls.drop k) m
theorem LM.step {ls : List (List Int)} {M k m : Nat} {l : List Int} (h : LM ls M k m) (hl : ls[k]? = some l) : LM ls M (k + 1) (mnN m l.length) := by
  obtain ⟨hk, rfl⟩ := List.getElem?_eq_some_iff.1 hl
  unfold LM at h ⊢
  rw [h, List.drop_eq_getElem_cons hk, lensMin]
theorem LM.all {ls : List (List Int)} {M k m : Nat} (h : LM ls M k m) (hk : ls.length ≤ k) : M = m := by
  unfold LM at h
  rw [h, List.drop_eq_nil_of_le hk, lensMin]
theorem lensMin_le : ∀ (ls : List (List Int)) (m : Nat), lensMin ls m ≤ m ∧ ∀ l ∈ ls, lensMin ls m ≤ l.length := by
  intro ls
  induction ls with
  | nil => intro m; simp [lensMin]
  | cons a rest ih =>
    intro m
    rw [lensMin]
    obtain ⟨h1, h2⟩ := ih (mnN m a.length)
    have h3 : mnN m a.length ≤ m ∧ mnN m a.length ≤ a.length := by unfold mnN; constructor <;> split <;> omega
    refine ⟨by omega, fun l hl => ?_⟩
    rcases List.mem_cons.1 hl with rfl | hl
    · omega
    · exact h2 l hl
def cmn (ls : List (List Int)) : Nat := cmnN ls (lensMin ls (headL ls).length)
theorem cmnN_le (ls : List (List Int)) : ∀ k, cmnN ls k ≤ k := by
  intro k
  induction k with
  | zero => simp [cmnN]
  | succ k ih => rw [cmnN]; split <;> omega
def SameC (ls : List (List Int)) (a b : Nat) : Prop := cmnN ls a = cmnN ls b

set_option maxHeartbeats 1000000 in
theorem common_nil (A : Option Addr) (c : Nat) (w : World) : Calls Try.prog 24 #[.slice A 0 c] w fun r w' => r = .returned (.int .i64 0) ∧ Kp [] w w' := by
  go_enter Try.func24, Try.ntmps24
  go_wp2_with fail
  go_ret
  exact ⟨rfl, Kp.rfl_ _ _⟩
set_option maxHeartbeats 1000000 in
theorem common_any (A : Option Addr) (n c : Nat) (ls : List (List Int)) (xs : List Value) (ok : Nat → Prop) (w : World) (hL : Ls w A n xs) (hR : Rws w ok ls xs) (hn : n ≤ 100000) (hlen : ∀ l ∈ ls, l.length ≤ 100000) (h0 : 0 < n) :
    Calls Try.prog 24 #[.slice A n c] w fun r w' => r = .returned (.int .i64 (cmn ls)) ∧ Kp [] w w' := by
  have hnl : ls.length = n := by rw [← hR.1]; exact hL.1
  have HNL := Lib.hid hnl
  obtain ⟨ad, A0, c0, l0, rfl, hl0, hcell0, hlc0, hL0⟩ := hR.at_ hL h0
  have hh := head_of hl0
  have hb0 := hlen l0 (List.mem_of_getElem? hl0)
  rw [addr_add_zero] at hcell0
  obtain ⟨M, hM⟩ : ∃ M, M = lensMin ls (headL ls).length := ⟨_, rfl⟩
  have hMle := lensMin_le ls (headL ls).length
  unfold cmn
  rw [← hM] at hMle ⊢
  rw [hh] at hM
  have hLM : LM ls M 0 l0.length := by unfold LM; rw [hM]; rfl
  have hMb : M ≤ l0.length := by have := hMle.1; rw [hh] at this; exact this
  clear hM hh hl0 hnl
  obtain ⟨n0, hn0⟩ : ∃ n0, l0.length = n0 := ⟨_, rfl⟩
  rw [hn0] at hcell0 hLM hb0 hMb
  clear hn0 hL0 hlc0
  go_enter Try.func24, Try.ntmps24
  go_wp2_with fail
  go_loop [15, 3] (fun i q => ∃ k m : Nat, i = .int .i64 k ∧ q = .int .i64 m ∧ k ≤ n ∧ m ≤ 100000 ∧ LM ls M k m) (fun i _ => n - (intOf i).toNat)
  case atStart => exact ⟨0, n0, rfl, rfl, Nat.zero_le _, hb0, hLM⟩
  case round =>
    clear hLM
    obtain ⟨k, m, rfl, rfl, hk, hmb, hLM⟩ := hrel
    by_cases hlt : k < n
    · obtain ⟨ad', A1, c1, l1, had, hl1, hcell1, hlc1, hL1⟩ := hR.at_ hL hlt
      obtain rfl : ad = ad' := by injection had
      have hb1 := hlen l1 (List.mem_of_getElem? hl1)
      have hst := hLM.step hl1
      clear had hl1 hL1 hlc1
      generalize l1.length = n1 at *
      by_cases hc : n1 < m
      · have e : mnN m n1 = n1 := if_pos hc
        rw [e] at hst
        clear e
        go_wp2_with fail
        go_round
        case rel => exact ⟨k + 1, n1, by go_num, rfl, by omega, by omega, hst⟩
        case measure => simp [intOf]; omega
      · have e : mnN m n1 = m := if_neg hc
        rw [e] at hst
        clear e
        go_wp2_with fail
        go_round
        case rel => exact ⟨k + 1, m, by go_num, rfl, by omega, by omega, hst⟩
        case measure => simp [intOf]; omega
    · have hMm := hLM.all (by rw [HNL.out]; omega)
      clear hLM
      subst hMm
      have hall : ∀ l ∈ ls, M ≤ l.length := hMle.2
      clear hMle
      have hk : k = n := by omega
      subst hk
      go_wp2_with fail
      go_loopw [3] (fun q wr => ∃ j : Nat, q = .int .i64 j ∧ j ≤ M ∧ SameC ls M j ∧ Kp [] w wr) (fun q _ => (intOf q).toNat)
      case atStart => exact ⟨M, rfl, Nat.le_refl _, rfl, Kp.rfl_ _ _⟩
      case round =>
        obtain ⟨j, rfl, hj, hs, hkp⟩ := hrel
        by_cases hj0 : 0 < j
        · obtain ⟨i, rfl⟩ : ∃ i, j = i + 1 := ⟨j - 1, by omega⟩
          unfold SameC at hs
          cases hal : alikeAt ls (i + 1) with
          | true =>
            rw [cmnN, if_pos hal] at hs
            have HS := Lib.hid hs
            have HAL := Lib.hid hal
            clear hs hal
            go_wp2_with fail
            refine (alike_any (some ad) k c ls xs ok i _ (hL.kp hkp (by simp)) (hR.kp hkp (by simp) fun _ h => h) hn (fun l hl => by have := hall l hl; omega) (by omega) h0).mono ?_
            rw [HAL.out]
            rintro e w2 ⟨rfl, hk2⟩
            go_wp2_with fail
            go_ret
            exact ⟨ret_int (by rw [HS.out]; rfl), hkp.trans hk2⟩
          | false =>
            rw [cmnN, if_neg (by rw [hal]; simp)] at hs
            have HS := Lib.hid hs
            have HAL := Lib.hid hal
            clear hs hal
            go_wp2_with fail
            refine (alike_any (some ad) k c ls xs ok i _ (hL.kp hkp (by simp)) (hR.kp hkp (by simp) fun _ h => h) hn (fun l hl => by have := hall l hl; omega) (by omega) h0).mono ?_
            rw [HAL.out]
            rintro e w2 ⟨rfl, hk2⟩
            go_wp2_with fail
            go_roundw
            case rel => exact ⟨i, by go_num, by omega, by unfold SameC; exact HS.out, hkp.trans hk2⟩
            case measure => simp [intOf]
        · have hj' : j = 0 := by omega
          subst hj'
          have HS := Lib.hid hs
          clear hs
          go_wp2_with fail
          go_ret
          exact ⟨ret_int (by have := HS.out; unfold SameC at this; rw [this]; rfl), hkp⟩
end Go.Proofs.Ytglehfpddhkoeaa
