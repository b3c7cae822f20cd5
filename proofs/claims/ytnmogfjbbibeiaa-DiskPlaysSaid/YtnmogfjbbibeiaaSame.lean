/- The document's comparison of two lists of texts: it only reads. -/
import Derived.Test.YtnmogfjbbibeiaaBs
import Derived.Deep.LoopGhost
import Derived.BigQuiet
import Derived.Deep.QuietTactic
namespace Go.Proofs.Ytnmogfjbbibeiaa
set_option maxRecDepth 100000
open Go.RowKit
set_option linter.unusedVariables false

theorem Ls.drewN {w : World} {A : Option Addr} {n : Nat} {xs : List Value} (h : Ls w A n xs) (m : Nat) : Ls (w.drewN m) A n xs := h
theorem getD_map {zs : List ByteArray} {k : Nat} (h : k < zs.length) : (zs.map Value.string)[k]? = some (Value.string zs[k]) := by
  rw [List.getElem?_map, List.getElem?_eq_getElem h]; rfl
theorem Ls.str_at {w : World} {A : Option Addr} {n k : Nat} {zs : List ByteArray} (h : Ls w A n (zs.map Value.string)) (hk : k < n) : ∃ ad z, A = some ad ∧ zs[k]? = some z ∧ w.cell? (ad.add k) = some (Value.string z) := by
  obtain ⟨ad, u, e, _, hu, hc⟩ := h.at_ hk
  have hl : k < zs.length := by have := h.1; simp at this; omega
  rw [getD_map hl] at hu
  injection hu with hu
  subst hu
  exact ⟨ad, _, e, List.getElem?_eq_getElem hl, hc⟩

theorem toList_ne {a b : ByteArray} (h : a ≠ b) : (a.toList == b.toList) = false := by
  rw [beq_eq_false_iff_ne, toList_eq, toList_eq]
  exact fun e => h (bs_eq e)
set_option maxRecDepth 100000 in
set_option maxHeartbeats 1000000 in
theorem same_q (A B : Option Addr) (n c m d : Nat) (xs ys : List ByteArray) (w : World) (hA : Ls w A n (xs.map Value.string)) (hB : Ls w B m (ys.map Value.string)) (hn : n ≤ 1099511627776) (hm : m ≤ 1099511627776) :
    Calls Try.prog 16 #[.slice A n c, .slice B m d] w fun e w' => e = .returned (.bool (decide (xs = ys))) ∧ ∃ m, w' = w.drewN m := by
  have h1 : xs.length = n := by simpa using hA.1
  have h2 : ys.length = m := by simpa using hB.1
  have H1 := Lib.hid h1
  have H2 := Lib.hid h2
  clear h1 h2
  by_cases hnm : n = m
  · subst hnm
    go_enter Try.func16, Try.ntmps16
    go_wp2_with fail
    go_loopg [5] n (fun gk i wr => ∃ k : Nat, n - k ≤ gk ∧ i = .int .i64 k ∧ k ≤ n ∧ (∃ m, wr = w.drewN m) ∧ xs.take k = ys.take k)
    case atStart => exact ⟨0, by omega, rfl, Nat.zero_le _, ⟨0, rfl⟩, rfl⟩
    case round =>
      obtain ⟨k, hgk, rfl, hk, ⟨m', hw⟩, htk⟩ := hrel
      have hAw : Ls wr A n (xs.map Value.string) := by rw [hw]; exact hA
      have hBw : Ls wr B n (ys.map Value.string) := by rw [hw]; exact hB
      have HW := Lib.hid hw
      clear hw
      have HTK := Lib.hid htk
      clear htk
      by_cases hlt : k < n
      · obtain ⟨ad, z, rfl, hz, hc⟩ := hAw.str_at hlt
        obtain ⟨bd, z', rfl, hz', hc'⟩ := hBw.str_at hlt
        have HZ := Lib.hid hz
        have HZ' := Lib.hid hz'
        have i1 : (0 : Int) ≤ (k : Int) := by omega
        have i2 : (k : Int) < (n : Int) := by omega
        clear hz hz'
        by_cases he : z = z'
        · subst he
          have hst : xs.take (k + 1) = ys.take (k + 1) := by rw [List.take_add_one, List.take_add_one, HTK.out, HZ.out, HZ'.out]
          have HST := Lib.hid hst
          clear hst
          go_wp2_with fail
          go_quiet (fail)
          have hnx : wr.drewN nq = w.drewN (m' + nq) := by rw [HW.out, World.drewN_drewN]
          have HNX := Lib.hid hnx
          clear hc hc' i1 i2 hnx hAw hBw HW
          generalize wr.drewN nq = wq at *
          go_wp2_with fail
          go_roundg (n - (k + 1))
          case measure => omega
          case rel => exact ⟨k + 1, by omega, by go_num, by omega, ⟨_, HNX.out⟩, HST.out⟩
        · have hne := toList_ne he
          have hxy : ¬ xs = ys := by
            rintro rfl
            have := HZ.out.symm.trans HZ'.out
            injection this with this
            exact he this
          have HXY := Lib.hid hxy
          clear hxy he
          go_wp2_with fail
          go_quiet (fail)
          have hnx : wr.drewN nq = w.drewN (m' + nq) := by rw [HW.out, World.drewN_drewN]
          have HNX := Lib.hid hnx
          clear hc hc' i1 i2 hnx hAw hBw HW
          generalize wr.drewN nq = wq at *
          go_wp2_with fail
          go_ret
          exact ⟨ret_bool (by rw [decide_eq_false HXY.out]), _, HNX.out⟩
      · have hxy : xs = ys := by
          have h3 := HTK.out
          rw [List.take_of_length_le (by have := H1.out; omega), List.take_of_length_le (by have := H2.out; omega)] at h3
          exact h3
        have HXY := Lib.hid hxy
        clear hxy
        go_wp2_with fail
        go_ret
        exact ⟨ret_bool (by rw [decide_eq_true HXY.out]), _, HW.out⟩
  · have hxy : ¬ xs = ys := by
      rintro rfl
      have := H1.out
      have := H2.out
      omega
    have HXY := Lib.hid hxy
    clear hxy
    have hnb : ((n : Int) == (m : Int)) = false := by rw [beq_eq_false_iff_ne]; omega
    go_enter Try.func16, Try.ntmps16
    go_wp2_with fail
    go_ret
    exact ⟨ret_bool (by rw [decide_eq_false HXY.out]), 0, rfl⟩

theorem same_any (A B : Option Addr) (n c m d : Nat) (xs ys : List ByteArray) (w : World) (hA : Ls w A n (xs.map Value.string)) (hB : Ls w B m (ys.map Value.string)) (hn : n ≤ 1099511627776) (hm : m ≤ 1099511627776) :
    Calls Try.prog 16 #[.slice A n c, .slice B m d] w fun e w' => e = .returned (.bool (decide (xs = ys))) ∧ Kp [] w w' :=
  (same_q A B n c m d xs ys w hA hB hn hm).mono fun e w' ⟨h, k, hk⟩ => ⟨h, by subst hk; exact (Kp.rfl_ _ _).drewN _⟩
theorem same_yes (A B : Option Addr) (n c m d : Nat) (xs : List ByteArray) (w : World) (hA : Ls w A n (xs.map Value.string)) (hB : Ls w B m (xs.map Value.string)) (hn : n ≤ 1099511627776) :
    Calls Try.prog 16 #[.slice A n c, .slice B m d] w fun e w' => e = .returned (.bool true) ∧ Kp [] w w' := by
  have h1 : xs.length = n := by simpa using hA.1
  have h2 : xs.length = m := by simpa using hB.1
  exact (same_any A B n c m d xs xs w hA hB hn (by omega)).mono fun e w' ⟨h, hk⟩ => ⟨by rw [h, decide_eq_true rfl], hk⟩
theorem same_to (A B : Option Addr) (n c m d : Nat) (xs ys : List ByteArray) (b : Bool) (w : World) (hb : decide (xs = ys) = b) (hA : Ls w A n (xs.map Value.string)) (hB : Ls w B m (ys.map Value.string)) (hn : n ≤ 1099511627776) (hm : m ≤ 1099511627776) :
    Calls Try.prog 16 #[.slice A n c, .slice B m d] w fun e w' => e = .returned (.bool b) ∧ Kp [] w w' := by
  rw [← hb]
  exact same_any A B n c m d xs ys w hA hB hn hm
/-- In a world in which some draws have been made: for regions of which the order is drawn. -/
theorem same_qto (A B : Option Addr) (n c m d : Nat) (xs ys : List ByteArray) (b : Bool) (w : World) (k : Nat) (hb : decide (xs = ys) = b) (hA : Ls w A n (xs.map Value.string)) (hB : Ls w B m (ys.map Value.string)) (hn : n ≤ 1099511627776) (hm : m ≤ 1099511627776) :
    Calls Try.prog 16 #[.slice A n c, .slice B m d] (w.drewN k) fun e w' => e = .returned (.bool b) ∧ ∃ m, w' = w.drewN m :=
  (same_q A B n c m d xs ys (w.drewN k) hA hB hn hm).mono fun e w' ⟨h, j, hj⟩ => ⟨by rw [h, hb], k + j, by rw [hj, World.drewN_drewN]⟩
end Go.Proofs.Ytnmogfjbbibeiaa
