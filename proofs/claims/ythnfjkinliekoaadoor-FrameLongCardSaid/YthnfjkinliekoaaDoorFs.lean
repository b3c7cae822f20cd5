/- Package frame: payloads sealed, frames scanned. -/
import Derived.Test.YthnfjkinliekoaaDoorFr
namespace Go.Proofs.YthnfjkinliekoaaDoor
set_option maxRecDepth 100000
open Go.RowKit
set_option linter.unusedVariables false

theorem numB_bs (n : Nat) : (ByteArray.mk (List.flatMap numB [(n : Int)]).toArray) = bs (numB (n : Int)) := by simp [bs]
/-- What sealing payloads tells. -/
def Sealed (ss : List ByteArray) (w : World) (e : Ending) (w' : World) : Prop := Kp [] w w' ∧
  (((∃ z ∈ ss, 1048576 < z.size) ∧ e = .returned (.tuple #[.string ⟨#[]⟩, .int .i64 4])) ∨ ((∀ z ∈ ss, z.size ≤ 1048576) ∧ e = .returned (.tuple #[.string (bs (frms ss)), .int .i64 0])))
set_option maxHeartbeats 2000000 in
theorem seal_any (A : Option Addr) (n c : Nat) (ss : List ByteArray) (w : World) (ht : Tab w) (hL : Ls w A n (ss.map Value.string)) (hs : ∀ z ∈ ss, z.size ≤ maxLen) (hn : n ≤ 100000) (htot : (∀ z ∈ ss, z.size ≤ 1048576) → (frms ss).length ≤ 900000000) :
    Calls Tryd.prog 23 #[.slice A n c] w (Sealed ss w) := by
  have hlen : ss.length = n := by simpa using hL.1
  have H1 := Lib.hid hlen
  have HS := Lib.hid hs
  have HT := Lib.hid htot
  clear hlen hs htot
  go_enter Tryd.func23, Tryd.ntmps23
  go_wp2_with fail
  go_loopg [11] n (fun gk i wr => ∃ k : Nat, n - k ≤ gk ∧ i = .int .i64 k ∧ k ≤ n ∧ (∀ z ∈ ss.take k, z.size ≤ 1048576) ∧ w = wr)
  case atStart => exact ⟨0, by omega, rfl, Nat.zero_le _, by simp, rfl⟩
  case round =>
    obtain ⟨k, hgk, rfl, hk, hall, rfl⟩ := hrel
    have HA := Lib.hid hall
    clear hall
    by_cases hlt : k < n
    · obtain ⟨ad, z, rfl, hzk, hc⟩ := hL.str_at hlt
      have hzs := HS.out z (List.mem_of_getElem? hzk)
      unfold maxLen at hzs
      by_cases hbig : 1048576 < z.size
      · have hbi : (1048576 : Int) < (z.size : Int) := by omega
        have hex := Lib.hid (⟨z, List.mem_of_getElem? hzk, hbig⟩ : ∃ z ∈ ss, 1048576 < z.size)
        clear hzk
        go_wp2_with fail
        go_ret2
        exact ⟨Kp.rfl_ _ _, .inl ⟨hex.out, rfl⟩⟩
      · have hbi : ¬ (1048576 : Int) < (z.size : Int) := by omega
        have hall2 : ∀ x ∈ ss.take (k + 1), x.size ≤ 1048576 := by
          intro x hx
          rw [List.take_add_one, hzk] at hx
          rcases List.mem_append.1 hx with h | h
          · exact HA.out x h
          · obtain rfl : x = z := by simpa using h
            omega
        have HA2 := Lib.hid hall2
        clear hall2 hzk
        go_wp2_with fail
        go_roundg (n - (k + 1))
        case measure => omega
        case rel => exact ⟨k + 1, by omega, by go_num, by omega, HA2.out, rfl⟩
    · have hkn : ss.take k = ss := List.take_of_length_le (by have := H1.out; omega)
      rw [hkn] at HA
      have htot := HT.out HA.out
      have hle : ∀ j, (frms (ss.take j)).length ≤ 900000000 := fun j => by
        have : frms ss = frms (ss.take j) ++ frms (ss.drop j) := by rw [← frms_append, List.take_append_drop]
        rw [this, List.length_append] at htot
        omega
      have HLE := Lib.hid hle
      clear htot hkn hle HT
      go_wp2_with fail
      go_loopg [21] n (fun gk i wr => ∃ k : Nat, n - k ≤ gk ∧ i = .int .i64 k ∧ k ≤ n ∧ Bd w.heap.size w.heap.size (frms (ss.take k)) wr ∧ Below w.heap.size w wr)
      case atStart => exact ⟨0, by omega, rfl, Nat.zero_le _, Lib.fresh_isBuilder _ _ w, (Below.refl _ _).alloc (Nat.le_refl _) _⟩
      case round =>
        obtain ⟨j, hgj, rfl, hj, hbd, hbel⟩ := hrel
        have hszr := hbel.size
        have htr := ht.kp (Kp.of_below hbel)
        by_cases hjt : j < n
        · obtain ⟨ad, z, rfl, hzk, hc⟩ := (hL.kp (Kp.of_below hbel) (by simp)).str_at hjt
          have hzs := HA.out z (List.mem_of_getElem? hzk)
          have hst : frms (ss.take (j + 1)) = frms (ss.take j) ++ frm z.data.toList := frms_succ hzk
          have hle1 := HLE.out (j + 1)
          have hfl := frm_len (p := z.data.toList) (by simp; omega)
          rw [hst, List.length_append] at hle1
          have hzl : z.data.toList.length = z.size := by simp
          rw [hzl] at hfl
          have hl1 : (frms (ss.take j)).length ≤ 900000000 := by omega
          have HST := Lib.hid hst
          have hnb := numB_pos z.size (by omega)
          obtain ⟨nb, hnbe⟩ : ∃ nb, numB (z.size : Int) = nb := ⟨_, rfl⟩
          rw [hnbe] at hnb
          obtain ⟨st, hste⟩ : ∃ st, bs (sum4 (Crc.more 0 z.data.toList)) = st := ⟨_, rfl⟩
          have hstl : st.data.toList = sum4 (Crc.more 0 z.data.toList) := by rw [← hste]; rfl
          have hsts : st.size = 4 := by rw [← hste, bs_size, sum4_len]
          have hnum : bs nb = ByteArray.mk (List.flatMap numB [(z.size : Int)]).toArray := by rw [numB_bs, hnbe]
          have HNUM := Lib.hid hnum.symm
          have HSTE := Lib.hid hste
          have hfr : frm z.data.toList = nb ++ st.data.toList ++ z.data.toList := by unfold frm; rw [hstl, hzl, hnbe]
          have HFR := Lib.hid hfr
          have hsts4 : st.size ≤ 4 := by omega
          have hnbs : (bs nb).size ≤ 10 := by rw [bs_size]; omega
          have hnbl : (bs nb).data.toList = nb := rfl
          clear hst hzk hle1 hfl hzl hnbe hste hstl hsts hnum hfr hnbl
          generalize frms (ss.take j) = l at *
          obtain ⟨s1, hs1⟩ : ∃ s1, bs nb = s1 := ⟨_, rfl⟩
          have hs1l : s1.data.toList = nb := by rw [← hs1]; rfl
          rw [hs1] at hnbs HNUM
          go_wp2_with fail
          refine (nums_to _ 1 1 [(z.size : Int)] s1 _ HNUM.out (Ls.of_at (At.new wr 3 #[.int .i64 (z.size : Int)])) (by
            intro x hx
            obtain rfl : x = (z.size : Int) := by simpa using hx
            exact WalkArith.wf_i64 (by omega)) (by omega)).mono ?_
          rintro e w2 ⟨rfl, hk2⟩
          have hb2 : Below wr.heap.size wr w2 := ((Kp.rfl_ [] wr).alloc _ |>.trans hk2).below (Nat.le_refl _) (by simp)
          have hbd2 := hbd.below hb2
          have hs2 := hb2.size
          go_wp2_with fail
          refine (writes_any w.heap.size w.heap.size l s1 _ hbd2 (by omega) (by omega) (by omega)).mono ?_
          rintro e w3 ⟨rfl, hbd3, hb3⟩
          have hs3 := hb3.size
          have htr3 : Tab w3 := ht.kp (Kp.of_below ((hbel.trans (hb2.mono hszr)).trans hb3))
          go_wp2_with fail
          refine (sumtext_to z st _ htr3 (by unfold maxLen; omega) HSTE.out).mono ?_
          rintro e w4 ⟨rfl, hk4⟩
          have hb4 : Below w3.heap.size w3 w4 := hk4.below (Nat.le_refl _) (by simp)
          have hbd4 := hbd3.below hb4
          have hs4 := hb4.size
          have hl3 : (l ++ s1.data.toList).length ≤ 1000000000 := by rw [List.length_append, hs1l]; omega
          go_wp2_with fail
          refine (writes_any w.heap.size w.heap.size (l ++ s1.data.toList) st _ hbd4 hl3 (by omega) (by omega)).mono ?_
          rintro e w5 ⟨rfl, hbd5, hb5⟩
          have hs5 := hb5.size
          have hl5 : (l ++ s1.data.toList ++ st.data.toList).length ≤ 1000000000 := by rw [List.length_append, List.length_append, hs1l]; simp; omega
          go_wp2_with fail
          refine (writes_any w.heap.size w.heap.size (l ++ s1.data.toList ++ st.data.toList) z _ hbd5 hl5 (by omega) (by omega)).mono ?_
          rintro e w6 ⟨rfl, hbd6, hb6⟩
          have hfin : l ++ s1.data.toList ++ st.data.toList ++ z.data.toList = frms (ss.take (j + 1)) := by rw [HST.out, HFR.out, hs1l]; simp
          rw [hfin] at hbd6
          have hb16 : Below w.heap.size w w6 := ((((hbel.trans (hb2.mono hszr)).trans hb3).trans (hb4.mono (by omega))).trans hb5).trans hb6
          clear hfin hl5 hl3 hs1l hs1
          go_wp2_with fail
          go_roundg (n - (j + 1))
          case measure => omega
          case rel => exact ⟨j + 1, by omega, by go_num, by omega, hbd6, hb16⟩
        · have hkn : ss.take j = ss := List.take_of_length_le (by have := H1.out; omega)
          rw [hkn] at hbd
          have HA' := HA.out
          have HAA := Lib.hid HA'
          clear hkn HA'
          go_wp2_with fail
          refine (string_any w.heap.size w.heap.size (frms ss) _ hbd (by omega)).mono ?_
          rintro e w4 ⟨rfl, hb4⟩
          go_wp2_with fail
          go_ret2
          exact ⟨Kp.of_below (hbel.trans hb4), .inr ⟨HAA.out, rfl⟩⟩
end Go.Proofs.YthnfjkinliekoaaDoor
