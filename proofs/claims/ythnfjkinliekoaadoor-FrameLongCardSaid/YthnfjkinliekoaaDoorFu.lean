/- Frames: the document's own seal and scan; the bound of the laws; awake. -/
import Derived.Test.YthnfjkinliekoaaDoorFt
namespace Go.Proofs.YthnfjkinliekoaaDoor
set_option maxRecDepth 100000
open Go.RowKit
set_option linter.unusedVariables false

set_option maxHeartbeats 2000000 in
theorem rseal_any (A : Option Addr) (n c : Nat) (ss : List ByteArray) (w : World) (hL : Ls w A n (ss.map Value.string)) (hs : ∀ z ∈ ss, z.size ≤ maxLen) (hn : n ≤ 100000) (htot : (∀ z ∈ ss, z.size ≤ 1048576) → (frms ss).length ≤ 900000000) :
    Calls Tryd.prog 24 #[.slice A n c] w (Sealed ss w) := by
  have hlen : ss.length = n := by simpa using hL.1
  have H1 := Lib.hid hlen
  have HS := Lib.hid hs
  have HT := Lib.hid htot
  clear hlen hs htot
  go_enter Tryd.func24, Tryd.ntmps24
  go_wp2_with fail
  go_loopg [5] n (fun gk i wr => ∃ k : Nat, n - k ≤ gk ∧ i = .int .i64 k ∧ k ≤ n ∧ (∀ z ∈ ss.take k, z.size ≤ 1048576) ∧ w.alloc (.cells #[] 5) = wr)
  case atStart => exact ⟨0, by omega, rfl, Nat.zero_le _, by simp, rfl⟩
  case round =>
    obtain ⟨k, hgk, rfl, hk, hall, hw⟩ := hrel
    have hkw : Kp [] w wr := by rw [← hw]; exact (Kp.rfl_ _ _).alloc _
    have HW := Lib.hid hw
    have HA := Lib.hid hall
    clear hall hw
    by_cases hlt : k < n
    · obtain ⟨ad, z, rfl, hzk, hc⟩ := (hL.kp hkw (by simp)).str_at hlt
      have hzs := HS.out z (List.mem_of_getElem? hzk)
      unfold maxLen at hzs
      by_cases hbig : 1048576 < z.size
      · have hbi : (1048576 : Int) < (z.size : Int) := by omega
        have hex := Lib.hid (⟨z, List.mem_of_getElem? hzk, hbig⟩ : ∃ z ∈ ss, 1048576 < z.size)
        clear hzk
        go_wp2_with fail
        go_ret2
        exact ⟨hkw, .inl ⟨hex.out, rfl⟩⟩
      · have hbi : ¬ (1048576 : Int) < (z.size : Int) := by omega
        have hall2 : ∀ x ∈ ss.take (k + 1), x.size ≤ 1048576 := by
          intro x hx
          rw [List.take_add_one, hzk] at hx
          rcases List.mem_append.1 hx with h | h
          · exact HA.out x h
          · obtain rfl : x = z := by simpa using h
            omega
        have HA2 := Lib.hid hall2
        clear hall2 hzk
        go_wp2_with fail
        go_roundg (n - (k + 1))
        case measure => omega
        case rel => exact ⟨k + 1, by omega, by go_num, by omega, HA2.out, HW.out⟩
    · have hkn : ss.take k = ss := List.take_of_length_le (by have := H1.out; omega)
      rw [hkn] at HA
      have htot := HT.out HA.out
      have hle : ∀ j, (frms (ss.take j)).length ≤ 900000000 := fun j => by
        have : frms ss = frms (ss.take j) ++ frms (ss.drop j) := by rw [← frms_append, List.take_append_drop]
        rw [this, List.length_append] at htot
        omega
      have HLE := Lib.hid hle
      have hw := HW.out
      subst hw
      clear htot hkn hle HT HW hkw
      go_wp2_with fail
      go_loopg [4, 6] n (fun gk v i wr => ∃ k : Nat, n - k ≤ gk ∧ i = .int .i64 k ∧ k ≤ n ∧ OwnB w.heap.size wr v (frms (ss.take k)) ∧ Below w.heap.size w wr)
      case atStart => exact ⟨0, by omega, rfl, Nat.zero_le _, own_empty w _, (Below.refl _ _).alloc (Nat.le_refl _) _⟩
      case round =>
        obtain ⟨j, hgj, rfl, hj, hown, hbel⟩ := hrel
        have hszr := hbel.size
        by_cases hjt : j < n
        · obtain ⟨ad, z, rfl, hzk, hc⟩ := (hL.kp (Kp.of_below hbel) (by simp)).str_at hjt
          have hzs := HA.out z (List.mem_of_getElem? hzk)
          have hst : frms (ss.take (j + 1)) = frms (ss.take j) ++ frm z.data.toList := frms_succ hzk
          have hle1 := HLE.out (j + 1)
          rw [hst, List.length_append] at hle1
          obtain ⟨fr, hfr⟩ : ∃ fr, bs (frm z.data.toList) = fr := ⟨_, rfl⟩
          have hfl : fr.data.toList = frm z.data.toList := by rw [← hfr]; rfl
          have hfs : fr.size = (frm z.data.toList).length := by rw [← hfr, bs_size]
          have hb1 : (frms (ss.take j)).length + fr.size ≤ 1099511627776 := by omega
          have HST := Lib.hid hst
          have HFR := Lib.hid hfr
          have HFL := Lib.hid hfl
          clear hst hzk hle1 hfr hfl hfs
          generalize frms (ss.take j) = l at *
          go_wp2_with fail
          refine (rone_to z fr _ (by omega) HFR.out).mono ?_
          rintro e w4 ⟨rfl, hk4⟩
          have hown4 : OwnB w.heap.size w4 _ l := own_kp hown hk4 (by simp)
          have hb4 : Below w.heap.size w w4 := hbel.trans (hk4.below hszr (by simp))
          have hs4 := hb4.size
          clear hown
          go_wp2_with (at_builtin; go_must (refine wpl_bstr w4 w.heap.size rfl _ _ rfl _ l fr hown4 rfl rfl hs4 hb1 ?_); intro v5 w5 hown5 hb5)
          have hb15 := hb4.trans hb5
          rw [HFL.out, ← HST.out] at hown5
          have HO := Lib.hid hown5
          clear hown5 hown4 hb5
          go_wp2_with fail
          go_roundg (n - (j + 1))
          case measure => omega
          case rel => exact ⟨j + 1, by omega, by go_num, by omega, HO.out, hb15⟩
        · have hkn : ss.take j = ss := List.take_of_length_le (by have := H1.out; omega)
          rw [hkn] at hown
          have hcv := conv_own hown
          have HA' := HA.out
          have HAA := Lib.hid HA'
          clear hkn HA'
          go_wp2_with fail
          go_ret2
          exact ⟨Kp.of_below hbel, .inr ⟨HAA.out, rfl⟩⟩

set_option maxHeartbeats 2000000 in
theorem rscan_any (s : ByteArray) (w : World) (hs : s.size ≤ 100000000) :
    Calls Tryd.prog 28 #[.string s] w (Scanned s w) := by
  have hll : s.data.toList.length = s.size := by simp
  have HLL := Lib.hid hll
  clear hll
  go_enter Tryd.func28, Tryd.ntmps28
  go_wp2_with fail
  go_loopg [4, 5] (s.size + 1) (fun gk v rv wr => ∃ (acc : List ByteArray) (pos : Nat), s.size + 1 - pos ≤ gk ∧ rv = .int .i64 pos ∧ pos ≤ s.size ∧ Far s.data.toList acc pos ∧ wr.ownsRow w.heap.size 9 1 v acc.length (acc.map Value.string) ∧ Below w.heap.size w wr)
  case atStart => exact ⟨[], 0, by omega, rfl, by omega, Far.start _, own_none _ _ _, Below.refl _ _⟩
  case round =>
    obtain ⟨acc, pos, hgk, rfl, hps, hfar, hown, hbel⟩ := hrel
    have hsz := hbel.size
    have hal : acc.length ≤ 1099511627776 := by have := hfar.1; have := hfar.2.1; have := HLL.out; omega
    obtain ⟨r, hr⟩ : ∃ r, s.extract pos s.size = r := ⟨_, rfl⟩
    have hrb : r = bs (s.data.toList.drop pos) := by rw [← hr, ex_all s pos s.size rfl]
    have hrs : r.size ≤ 100000000 := by rw [hrb, bs_size, List.length_drop, HLL.out]; omega
    have hrl : r.data.toList = s.data.toList.drop pos := by rw [hrb]; rfl
    have HRL := Lib.hid hrl
    clear hrb hrl
    go_wp2_with fail
    refine (ropen_any r _ hrs).mono ?_
    rintro e w2 ⟨hk2, h⟩
    have hb2 : Below w.heap.size w w2 := hbel.trans (hk2.below hsz (by simp))
    have hown2 := own_kp hown hk2 (by simp)
    have hs2 := hb2.size
    rw [HRL.out] at h
    rcases h with ⟨ho, rfl⟩ | ⟨u, n, ho, rfl⟩
    · have hend := hfar.end_ ho
      have HE := Lib.hid hend
      clear ho hend hfar hown hk2
      go_wp2_with fail
      go_ret2
      exact ⟨_, ret_vi (by rw [HE.out]), by rw [HE.out]; exact hown2, Kp.of_below hb2⟩
    · have hnx := hfar.next ho
      obtain ⟨-, o2, -, o4, -⟩ := opn_some ho
      rw [List.length_drop, HLL.out] at o2
      obtain ⟨p, hp⟩ : ∃ p, bs (((s.data.toList.drop pos).drop (u + 4)).take n) = p := ⟨_, rfl⟩
      obtain ⟨t, hte⟩ : ∃ t, bs ((s.data.toList.drop pos).drop (u + 4 + n)) = t := ⟨_, rfl⟩
      have hts : t.size = s.size - (pos + (u + 4 + n)) := by rw [← hte, bs_size, List.length_drop, List.length_drop, HLL.out]; omega
      have hti : (s.size : Int) - (t.size : Int) = ((pos + (u + 4 + n) : Nat) : Int) := by omega
      have hp2 : pos + (u + 4 + n) ≤ s.size := by omega
      have hp3 : pos < pos + (u + 4 + n) := by omega
      have htl : t.size ≤ s.size := by omega
      rw [hp] at hnx ⊢
      rw [hte]
      obtain ⟨q, hq⟩ : ∃ q, pos + (u + 4 + n) = q := ⟨_, rfl⟩
      rw [hq] at hnx hti hp2 hp3
      have HN := Lib.hid hnx
      have HTI := Lib.hid hti
      clear hp hte hts ho hfar hnx hown hk2 o2 hq hti
      go_wp2_with (at_builtin; go_must (refine wpl_one_str w2 w.heap.size rfl _ _ rfl _ acc.length _ p hown2 rfl rfl hs2 hal ?_); intro v3 w3 hown3 hbel3 _)
      have hb3 := hb2.trans hbel3
      have ho3 : w3.ownsRow w.heap.size 9 1 v3 (acc ++ [p]).length ((acc ++ [p]).map Value.string) := by rw [List.map_append, List.length_append]; exact hown3
      have HO := Lib.hid ho3
      clear ho3 hown3 hown2
      go_wp2_with fail
      go_roundg (s.size + 1 - q)
      case measure => omega
      case rel => exact ⟨acc ++ [p], q, by omega, by rw [HTI.out], hp2, HN.out, HO.out, hb3⟩

def Many (ss : List ByteArray) (w : World) (e : Ending) (w' : World) : Prop := ∃ b : Bool, e = .returned (.bool b) ∧ w = w' ∧ (b = false → tot ss ≤ 8192)
set_option maxHeartbeats 1000000 in
theorem many_any (A : Option Addr) (n c : Nat) (ss : List ByteArray) (w : World) (hL : Ls w A n (ss.map Value.string)) (hs : ∀ z ∈ ss, z.size ≤ maxLen) (hnc : n ≤ c) (hc : c ≤ maxLen) :
    Calls Tryd.prog 22 #[.slice A n c] w (Many ss w) := by
  have hlen : ss.length = n := by simpa using hL.1
  have HL := Lib.hid hlen
  clear hlen
  unfold maxLen at hc
  go_enter Tryd.func22, Tryd.ntmps22
  go_wp2_with fail
  go_loopg [3, 8] n (fun gk a i wr => ∃ (k acc : Nat), n - k ≤ gk ∧ i = .int .i64 k ∧ a = .int .i64 acc ∧ k ≤ n ∧ acc ≤ 8192 ∧ tot (ss.take k) = acc ∧ w = wr)
  case atStart => exact ⟨0, 0, by omega, rfl, rfl, Nat.zero_le _, by omega, rfl, rfl⟩
  case round =>
    obtain ⟨k, acc, hgk, rfl, rfl, hk, hacc, hto, rfl⟩ := hrel
    have HT := Lib.hid hto
    clear hto
    by_cases hlt : k < n
    · obtain ⟨ad, s, rfl, hsk, hcw⟩ := hL.str_at hlt
      have hsz := hs s (List.mem_of_getElem? hsk)
      unfold maxLen at hsz
      have hst := tot_succ hsk
      rw [HT.out] at hst
      have HST := Lib.hid hst
      clear hst hsk
      by_cases hbig : s.size < 1048576
      · by_cases hov : acc + (1 + s.size) ≤ 8192
        · go_wp2_with fail
          go_roundg (n - (k + 1))
          case measure => omega
          case rel => exact ⟨k + 1, acc + (1 + s.size), by omega, by go_num, by go_num, by omega, hov, HST.out, rfl⟩
        · go_wp2_with fail
          go_ret
          exact ⟨true, rfl, rfl, by simp⟩
      · go_wp2_with fail
        go_ret
        exact ⟨true, rfl, rfl, by simp⟩
    · have hkn : ss.take k = ss := List.take_of_length_le (by have := HL.out; omega)
      rw [hkn] at HT
      go_wp2_with fail
      go_ret
      exact ⟨false, rfl, rfl, fun _ => by have := HT.out; omega⟩
end Go.Proofs.YthnfjkinliekoaaDoor
