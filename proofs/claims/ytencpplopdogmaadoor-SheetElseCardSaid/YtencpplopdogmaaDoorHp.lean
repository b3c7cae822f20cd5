/- The document's Clash: have two unlike ones of these chunks one digest? -/
import Derived.Test.YtencpplopdogmaaDoorGf
import Derived.Test.YtencpplopdogmaaDoorSame
namespace Go.Proofs.YtencpplopdogmaaDoor
set_option maxRecDepth 100000
open Go.RowKit
set_option linter.unusedVariables false

/-- Of the first k chunks no two unlike ones have one digest. -/
def NC (ss : List ByteArray) (k : Nat) : Prop := ∀ (i j : Nat) (x y : ByteArray), j < i → i < k → ss[j]? = some x → ss[i]? = some y → dgs x = dgs y → x = y
/-- Nor has one of the first j ones the i-th one's. -/
def NCi (ss : List ByteArray) (i j : Nat) : Prop := ∀ (p : Nat) (x y : ByteArray), p < j → ss[p]? = some x → ss[i]? = some y → dgs x = dgs y → x = y
theorem NC.zero (ss : List ByteArray) : NC ss 0 := fun i j x y h1 h2 => by omega
theorem NCi.zero (ss : List ByteArray) (i : Nat) : NCi ss i 0 := fun p x y h => by omega
theorem NCi.step {ss : List ByteArray} {i j : Nat} {x y : ByteArray} (h : NCi ss i j) (hx : ss[j]? = some x) (hy : ss[i]? = some y) (hxy : dgs x = dgs y → x = y) : NCi ss i (j + 1) := by
  intro p x' y' hp hx' hy' he
  by_cases hpj : p < j
  · exact h p x' y' hpj hx' hy' he
  · obtain rfl : p = j := by omega
    rw [hx] at hx'
    rw [hy] at hy'
    injection hx' with hx'
    injection hy' with hy'
    subst hx' hy'
    exact hxy he
theorem NC.step {ss : List ByteArray} {k : Nat} (h : NC ss k) (hi : NCi ss k k) : NC ss (k + 1) := by
  intro i j x y hji hik hx hy he
  by_cases hlt : i < k
  · exact h i j x y hji hlt hx hy he
  · obtain rfl : i = k := by omega
    exact hi j x y hji hx hy he
theorem NC.all {ss : List ByteArray} (h : NC ss ss.length) : ∀ x ∈ ss, ∀ y ∈ ss, dgs x = dgs y → x = y := by
  intro x hx y hy he
  obtain ⟨i, hi, rfl⟩ := List.getElem_of_mem hx
  obtain ⟨j, hj, rfl⟩ := List.getElem_of_mem hy
  rcases Nat.lt_trichotomy i j with hij | hij | hij
  · exact h j i _ _ hij hj (List.getElem?_eq_getElem hi) (List.getElem?_eq_getElem hj) he
  · subst hij; rfl
  · exact (h i j _ _ hij hi (List.getElem?_eq_getElem hj) (List.getElem?_eq_getElem hi) he.symm).symm
def Clh (ss : List ByteArray) (w : World) (e : Ending) (w' : World) : Prop := ∃ b : Bool, e = .returned (.bool b) ∧ Kp [] w w' ∧ (b = false → ∀ x ∈ ss, ∀ y ∈ ss, dgs x = dgs y → x = y)
theorem getD_at2 {ss : List ByteArray} {k : Nat} {x : ByteArray} {i : Nat} (h : ss[k]? = some x) (hk : k < i) : ((ss.take i).map dgs)[k]? = some (dgs x) := by
  rw [List.getElem?_map, List.getElem?_take, if_pos hk, h]; rfl

set_option maxRecDepth 100000 in
set_option maxHeartbeats 8000000 in
theorem clash_any (A : Option Addr) (n c : Nat) (ss : List ByteArray) (w : World) (hL : Ls w A n (ss.map Value.string)) (hn : n ≤ 1000000) (hz : ∀ x ∈ ss, x.size ≤ 1000000000) :
    Calls Tryd.prog 24 #[.slice A n c] w (Clh ss w) := by
  have hsl : ss.length = n := by simpa using hL.1
  have HS := Lib.hid hsl
  have HZ := Lib.hid hz
  clear hsl hz
  go_enter Tryd.func24, Tryd.ntmps24
  go_wp2_with fail
  go_loopg [4, 3] n (fun gk i v wr => ∃ k : Nat, n - k ≤ gk ∧ i = .int .i64 k ∧ k ≤ n ∧ wr.ownsRow w.heap.size 9 1 v k (((ss.take k).map dgs).map Value.string) ∧ Below w.heap.size w wr ∧ NC ss k)
  case atStart => exact ⟨0, by omega, rfl, Nat.zero_le _, own_none _ _ _, Below.refl _ _, NC.zero _⟩
  case round =>
    obtain ⟨k, hgk, rfl, hk, hown, hbel, hnc⟩ := hrel
    have hszr := hbel.size
    have hk9 : k ≤ 1099511627776 := by omega
    have HNC := Lib.hid hnc
    clear hnc
    by_cases hlt : k < n
    · have hLr := hL.kp (Kp.of_below hbel) (by simp)
      obtain ⟨ad, y, rfl, hyk, hcy⟩ := hLr.str_at hlt
      have hyz := HZ.out y (List.mem_of_getElem? hyk)
      have HY := Lib.hid hyk
      obtain ⟨dy, hdy⟩ : ∃ d, dgs y = d := ⟨_, rfl⟩
      have HDY := Lib.hid hdy
      have hst : (((ss.take (k + 1)).map dgs).map Value.string) = ((ss.take k).map dgs).map Value.string ++ [.string dy] := by
        rw [List.take_add_one, hyk, ← hdy]; simp
      have HST := Lib.hid hst
      clear hyk hdy hst
      go_wp2_with fail
      refine (rsum_dg y dy _ HDY.out hyz).mono ?_
      rintro e w2 ⟨rfl, hk2⟩
      have hown2 := own_kp hown hk2 (by simp)
      have hb2 : Below w.heap.size w w2 := hbel.trans (hk2.below hszr (by simp))
      have hs2 := hb2.size
      clear hown hbel hk2 hLr hcy hszr
      go_wp2_with (at_builtin; go_must (refine wpl_one_str w2 w.heap.size rfl _ _ rfl _ k _ dy hown2 rfl rfl hs2 hk9 ?_); intro v3 w3 hown3 hb3 _)
      rw [← HST.out] at hown3
      have hb03 := hb2.trans hb3
      have L3 := hL.kp (Kp.of_below hb03) (by simp)
      obtain ⟨D, dc, rfl, hD, -, -, -⟩ := own_open hown3
      obtain ⟨ad', y', e1, hy', hcy⟩ := L3.str_at hlt
      injection e1 with e1
      subst e1
      rw [HY.out] at hy'
      injection hy' with hy'
      subst hy'
      clear hown2 hb2 hs2 hb3
      go_loopg [5] k (fun gk i wr => ∃ j : Nat, k - j ≤ gk ∧ i = .int .i64 j ∧ j ≤ k ∧ (∃ m, wr = w3.drewN m) ∧ NCi ss k j)
      case atStart => exact ⟨0, by omega, rfl, Nat.zero_le _, ⟨0, rfl⟩, NCi.zero _ _⟩
      case round =>
        obtain ⟨j, hgj, rfl, hj, ⟨m, hw⟩, hni⟩ := hrel
        have HNI := Lib.hid hni
        clear hni
        by_cases hjk : j < k
        · have hjn : j < n := by omega
          have Lw : Ls wr (some ad) n (ss.map Value.string) := by rw [hw]; exact L3
          have Dw : Ls wr D (k + 1) (((ss.take (k + 1)).map dgs).map Value.string) := by rw [hw]; exact hD
          have hcyw : wr.cell? (ad.add k) = some (.string y) := by rw [hw]; exact hcy
          obtain ⟨ad', x, e1, hxj, hcx⟩ := Lw.str_at hjn
          injection e1 with e1
          subst e1
          obtain ⟨dd, u, rfl, hu, hcdx⟩ := Dw.str_at (show j < k + 1 by omega)
          rw [getD_at2 hxj (by omega)] at hu
          injection hu with hu
          subst hu
          obtain ⟨dd', u, e1, hu, hcdy⟩ := Dw.str_at (show k < k + 1 by omega)
          injection e1 with e1
          subst e1
          rw [getD_at2 HY.out (by omega)] at hu
          injection hu with hu
          subst hu
          rw [HDY.out] at hcdy
          obtain ⟨dx, hdx⟩ : ∃ d, dgs x = d := ⟨_, rfl⟩
          rw [hdx] at hcdx
          have i1 : (j : Int) < (n : Int) := by omega
          have i2 : (k : Int) < (n : Int) := by omega
          have i3 : (j : Int) < (k : Int) + 1 := by omega
          have i4 : (k : Int) < (k : Int) + 1 := by omega
          have i5 : (0 : Int) ≤ (j : Int) := by omega
          have i6 : (0 : Int) ≤ (k : Int) := by omega
          have HW := Lib.hid hw
          have HX := Lib.hid hxj
          have HDX := Lib.hid hdx
          clear Lw Dw hw hxj hdx
          by_cases hdd : dx = dy
          · by_cases hxy : x = y
            · have HSTEP := Lib.hid (HNI.out.step HX.out HY.out (fun _ => hxy))
              subst hdd hxy
              go_wp2_with fail
              go_quiet (fail)
              have hnx : wr.drewN nq = w3.drewN (m + nq) := by rw [HW.out, World.drewN_drewN]
              have HNX := Lib.hid hnx
              clear hcx hcyw hcdx hcdy hnx HW i1 i2 i3 i4
              generalize wr.drewN nq = wq at *
              go_wp2_with fail
              go_roundg (k - (j + 1))
              case measure => omega
              case rel => exact ⟨j + 1, by omega, by go_num, by omega, ⟨_, HNX.out⟩, HSTEP.out⟩
            · have hne := toList_ne hxy
              subst hdd
              go_wp2_with fail
              go_quiet (fail)
              have hnx : wr.drewN nq = w3.drewN (m + nq) := by rw [HW.out, World.drewN_drewN]
              have HNX := Lib.hid hnx
              clear hcx hcyw hcdx hcdy hnx HW i1 i2 i3 i4
              generalize wr.drewN nq = wq at *
              go_wp2_with fail
              go_ret
              exact ⟨true, rfl, by rw [HNX.out]; exact (Kp.of_below hb03).drewN _, by simp⟩
          · have hne := toList_ne hdd
            have HSTEP := Lib.hid (HNI.out.step HX.out HY.out (fun h => absurd (HDX.out.symm.trans (h.trans HDY.out)) hdd))
            go_wp2_with fail
            go_quiet (fail)
            have hnx : wr.drewN nq = w3.drewN (m + nq) := by rw [HW.out, World.drewN_drewN]
            have HNX := Lib.hid hnx
            clear hcx hcyw hcdx hcdy hnx HW i1 i2 i3 i4
            generalize wr.drewN nq = wq at *
            go_wp2_with fail
            go_roundg (k - (j + 1))
            case measure => omega
            case rel => exact ⟨j + 1, by omega, by go_num, by omega, ⟨_, HNX.out⟩, HSTEP.out⟩
        · obtain rfl : j = k := by omega
          have HNC2 := Lib.hid (HNC.out.step HNI.out)
          have hown4 : wr.ownsRow w.heap.size 9 1 (.slice D (j + 1) dc) (j + 1) (((ss.take (j + 1)).map dgs).map Value.string) := by rw [hw]; exact own_kp hown3 ((Kp.rfl_ [] w3).drewN m) (by simp)
          have hb04 : Below w.heap.size w wr := by rw [hw]; exact ((Kp.of_below hb03).drewN m).below (Nat.le_refl _) (by simp)
          clear hw hown3 hb03 hD L3 hcy
          go_wp2_with fail
          go_roundg (n - (j + 1))
          case measure => omega
          case rel => exact ⟨j + 1, by omega, by go_num, by omega, hown4, hb04, HNC2.out⟩
    · obtain rfl : k = n := by omega
      have hall := HNC.out
      rw [← HS.out] at hall
      have HALL := Lib.hid hall.all
      clear hall
      go_wp2_with fail
      go_ret
      exact ⟨false, rfl, Kp.of_below hbel, fun _ => HALL.out⟩
end Go.Proofs.YtencpplopdogmaaDoor
