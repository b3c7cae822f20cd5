/- Package sheet: which sheets are right; the document's own word on that. -/
import Derived.Test.YtencpplopdogmaaDoorHa
import Derived.Test.YtencpplopdogmaaDoorRh
namespace Go.Proofs.YtencpplopdogmaaDoor
set_option maxRecDepth 100000
open Go.RowKit
set_option linter.unusedVariables false

theorem count_q (n m : Int) (w : World) (k : Nat) (h : cntZ n = m) (h1 : -9223372036854775808 ≤ n) (h2 : n ≤ 9223372036854775807) :
    Calls Tryd.prog 31 #[.int .i64 n] (w.drewN k) fun e w' => e = .returned (.int .i64 m) ∧ ∃ m, w' = w.drewN m :=
  (count_any n (w.drewN k) h1 h2).mono fun e w' ⟨he, hw⟩ => ⟨by rw [he, h], k, hw.symm⟩
theorem rcount_q (n m : Int) (w : World) (k : Nat) (h : cntZ n = m) (h1 : -9223372036854775808 ≤ n) (h2 : n ≤ 9223372036854775807) :
    Calls Tryd.prog 32 #[.int .i64 n] (w.drewN k) fun e w' => e = .returned (.int .i64 m) ∧ ∃ m, w' = w.drewN m :=
  (rcount_any n (w.drewN k) h1 h2).mono fun e w' ⟨he, hw⟩ => ⟨by rw [he, h], k, hw.symm⟩
def RtSays (z : Int) (hs : List ByteArray) (w : World) (e : Ending) (w' : World) : Prop := e = .returned (.int .i64 (if Rt z hs then 0 else 3)) ∧ Kp [] w w'
def RRtSays (z : Int) (hs : List ByteArray) (w : World) (e : Ending) (w' : World) : Prop := e = .returned (.bool (decide (Rt z hs))) ∧ Kp [] w w'
theorem RtSays.no {z : Int} {hs : List ByteArray} {w w' : World} {e : Ending} (he : e = .returned (.int .i64 3)) (h : ¬ Rt z hs) (hk : Kp [] w w') : RtSays z hs w e w' := ⟨by rw [he, if_neg h], hk⟩
theorem RtSays.yes {z : Int} {hs : List ByteArray} {w w' : World} {e : Ending} (he : e = .returned (.int .i64 0)) (h : Rt z hs) (hk : Kp [] w w') : RtSays z hs w e w' := ⟨by rw [he, if_pos h], hk⟩
theorem RRtSays.no {z : Int} {hs : List ByteArray} {w w' : World} {e : Ending} (he : e = .returned (.bool false)) (h : ¬ Rt z hs) (hk : Kp [] w w') : RRtSays z hs w e w' := ⟨by rw [he, decide_eq_false h], hk⟩
theorem RRtSays.yes {z : Int} {hs : List ByteArray} {w w' : World} {e : Ending} (he : e = .returned (.bool true)) (h : Rt z hs) (hk : Kp [] w w') : RRtSays z hs w e w' := ⟨by rw [he, decide_eq_true h], hk⟩
theorem all_succ {hs : List ByteArray} {k : Nat} {s : ByteArray} (h : ∀ x ∈ hs.take k, x.size = 32) (hk : hs[k]? = some s) (hs32 : s.size = 32) : ∀ x ∈ hs.take (k + 1), x.size = 32 := by
  intro x hx
  rw [List.take_add_one, hk] at hx
  rcases List.mem_append.1 hx with hx | hx
  · exact h x hx
  · obtain rfl : x = s := by simpa using hx
    exact hs32

set_option maxRecDepth 100000 in
set_option maxHeartbeats 2000000 in
theorem scheck_any (z : Int) (A : Option Addr) (n c : Nat) (hs : List ByteArray) (w : World) (hL : Ls w A n (hs.map Value.string)) (hn : n ≤ 1099511627776) (h1 : -9223372036854775808 ≤ z) (h2 : z ≤ 9223372036854775807) :
    Calls Tryd.prog 17 #[.agg #[.int .i64 z, .slice A n c]] w (RtSays z hs w) := by
  have hlen : hs.length = n := by simpa using hL.1
  have HL := Lib.hid hlen
  by_cases hr : (0 ≤ z ∧ z ≤ 512) ∧ (n : Int) = cntZ z
  · obtain ⟨⟨hz0, hz1⟩, hc⟩ := hr
    have hc' := hc.symm
    have HC := Lib.hid hc'
    clear hlen hc hc'
    go_enter Tryd.func17, Tryd.ntmps17
    go_wp2_with fail
    go_quiet ((go_at_call 31; exact count_q z (n : Int) _ _ HC.out h1 h2))
    go_wp2_with fail
    have hk1 : Kp [] w ((w.alloc (.cells #[.int .i64 z, .slice A n c] 25)).drewN nq) := ((Kp.rfl_ [] w).alloc _).drewN nq
    generalize (w.alloc (.cells #[.int .i64 z, .slice A n c] 25)).drewN nq = w1 at *
    have hL1 := hL.kp hk1 (by simp)
    go_loopg [25] n (fun gk i wr => ∃ k : Nat, n - k ≤ gk ∧ i = .int .i64 k ∧ k ≤ n ∧ w1 = wr ∧ ∀ x ∈ hs.take k, x.size = 32)
    case atStart => exact ⟨0, by omega, rfl, Nat.zero_le _, rfl, by simp⟩
    case round =>
      obtain ⟨k, hgk, rfl, hk, rfl, hall⟩ := hrel
      have HA := Lib.hid hall
      clear hall
      by_cases hlt : k < n
      · obtain ⟨ad, s, rfl, hsk, hcw⟩ := hL1.str_at hlt
        have HS := Lib.hid hsk
        clear hsk
        by_cases h32 : (s.size : Int) = 32
        · have hst := all_succ HA.out HS.out (by omega)
          have HST := Lib.hid hst
          clear hst
          go_wp2_with fail
          go_roundg (n - (k + 1))
          case measure => omega
          case rel => exact ⟨k + 1, by omega, by go_num, by omega, rfl, HST.out⟩
        · have hno : ¬ Rt z hs := fun h => h32 (by have := h.2.2 s (List.mem_of_getElem? HS.out); omega)
          have HNO := Lib.hid hno
          clear hno
          go_wp2_with fail
          go_ret
          exact .no rfl HNO.out hk1
      · have hkn : hs.take k = hs := List.take_of_length_le (by have := HL.out; omega)
        have hyes : Rt z hs := ⟨⟨hz0, hz1⟩, by rw [HL.out]; exact HC.out.symm, by have := HA.out; rwa [hkn] at this⟩
        have HY := Lib.hid hyes
        clear hyes hkn
        go_wp2_with fail
        go_ret
        exact .yes rfl HY.out hk1
  · have hno : ¬ Rt z hs := fun h => hr ⟨h.1, by rw [← hlen]; exact h.2.1⟩
    have HNO := Lib.hid hno
    clear hno hlen
    obtain ⟨q, hq⟩ : ∃ q, cntZ z = q := ⟨_, rfl⟩
    have HQ := Lib.hid hq
    rcases (show z < 0 ∨ (0 ≤ z ∧ 512 < z) ∨ ((0 ≤ z ∧ z ≤ 512) ∧ ¬ ((n : Int) = q)) by rw [hq] at hr; omega) with h | ⟨h, h'⟩ | ⟨⟨h, h'⟩, h''⟩
    all_goals
      clear hq hr
      try have hnb : ((n : Int) != q) = true := by rw [bne_iff_ne]; exact h''
      go_enter Tryd.func17, Tryd.ntmps17
      go_wp2_with fail
      first
        | go_quiet (fail)
        | go_quiet ((go_at_call 31; exact count_q z q _ _ HQ.out h1 h2))
      go_wp2_with fail
      go_ret
      exact .no rfl HNO.out (((Kp.rfl_ [] w).alloc _).drewN _)

set_option maxRecDepth 100000 in
set_option maxHeartbeats 2000000 in
theorem sright_any (z : Int) (A : Option Addr) (n c : Nat) (hs : List ByteArray) (w : World) (hL : Ls w A n (hs.map Value.string)) (hn : n ≤ 1099511627776) (h1 : -9223372036854775808 ≤ z) (h2 : z ≤ 9223372036854775807) :
    Calls Tryd.prog 18 #[.agg #[.int .i64 z, .slice A n c]] w (RRtSays z hs w) := by
  have hlen : hs.length = n := by simpa using hL.1
  have HL := Lib.hid hlen
  by_cases hr : (0 ≤ z ∧ z ≤ 512) ∧ (n : Int) = cntZ z
  · obtain ⟨⟨hz0, hz1⟩, hc⟩ := hr
    have hc' := hc.symm
    have HC := Lib.hid hc'
    clear hlen hc hc'
    go_enter Tryd.func18, Tryd.ntmps18
    go_wp2_with fail
    go_quiet ((go_at_call 32; exact rcount_q z (n : Int) _ _ HC.out h1 h2))
    go_wp2_with fail
    have hk1 : Kp [] w ((w.alloc (.cells #[.int .i64 z, .slice A n c] 25)).drewN nq) := ((Kp.rfl_ [] w).alloc _).drewN nq
    have hc1 : ((w.alloc (.cells #[.int .i64 z, .slice A n c] 25)).drewN nq).cell? ⟨w.heap.size, 1, none⟩ = some (.slice A n c) := At.cell (At.new w 25 #[.int .i64 z, .slice A n c]) 1
    generalize (w.alloc (.cells #[.int .i64 z, .slice A n c] 25)).drewN nq = w1 at *
    have hL1 := hL.kp hk1 (by simp)
    go_loopg [3] n (fun gk i wr => ∃ k : Nat, n - k ≤ gk ∧ i = .int .i64 k ∧ k ≤ n ∧ w1 = wr ∧ ∀ x ∈ hs.take k, x.size = 32)
    case atStart => exact ⟨0, by omega, rfl, Nat.zero_le _, rfl, by simp⟩
    case round =>
      obtain ⟨k, hgk, rfl, hk, rfl, hall⟩ := hrel
      have HA := Lib.hid hall
      clear hall
      by_cases hlt : k < n
      · obtain ⟨ad, s, rfl, hsk, hcw⟩ := hL1.str_at hlt
        have HS := Lib.hid hsk
        clear hsk
        by_cases h32 : (s.size : Int) = 32
        · have hst := all_succ HA.out HS.out (by omega)
          have HST := Lib.hid hst
          clear hst
          go_wp2_with fail
          go_roundg (n - (k + 1))
          case measure => omega
          case rel => exact ⟨k + 1, by omega, by go_num, by omega, rfl, HST.out⟩
        · have hno : ¬ Rt z hs := fun h => h32 (by have := h.2.2 s (List.mem_of_getElem? HS.out); omega)
          have HNO := Lib.hid hno
          clear hno
          go_wp2_with fail
          go_ret
          exact .no rfl HNO.out hk1
      · have hkn : hs.take k = hs := List.take_of_length_le (by have := HL.out; omega)
        have hyes : Rt z hs := ⟨⟨hz0, hz1⟩, by rw [HL.out]; exact HC.out.symm, by have := HA.out; rwa [hkn] at this⟩
        have HY := Lib.hid hyes
        clear hyes hkn
        go_wp2_with fail
        go_ret
        exact .yes rfl HY.out hk1
  · have hno : ¬ Rt z hs := fun h => hr ⟨h.1, by rw [← hlen]; exact h.2.1⟩
    have HNO := Lib.hid hno
    clear hno hlen
    obtain ⟨q, hq⟩ : ∃ q, cntZ z = q := ⟨_, rfl⟩
    have HQ := Lib.hid hq
    rcases (show z < 0 ∨ (0 ≤ z ∧ 512 < z) ∨ ((0 ≤ z ∧ z ≤ 512) ∧ ¬ ((n : Int) = q)) by rw [hq] at hr; omega) with h | ⟨h, h'⟩ | ⟨⟨h, h'⟩, h''⟩
    all_goals
      clear hq hr
      try have hnb : ((n : Int) != q) = true := by rw [bne_iff_ne]; exact h''
      go_enter Tryd.func18, Tryd.ntmps18
      go_wp2_with fail
      first
        | go_quiet (fail)
        | go_quiet ((go_at_call 32; exact rcount_q z q _ _ HQ.out h1 h2))
      go_wp2_with fail
      go_ret
      exact .no rfl HNO.out (((Kp.rfl_ [] w).alloc _).drewN _)
end Go.Proofs.YtencpplopdogmaaDoor
