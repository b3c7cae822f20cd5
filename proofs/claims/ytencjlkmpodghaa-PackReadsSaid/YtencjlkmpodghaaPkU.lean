/- The document's own reader: a text, a count; the program's count. -/
import Derived.Test.YtencjlkmpodghaaPkV
namespace Go.Proofs.Ytencjlkmpodghaa
set_option maxRecDepth 100000
open Go.RowKit
set_option linter.unusedVariables false

/-- What a text is refused for. -/
def NoText (s : ByteArray) (k : Nat) (n : Int) (u : Nat) : Prop := u = 0 ∨ n < 0 ∨ (s.size : Int) - ((k + u : Nat) : Int) < n
def RText (g : Nat) (s : ByteArray) (w : World) (e : Ending) (w' : World) : Prop := e = .returned (.string ⟨#[]⟩) ∧ (∃ k, Rrd w' g s k true) ∧ Kp [g] w w'
def RCount (g : Nat) (s : ByteArray) (w : World) (e : Ending) (w' : World) : Prop := e = .returned (.int .i64 0) ∧ (∃ k, Rrd w' g s k true) ∧ Kp [g] w w'

set_option maxHeartbeats 2000000 in
theorem rrtext_bad (g : Nat) (s : ByteArray) (k : Nat) (w : World) (h : Rrd w g s k true) :
    Calls Try.prog 25 #[.pointer (some ⟨g, 0, none⟩)] w (RText g s w) := by
  go_enter Try.func25, Try.ntmps25
  go_wp2_with fail
  refine (rrnum_bad g s k _ h).mono ?_
  rintro e w1 ⟨rfl, rfl⟩
  obtain ⟨c0, c1, c2, f1, f2, hlt⟩ := h.cells
  go_wp2_with fail
  go_quiet (fail)
  have hq : Rrd (w.drewN nq) g s k true := h
  have hkq : Kp [] w (w.drewN nq) := (Kp.rfl_ _ _).drewN _
  clear c0 c1 c2 f1 f2 hlt
  generalize w.drewN nq = wq at *
  obtain ⟨c0, c1, c2, f1, f2, hlt⟩ := hq.cells
  go_wp2_with fail
  go_ret
  exact ⟨rfl, ⟨k, hq.spoil⟩, (hkq.mono (T := [g]) (by simp)).set (by simp) _⟩
set_option maxHeartbeats 2000000 in
theorem rrcount_bad (g : Nat) (s : ByteArray) (k : Nat) (w : World) (h : Rrd w g s k true) :
    Calls Try.prog 27 #[.pointer (some ⟨g, 0, none⟩)] w (RCount g s w) := by
  go_enter Try.func27, Try.ntmps27
  go_wp2_with fail
  refine (rrnum_bad g s k _ h).mono ?_
  rintro e w1 ⟨rfl, rfl⟩
  obtain ⟨c0, c1, c2, f1, f2, hlt⟩ := h.cells
  go_wp2_with fail
  go_quiet (fail)
  have hq : Rrd (w.drewN nq) g s k true := h
  have hkq : Kp [] w (w.drewN nq) := (Kp.rfl_ _ _).drewN _
  clear c0 c1 c2 f1 f2 hlt
  generalize w.drewN nq = wq at *
  obtain ⟨c0, c1, c2, f1, f2, hlt⟩ := hq.cells
  go_wp2_with fail
  go_ret
  exact ⟨rfl, ⟨k, hq.spoil⟩, (hkq.mono (T := [g]) (by simp)).set (by simp) _⟩

set_option maxHeartbeats 4000000 in
theorem rrtext_no (g : Nat) (s : ByteArray) (k : Nat) (n : Int) (u : Nat) (w : World) (h : Rrd w g s k false) (hd : decN (s.data.toList.drop k) = (n, u)) (hno : NoText s k n u) (hn1 : -9223372036854775808 ≤ n) (hn2 : n ≤ 9223372036854775807) (hk : k + u ≤ s.size) (hs : s.size ≤ 1000000000) :
    Calls Try.prog 25 #[.pointer (some ⟨g, 0, none⟩)] w (RText g s w) := by
  have HD := Lib.hid hd
  clear hd
  have hc : u = 0 ∨ (¬ u = 0 ∧ n < 0) ∨ (¬ u = 0 ∧ ¬ n < 0 ∧ (s.size : Int) - ((k + u : Nat) : Int) < n) := by unfold NoText at hno; omega
  clear hno
  rcases hc with hu | ⟨hu, hc⟩ | ⟨hu, hc, hc2⟩
  · subst hu
    go_enter Try.func25, Try.ntmps25
    go_wp2_with fail
    refine (rrnum_to g s k n 0 _ h HD.out (by omega) hs).mono ?_
    rintro e w1 ⟨rfl, h1, hk1⟩
    have h2 : Rrd w1 g s k true := h1
    clear h1 h
    obtain ⟨c0, c1, c2, f1, f2, hlt⟩ := h2.cells
    go_wp2_with fail
    go_quiet (fail)
    have hq : Rrd (w1.drewN nq) g s k true := h2
    have hkq := hk1.drewN nq
    clear c0 c1 c2 f1 f2 hlt h2 hk1
    generalize w1.drewN nq = wq at *
    obtain ⟨c0, c1, c2, f1, f2, hlt⟩ := hq.cells
    go_wp2_with fail
    go_ret
    exact ⟨rfl, ⟨k, hq.spoil⟩, hkq.set (by simp) _⟩
  · go_enter Try.func25, Try.ntmps25
    go_wp2_with fail
    refine (rrnum_to g s k n u _ h HD.out (by omega) hs).mono ?_
    rintro e w1 ⟨rfl, h1, hk1⟩
    have hub : (u == 0) = false := by rw [beq_eq_false_iff_ne]; exact hu
    rw [hub] at h1
    clear h hub
    generalize k + u = K at *
    obtain ⟨c0, c1, c2, f1, f2, hlt⟩ := h1.cells
    go_wp2_with fail
    go_quiet (fail)
    have hq : Rrd (w1.drewN nq) g s K false := h1
    have hkq := hk1.drewN nq
    clear c0 c1 c2 f1 f2 hlt h1 hk1
    generalize w1.drewN nq = wq at *
    obtain ⟨c0, c1, c2, f1, f2, hlt⟩ := hq.cells
    go_wp2_with fail
    go_ret
    exact ⟨rfl, ⟨K, hq.spoil⟩, hkq.set (by simp) _⟩
  · go_enter Try.func25, Try.ntmps25
    go_wp2_with fail
    refine (rrnum_to g s k n u _ h HD.out (by omega) hs).mono ?_
    rintro e w1 ⟨rfl, h1, hk1⟩
    have hub : (u == 0) = false := by rw [beq_eq_false_iff_ne]; exact hu
    rw [hub] at h1
    clear h hub
    generalize k + u = K at *
    obtain ⟨c0, c1, c2, f1, f2, hlt⟩ := h1.cells
    have hw1 : IntKind.i64.wrap ((s.size : Int) - (K : Int)) = (s.size : Int) - (K : Int) := IntWalk.i64_in _ (by omega)
    go_wp2_with fail
    go_quiet (fail)
    have hq : Rrd (w1.drewN nq) g s K false := h1
    have hkq := hk1.drewN nq
    clear c0 c1 c2 f1 f2 hlt h1 hk1 hw1
    generalize w1.drewN nq = wq at *
    obtain ⟨c0, c1, c2, f1, f2, hlt⟩ := hq.cells
    go_wp2_with fail
    go_ret
    exact ⟨rfl, ⟨K, hq.spoil⟩, hkq.set (by simp) _⟩
set_option maxHeartbeats 4000000 in
theorem rrtext_yes (g : Nat) (s t : ByteArray) (k m u K : Nat) (w : World) (h : Rrd w g s k false) (hd : decN (s.data.toList.drop k) = ((m : Int), u)) (hu : 0 < u) (hK : k + u = K) (hm : K + m ≤ s.size) (hs : s.size ≤ 1000000000) (ht : s.extract K (K + m) = t) :
    Calls Try.prog 25 #[.pointer (some ⟨g, 0, none⟩)] w fun e w' => e = .returned (.string t) ∧ Rrd w' g s (K + m) false ∧ Kp [g] w w' := by
  have HD := Lib.hid hd
  have HK := Lib.hid hK
  have HT := Lib.hid ht
  have hk : k ≤ s.size := by omega
  clear hd hK ht
  go_enter Try.func25, Try.ntmps25
  go_wp2_with fail
  refine (rrnum_to g s k m u _ h HD.out hk hs).mono ?_
  rintro e w1 ⟨rfl, h1, hk1⟩
  have hub : (u == 0) = false := by rw [beq_eq_false_iff_ne]; omega
  rw [hub, HK.out] at h1
  clear h hub HD HK hk
  obtain ⟨c0, c1, c2, f1, f2, hlt⟩ := h1.cells
  have hw1 : IntKind.i64.wrap ((s.size : Int) - (K : Int)) = (s.size : Int) - (K : Int) := IntWalk.i64_in _ (by omega)
  have hm0 : ¬ (m : Int) < 0 := by omega
  have hm1 : ¬ (s.size : Int) - (K : Int) < (m : Int) := by omega
  go_wp2_with fail
  go_quiet (fail)
  have hq : Rrd (w1.drewN nq) g s K false := h1
  have hkq := hk1.drewN nq
  clear c0 c1 c2 f1 f2 hlt h1 hk1 hw1
  generalize w1.drewN nq = wq at *
  obtain ⟨c0, c1, c2, f1, f2, hlt⟩ := hq.cells
  have hw2 : IntKind.i64.wrap ((K : Int) + (m : Int)) = (K : Int) + (m : Int) := IntWalk.i64_in _ (by omega)
  have i1 : (0 : Int) ≤ (K : Int) := by omega
  have i2 : (K : Int) ≤ (K : Int) + (m : Int) := by omega
  have i3 : (K : Int) + (m : Int) ≤ (s.size : Int) := by omega
  have i4 : ((K : Int) + (m : Int)).toNat = K + m := by omega
  have i5 : (0 : Int) ≤ (m : Int) := by omega
  go_wp2_with fail
  go_quiet (fail)
  have hq2 : Rrd (wq.drewN nq) g s K false := hq
  have hkq2 := hkq.drewN nq
  clear c0 c1 c2 f1 f2 hlt hq hkq i1 i2 i3 i4 i5
  generalize wq.drewN nq = wp at *
  obtain ⟨c0, c1, c2, f1, f2, hlt⟩ := hq2.cells
  go_wp2_with fail
  go_ret
  exact ⟨by rw [← HT.out]; rfl, hq2.adv (by omega), hkq2.set (by simp) _⟩

set_option maxHeartbeats 4000000 in
theorem rrcount_no (g : Nat) (s : ByteArray) (k : Nat) (n : Int) (u : Nat) (w : World) (h : Rrd w g s k false) (hd : decN (s.data.toList.drop k) = (n, u)) (hno : NoText s k n u) (hn1 : -9223372036854775808 ≤ n) (hn2 : n ≤ 9223372036854775807) (hk : k + u ≤ s.size) (hs : s.size ≤ 1000000000) :
    Calls Try.prog 27 #[.pointer (some ⟨g, 0, none⟩)] w (RCount g s w) := by
  have HD := Lib.hid hd
  clear hd
  have hc : u = 0 ∨ (¬ u = 0 ∧ n < 0) ∨ (¬ u = 0 ∧ ¬ n < 0 ∧ (s.size : Int) - ((k + u : Nat) : Int) < n) := by unfold NoText at hno; omega
  clear hno
  rcases hc with hu | ⟨hu, hc⟩ | ⟨hu, hc, hc2⟩
  · subst hu
    go_enter Try.func27, Try.ntmps27
    go_wp2_with fail
    refine (rrnum_to g s k n 0 _ h HD.out (by omega) hs).mono ?_
    rintro e w1 ⟨rfl, h1, hk1⟩
    have h2 : Rrd w1 g s k true := h1
    clear h1 h
    obtain ⟨c0, c1, c2, f1, f2, hlt⟩ := h2.cells
    go_wp2_with fail
    go_quiet (fail)
    have hq : Rrd (w1.drewN nq) g s k true := h2
    have hkq := hk1.drewN nq
    clear c0 c1 c2 f1 f2 hlt h2 hk1
    generalize w1.drewN nq = wq at *
    obtain ⟨c0, c1, c2, f1, f2, hlt⟩ := hq.cells
    go_wp2_with fail
    go_ret
    exact ⟨rfl, ⟨k, hq.spoil⟩, hkq.set (by simp) _⟩
  · go_enter Try.func27, Try.ntmps27
    go_wp2_with fail
    refine (rrnum_to g s k n u _ h HD.out (by omega) hs).mono ?_
    rintro e w1 ⟨rfl, h1, hk1⟩
    have hub : (u == 0) = false := by rw [beq_eq_false_iff_ne]; exact hu
    rw [hub] at h1
    clear h hub
    generalize k + u = K at *
    obtain ⟨c0, c1, c2, f1, f2, hlt⟩ := h1.cells
    go_wp2_with fail
    go_quiet (fail)
    have hq : Rrd (w1.drewN nq) g s K false := h1
    have hkq := hk1.drewN nq
    clear c0 c1 c2 f1 f2 hlt h1 hk1
    generalize w1.drewN nq = wq at *
    obtain ⟨c0, c1, c2, f1, f2, hlt⟩ := hq.cells
    go_wp2_with fail
    go_ret
    exact ⟨rfl, ⟨K, hq.spoil⟩, hkq.set (by simp) _⟩
  · go_enter Try.func27, Try.ntmps27
    go_wp2_with fail
    refine (rrnum_to g s k n u _ h HD.out (by omega) hs).mono ?_
    rintro e w1 ⟨rfl, h1, hk1⟩
    have hub : (u == 0) = false := by rw [beq_eq_false_iff_ne]; exact hu
    rw [hub] at h1
    clear h hub
    generalize k + u = K at *
    obtain ⟨c0, c1, c2, f1, f2, hlt⟩ := h1.cells
    have hw1 : IntKind.i64.wrap ((s.size : Int) - (K : Int)) = (s.size : Int) - (K : Int) := IntWalk.i64_in _ (by omega)
    go_wp2_with fail
    go_quiet (fail)
    have hq : Rrd (w1.drewN nq) g s K false := h1
    have hkq := hk1.drewN nq
    clear c0 c1 c2 f1 f2 hlt h1 hk1 hw1
    generalize w1.drewN nq = wq at *
    obtain ⟨c0, c1, c2, f1, f2, hlt⟩ := hq.cells
    go_wp2_with fail
    go_ret
    exact ⟨rfl, ⟨K, hq.spoil⟩, hkq.set (by simp) _⟩
set_option maxHeartbeats 4000000 in
theorem rrcount_yes (g : Nat) (s : ByteArray) (k m u K : Nat) (w : World) (h : Rrd w g s k false) (hd : decN (s.data.toList.drop k) = ((m : Int), u)) (hu : 0 < u) (hK : k + u = K) (hm : K + m ≤ s.size) (hs : s.size ≤ 1000000000) :
    Calls Try.prog 27 #[.pointer (some ⟨g, 0, none⟩)] w fun e w' => e = .returned (.int .i64 m) ∧ Rrd w' g s K false ∧ Kp [g] w w' := by
  have HD := Lib.hid hd
  have HK := Lib.hid hK
  have hk : k ≤ s.size := by omega
  clear hd hK
  go_enter Try.func27, Try.ntmps27
  go_wp2_with fail
  refine (rrnum_to g s k m u _ h HD.out hk hs).mono ?_
  rintro e w1 ⟨rfl, h1, hk1⟩
  have hub : (u == 0) = false := by rw [beq_eq_false_iff_ne]; omega
  rw [hub, HK.out] at h1
  clear h hub HD HK hk
  obtain ⟨c0, c1, c2, f1, f2, hlt⟩ := h1.cells
  have hw1 : IntKind.i64.wrap ((s.size : Int) - (K : Int)) = (s.size : Int) - (K : Int) := IntWalk.i64_in _ (by omega)
  have hm0 : ¬ (m : Int) < 0 := by omega
  have hm1 : ¬ (s.size : Int) - (K : Int) < (m : Int) := by omega
  go_wp2_with fail
  go_quiet (fail)
  have hq : Rrd (w1.drewN nq) g s K false := h1
  have hkq := hk1.drewN nq
  clear c0 c1 c2 f1 f2 hlt h1 hk1 hw1
  generalize w1.drewN nq = wq at *
  go_wp2_with fail
  go_ret
  exact ⟨rfl, hq, hkq⟩

/-- The program's count. -/
def PCount (g : Nat) (w : World) (e : Ending) (w' : World) : Prop := e = .returned (.int .i64 0) ∧ (∃ r, Rdr w' g r true) ∧ Kp [g] w w'
set_option maxHeartbeats 2000000 in
theorem count_bad (g : Nat) (r : ByteArray) (w : World) (h : Rdr w g r true) :
    Calls Try.prog 26 #[.pointer (some ⟨g, 0, none⟩)] w (PCount g w) := by
  go_enter Try.func26, Try.ntmps26
  go_wp2_with fail
  refine (num_bad g r _ h).mono ?_
  rintro e w1 ⟨rfl, h1, hk1⟩
  go_wp2_with fail
  refine (left_any g _ _ _ h1).mono ?_
  rintro e w2 ⟨rfl, rfl⟩
  go_wp2_with fail
  go_ret
  exact ⟨rfl, ⟨_, h1⟩, hk1⟩
set_option maxHeartbeats 2000000 in
theorem count_no0 (g : Nat) (s : ByteArray) (w : World) (h : Rdr w g s false) (hd : decN s.data.toList = (0, 0)) (hs : s.size ≤ 1000000000) :
    Calls Try.prog 26 #[.pointer (some ⟨g, 0, none⟩)] w (PCount g w) := by
  have HD := Lib.hid hd
  clear hd
  go_enter Try.func26, Try.ntmps26
  go_wp2_with fail
  refine (num_no g s _ h HD.out hs).mono ?_
  rintro e w1 ⟨rfl, h1, hk1⟩
  go_wp2_with fail
  refine (left_any g _ _ _ h1).mono ?_
  rintro e w2 ⟨rfl, rfl⟩
  go_wp2_with fail
  go_ret
  exact ⟨rfl, ⟨_, h1⟩, hk1⟩
set_option maxHeartbeats 2000000 in
theorem count_no (g : Nat) (s r : ByteArray) (n : Int) (u : Nat) (w : World) (h : Rdr w g s false) (hd : decN s.data.toList = (n, u)) (hu : 0 < u) (hus : u ≤ s.size) (hr : s.extract u s.size = r) (hno : n < 0 ∨ (¬ n < 0 ∧ (r.size : Int) < n)) (hs : s.size ≤ 1000000000) :
    Calls Try.prog 26 #[.pointer (some ⟨g, 0, none⟩)] w (PCount g w) := by
  have HD := Lib.hid hd
  have HR := Lib.hid hr
  clear hd hr
  rcases hno with hno | ⟨hno, hn2⟩
  · go_enter Try.func26, Try.ntmps26
    go_wp2_with fail
    refine (num_to g s r n u _ h HD.out hu hus hs HR.out).mono ?_
    rintro e w1 ⟨rfl, h1, hk1⟩
    go_wp2_with fail
    refine (spoil_any g r _ _ h1).mono ?_
    rintro e w2 ⟨rfl, h2, hk2⟩
    go_wp2_with fail
    go_ret
    exact ⟨rfl, ⟨_, h2⟩, hk1.trans hk2⟩
  · go_enter Try.func26, Try.ntmps26
    go_wp2_with fail
    refine (num_to g s r n u _ h HD.out hu hus hs HR.out).mono ?_
    rintro e w1 ⟨rfl, h1, hk1⟩
    go_wp2_with fail
    refine (left_any g _ _ _ h1).mono ?_
    rintro e w2 ⟨rfl, rfl⟩
    go_wp2_with fail
    refine (spoil_any g r _ _ h1).mono ?_
    rintro e w2 ⟨rfl, h2, hk2⟩
    go_wp2_with fail
    go_ret
    exact ⟨rfl, ⟨_, h2⟩, hk1.trans hk2⟩
set_option maxHeartbeats 2000000 in
theorem count_yes (g : Nat) (s r : ByteArray) (m u : Nat) (w : World) (h : Rdr w g s false) (hd : decN s.data.toList = ((m : Int), u)) (hu : 0 < u) (hus : u ≤ s.size) (hr : s.extract u s.size = r) (hm : m ≤ r.size) (hs : s.size ≤ 1000000000) :
    Calls Try.prog 26 #[.pointer (some ⟨g, 0, none⟩)] w fun e w' => e = .returned (.int .i64 m) ∧ Rdr w' g r false ∧ Kp [g] w w' := by
  have HD := Lib.hid hd
  have HR := Lib.hid hr
  clear hd hr
  have hm0 : ¬ (m : Int) < 0 := by omega
  go_enter Try.func26, Try.ntmps26
  go_wp2_with fail
  refine (num_to g s r m u _ h HD.out hu hus hs HR.out).mono ?_
  rintro e w1 ⟨rfl, h1, hk1⟩
  go_wp2_with fail
  refine (left_any g _ _ _ h1).mono ?_
  rintro e w2 ⟨rfl, rfl⟩
  go_wp2_with fail
  go_ret
  exact ⟨rfl, h1, hk1⟩
end Go.Proofs.Ytencjlkmpodghaa
