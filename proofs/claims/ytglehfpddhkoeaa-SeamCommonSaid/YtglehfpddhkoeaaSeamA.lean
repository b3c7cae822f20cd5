/- awake of the seam's laws; SeamHints. -/
import Derived.Test.YtglehfpddhkoeaaSeamC
import Derived.Test.YtglehfpddhkoeaaIn2
import Derived.Deep.RegionHeld3
import Derived.Deep.RegionLaw
namespace Go.Proofs.Ytglehfpddhkoeaa
open Go.RowKit
set_option linter.unusedVariables false

theorem epAt_eq (zs : List Int) (k : Nat) : (if k = 0 then 0 else zs.getD (k - 1) 0) = epAt zs k := rfl
theorem hint_to (A : Option Addr) (n c : Nat) (zs : List Int) (after since : Int) (k : Nat) (z : Int) (w : World) (hk : upN zs since (mn (after - 1) n).toNat = k) (hz : epAt zs k = z) (hL : Ls w A n (zs.map (Value.int .i64))) (hn : n ≤ maxLen) (b1 : -9223372036854775808 ≤ after) (b2 : after ≤ 9223372036854775807) :
    Calls Try.prog 26 #[.slice A n c, .int .i64 after, .int .i64 since] w fun r w' => r = .returned (.agg #[.int .i64 k, .int .i64 z]) ∧ Kp [] w w' :=
  (hint_any A n c zs after since w hL hn b1 b2).mono fun r w' ⟨h1, h2⟩ => ⟨by rw [h1, epAt_eq, hk, hz], h2⟩
theorem next_to (A : Option Addr) (n c : Nat) (zs : List Int) (hn0 he : Int) (k : Nat) (w : World) (hk : upN zs he (mn hn0 n).toNat = k) (hL : Ls w A n (zs.map (Value.int .i64))) (hn : n ≤ maxLen) (b1 : -9223372036854775808 ≤ hn0) (b2 : hn0 ≤ 9223372036854775807) :
    Calls Try.prog 28 #[.slice A n c, .agg #[.int .i64 hn0, .int .i64 he]] w fun r w' => r = .returned (.int .i64 k) ∧ Kp [] w w' :=
  (next_any A n c zs hn0 he w hL hn b1 b2).mono fun r w' ⟨h1, h2⟩ => ⟨by rw [h1, hk], h2⟩
theorem rhint_to (A : Option Addr) (n c : Nat) (zs : List Int) (after since : Int) (k : Nat) (z : Int) (w : World) (hk : upN zs since (mn (after - 1) n).toNat = k) (hz : epAt zs k = z) (hL : Ls w A n (zs.map (Value.int .i64))) (hn : n ≤ maxLen) (hn' : n ≤ 100000) (b1 : -9223372036854775808 ≤ after) :
    Calls Try.prog 27 #[.slice A n c, .int .i64 after, .int .i64 since] w fun r w' => r = .returned (.agg #[.int .i64 k, .int .i64 z]) ∧ Kp [] w w' :=
  (rhint_any A n c zs after since w hL hn hn' b1).mono fun r w' ⟨h1, h2⟩ => ⟨by rw [h1, hk, hz], h2⟩
theorem rnext_to (A : Option Addr) (n c : Nat) (zs : List Int) (hn0 he : Int) (k : Nat) (w : World) (hk : upN zs he (mn hn0 n).toNat = k) (hL : Ls w A n (zs.map (Value.int .i64))) (hn : n ≤ maxLen) (hn' : n ≤ 100000) :
    Calls Try.prog 29 #[.slice A n c, .agg #[.int .i64 hn0, .int .i64 he]] w fun r w' => r = .returned (.int .i64 k) ∧ Kp [] w w' :=
  (rnext_any A n c zs hn0 he w hL hn hn').mono fun r w' ⟨h1, h2⟩ => ⟨by rw [h1, hk], h2⟩
theorem common_to (A : Option Addr) (n c : Nat) (ls : List (List Int)) (xs : List Value) (ok : Nat → Prop) (k : Nat) (w : World) (hk : cmn ls = k) (hL : Ls w A n xs) (hR : Rws w ok ls xs) (hn : n ≤ 100000) (hlen : ∀ l ∈ ls, l.length ≤ 100000) (h0 : 0 < n) :
    Calls Try.prog 24 #[.slice A n c] w fun r w' => r = .returned (.int .i64 k) ∧ Kp [] w w' :=
  (common_any A n c ls xs ok w hL hR hn hlen h0).mono fun r w' ⟨h1, h2⟩ => ⟨by rw [h1, hk], h2⟩
theorem rws_two {w : World} {l0 l1 : List Int} {A0 A1 : Option Addr} {c0 c1 : Nat} (h0 : Ls w A0 l0.length (l0.map (Value.int .i64))) (h1 : Ls w A1 l1.length (l1.map (Value.int .i64))) (hc0 : l0.length ≤ c0) (hc1 : l1.length ≤ c1) :
    Rws w (fun _ => True) [l0, l1] [Value.slice A0 l0.length c0, Value.slice A1 l1.length c1] := by
  refine ⟨rfl, fun i l hl => ?_⟩
  match i with
  | 0 =>
    obtain rfl : l0 = l := by simpa using hl
    exact ⟨A0, c0, rfl, hc0, h0, fun _ _ _ => trivial⟩
  | 1 =>
    obtain rfl : l1 = l := by simpa using hl
    exact ⟨A1, c1, rfl, hc1, h1, fun _ _ _ => trivial⟩
  | i + 2 => simp at hl

set_option maxHeartbeats 1000000 in
theorem sawake (w : World) : Calls Try.prog 22 #[] w (Yes w) := by
  go_enter Try.func22, Try.ntmps22
  go_wp2_with fail
  have a0 := At.new w 3 #[.int .i64 1, .int .i64 1, .int .i64 2]
  have a1 : At _ (w.heap.size + 1) _ _ := At.new_ (w := w.alloc (.cells #[.int .i64 1, .int .i64 1, .int .i64 2] 3)) (t := 3) (cs := #[.int .i64 1, .int .i64 1, .int .i64 1, .int .i64 3]) (by simp)
  have a0' := a0.alloc (.cells #[.int .i64 1, .int .i64 1, .int .i64 1, .int .i64 3] 3)
  have hk0 : Kp [] w ((w.alloc (.cells #[.int .i64 1, .int .i64 1, .int .i64 2] 3)).alloc (.cells #[.int .i64 1, .int .i64 1, .int .i64 1, .int .i64 3] 3)) := ((Kp.rfl_ _ _).alloc _).alloc _
  have hsz : ((w.alloc (.cells #[.int .i64 1, .int .i64 1, .int .i64 2] 3)).alloc (.cells #[.int .i64 1, .int .i64 1, .int .i64 1, .int .i64 3] 3)).heap.size = w.heap.size + 1 + 1 := by simp
  refine (common_to (some ⟨w.heap.size + 1 + 1, 0, none⟩) 2 2 [[1, 1, 2], [1, 1, 1, 3]] [.slice (some ⟨w.heap.size, 0, none⟩) 3 3, .slice (some ⟨w.heap.size + 1, 0, none⟩) 4 4] (fun _ => True) 2 _ (by decide) (Ls.of_at (At.new_ hsz))
    (rws_two (l0 := [1, 1, 2]) (l1 := [1, 1, 1, 3]) (Ls.of_at (a0'.alloc _)) (Ls.of_at (a1.alloc _)) (by decide) (by decide)) (by omega) (by simp) (by omega)).mono ?_
  rintro e w1 ⟨rfl, hk1⟩
  have hkp1 : Kp [] w w1 := (hk0.alloc _).trans hk1
  clear a0 a1 a0' hk0 hsz hk1
  go_wp2_with fail
  refine (hint_to _ 4 4 [1, 1, 1, 3] 3 2 2 1 _ (by decide) (by decide) (Ls.of_at (At.new _ _ _)) (by unfold maxLen; omega) (by omega) (by omega)).mono ?_
  rintro e w2 ⟨rfl, hk2⟩
  have hkp2 : Kp [] w w2 := (hkp1.alloc _).trans hk2
  clear hk2 hkp1
  go_wp2_with fail
  refine (next_to _ 3 3 [1, 1, 2] 2 1 2 _ (by decide) (Ls.of_at (At.new _ _ _)) (by unfold maxLen; omega) (by omega) (by omega)).mono ?_
  rintro e w3 ⟨rfl, hk3⟩
  go_wp2_with fail
  go_ret
  exact ⟨rfl, (hkp2.alloc _).trans hk3⟩

set_option maxHeartbeats 1000000 in
theorem shints_out (A : Option Addr) (n c : Nat) (a s h0 h1 : Int) (w : World) (h : 2000 < n) :
    Calls Try.prog 8 #[.slice A n c, .int .i64 a, .int .i64 s, .agg #[.int .i64 h0, .int .i64 h1]] w (Yes w) := by
  go_enter Try.func8, Try.ntmps8
  go_wp2_with fail
  refine (sawake _).mono ?_
  rintro e w1 ⟨rfl, hk1⟩
  go_wp2_with fail
  refine (sawake _).mono ?_
  rintro e w2 ⟨rfl, hk2⟩
  go_wp2_with fail
  go_ret
  exact ⟨rfl, ((Kp.rfl_ [] w).alloc _).trans (hk1.trans hk2)⟩

set_option maxHeartbeats 4000000 in
theorem shints_in (A : Option Addr) (n c : Nat) (zs : List Int) (a s h0 h1 : Int) (w : World) (h : n ≤ 2000) (hL : Ls w A n (zs.map (Value.int .i64)))
    (b1 : -9223372036854775808 ≤ a) (b2 : a ≤ 9223372036854775807) (b3 : -9223372036854775808 ≤ h0) (b4 : h0 ≤ 9223372036854775807) :
    Calls Try.prog 8 #[.slice A n c, .int .i64 a, .int .i64 s, .agg #[.int .i64 h0, .int .i64 h1]] w (Yes w) := by
  go_enter Try.func8, Try.ntmps8
  go_wp2_with fail
  refine (sawake _).mono ?_
  rintro e w1 ⟨rfl, hk1⟩
  have ha1 : At2 w1 w.heap.size h0 h1 := At.kp (At.new w _ _) hk1 (by simp)
  have hkp1 : Kp [] w w1 := ((Kp.rfl_ [] w).alloc _).trans hk1
  clear hk1
  obtain ⟨k1, hk1⟩ : ∃ k, upN zs s (mn (a - 1) n).toNat = k := ⟨_, rfl⟩
  obtain ⟨z1, hz1⟩ : ∃ z, epAt zs k1 = z := ⟨_, rfl⟩
  obtain ⟨k2, hk2⟩ : ∃ k, upN zs h1 (mn h0 n).toNat = k := ⟨_, rfl⟩
  have HK1 := Lib.hid hk1
  have HK2 := Lib.hid hk2
  have HZ1 := Lib.hid hz1
  clear hk1 hk2 hz1
  have HL := Lib.hid hL
  obtain ⟨c0, c1, -, -⟩ := ha1.cells
  go_wp2_with fail
  go_region_held3 (fun w' => w'.cell? ⟨w.heap.size, 0, none⟩ = some (.int .i64 h0) ∧ w'.cell? ⟨w.heap.size, 1, none⟩ = some (.int .i64 h1)) (first | exact ⟨c0, c1⟩ | go_keep)
    (first
      | (go_at_call 23; refine (own_any A n c zs _ (by first | exact HL.out.kp hkp1 (by simp) | exact HL.out.kp hkp1.drew (by simp)) (by omega)).mono ?_; rintro e w1 ⟨A2, c2, rfl, hLA, hk2, hc2, -⟩; have hkp1 : Kp [] w w1 := (by first | exact hkp1.trans hk2 | exact hkp1.drew.trans hk2); have ha1 : At2 w1 w.heap.size h0 h1 := (by first | exact At.kp ha1 hk2 (by simp) | exact At.kp (At.drew ha1) hk2 (by simp)); obtain ⟨c0, c1, -, -⟩ := ha1.cells; clear hk2)
      | (go_at_call 26; refine (hint_to A2 n c2 zs a s k1 z1 _ HK1.out HZ1.out hLA (by unfold maxLen; omega) b1 b2).mono ?_; rintro e w1 ⟨rfl, hk2⟩; have hkp1 : Kp [] w w1 := hkp1.trans hk2; have ha1 : At2 w1 w.heap.size h0 h1 := (by first | exact At.kp ha1 hk2 (by simp) | exact At.kp (At.drew ha1) hk2 (by simp)); obtain ⟨c0, c1, -, -⟩ := ha1.cells; clear hk2)
      | (go_at_call 27; refine (rhint_to A n c zs a s k1 z1 _ HK1.out HZ1.out (by exact HL.out.kp hkp1 (by simp)) (by unfold maxLen; omega) (by omega) b1).mono ?_; rintro e w1 ⟨rfl, hk2⟩; have hkp1 : Kp [] w w1 := hkp1.trans hk2; have ha1 : At2 w1 w.heap.size h0 h1 := (by first | exact At.kp ha1 hk2 (by simp) | exact At.kp (At.drew ha1) hk2 (by simp)); obtain ⟨c0, c1, -, -⟩ := ha1.cells; clear hk2)
      | (go_at_call 28; refine (next_to A2 n c2 zs h0 h1 k2 _ HK2.out hLA (by unfold maxLen; omega) b3 b4).mono ?_; rintro e w1 ⟨rfl, hk2⟩; have hkp1 : Kp [] w w1 := hkp1.trans hk2; have ha1 : At2 w1 w.heap.size h0 h1 := (by first | exact At.kp ha1 hk2 (by simp) | exact At.kp (At.drew ha1) hk2 (by simp)); obtain ⟨c0, c1, -, -⟩ := ha1.cells; clear hk2)
      | (go_at_call 29; refine (rnext_to A n c zs h0 h1 k2 _ HK2.out (by exact HL.out.kp hkp1 (by simp)) (by unfold maxLen; omega) (by omega)).mono ?_; rintro e w1 ⟨rfl, hk2⟩; have hkp1 : Kp [] w w1 := hkp1.trans hk2; have ha1 : At2 w1 w.heap.size h0 h1 := (by first | exact At.kp ha1 hk2 (by simp) | exact At.kp (At.drew ha1) hk2 (by simp)); obtain ⟨c0, c1, -, -⟩ := ha1.cells; clear hk2))
  all_goals
    go_wp2_with fail
    go_ret
    exact ⟨rfl, hkp1⟩

theorem shints_walk (v0 v1 v2 v3 : Value) (w : World) (i0 : In w 35 v0) (i1 : In w 3 v1) (i2 : In w 3 v2) (i3 : In w 41 v3) :
    Calls Try.prog 8 #[v0, v1, v2, v3] w (Yes w) := by
  obtain ⟨A, n, c, xs, rfl, hnc, hc, hL, hx, -, -⟩ := rd_slice Try.underlying35 (by kernel_rfl) (in_rd_slice Try.underlying35 i0)
  obtain ⟨zs, rfl, -⟩ := ints_of fun u hu => rd_int Try.underlying3 (hx u hu)
  obtain ⟨a, rfl, ba⟩ := in_int Try.underlying3 i1
  obtain ⟨s, rfl, -⟩ := in_int Try.underlying3 i2
  obtain ⟨h0, h1, rfl, bh, -⟩ := in_spot i3
  by_cases h : 2000 < n
  · exact shints_out A n c a s h0 h1 w h
  · exact shints_in A n c zs a s h0 h1 w (by omega) hL (bd_i64 ba).1 (bd_i64 ba).2 (bd_i64 bh).1 (bd_i64 bh).2
end Go.Proofs.Ytglehfpddhkoeaa
