/- CarveHeads. -/
import Derived.Test.YtglehfpddhkoeaaCz
import Derived.Deep.RegionWith
namespace Go.Proofs.Ytglehfpddhkoeaa
open Go.RowKit
set_option linter.unusedVariables false

theorem heads_eq {h a b : List UInt8} {n m k : Nat} (hk : 64 * k ≤ h.length) (hn : k ≤ n) (hm : k ≤ m) : (chunks (h ++ a) n).take k = (chunks (h ++ b) m).take k := by
  have key : ∀ (x : List UInt8) (p : Nat), k ≤ p → (chunks (h ++ x) p).take k = chunks h k := fun x p hp => by
    unfold chunks chk
    rw [← List.map_take, List.take_range, Nat.min_eq_left hp]
    apply List.map_congr_left
    intro j hj
    have hj : j < k := by simpa using hj
    congr 1
    rw [List.drop_append_of_le_length (by omega), List.take_append_of_le_length (by rw [List.length_drop]; omega)]
  rw [key a n hn, key b m hm]

set_option maxRecDepth 100000 in
set_option maxHeartbeats 4000000 in
theorem cheads (h a b : ByteArray) (w : World) (hh : h.size ≤ 4096) (ha : a.size ≤ 4096) (hb : b.size ≤ 4096) :
    Calls Try.prog 6 #[.string h, .string a, .string b] w (Yes w) := by
  obtain ⟨x, hx⟩ : ∃ x, h ++ a = x := ⟨_, rfl⟩
  obtain ⟨y, hy⟩ : ∃ y, h ++ b = y := ⟨_, rfl⟩
  have hxs : x.size = h.size + a.size := by rw [← hx]; simp
  have hys : y.size = h.size + b.size := by rw [← hy]; simp
  have hxl : x.data.toList = h.data.toList ++ a.data.toList := by rw [← hx]; simp
  have hyl : y.data.toList = h.data.toList ++ b.data.toList := by rw [← hy]; simp
  have hhl : h.data.toList.length = h.size := by simp
  obtain ⟨p, hp⟩ : ∃ p, cnt x.size = p := ⟨_, rfl⟩
  obtain ⟨q, hq⟩ : ∃ q, cnt y.size = q := ⟨_, rfl⟩
  obtain ⟨k, hk⟩ : ∃ k : Nat, h.size / 64 = k := ⟨_, rfl⟩
  have hki : (h.size : Int) / 64 = (k : Int) := by omega
  have hkp : k ≤ p := by rw [← hp]; unfold cnt; omega
  have hkq : k ≤ q := by rw [← hq]; unfold cnt; omega
  have hpl : p ≤ 1099511627776 := by rw [← hp]; unfold cnt; omega
  have hql : q ≤ 1099511627776 := by rw [← hq]; unfold cnt; omega
  have htk : ((chunks x.data.toList p).take k) = ((chunks y.data.toList q).take k) := by rw [hxl, hyl]; exact heads_eq (by omega) hkp hkq
  have HX := Lib.hid hx
  have HY := Lib.hid hy
  have HP := Lib.hid hp
  have HQ := Lib.hid hq
  have HT := Lib.hid htk
  have hxs2 : x.size ≤ 8192 := by omega
  have hys2 : y.size ≤ 8192 := by omega
  clear hx hy hxs hys hxl hyl hhl hp hq hk htk
  go_enter Try.func6, Try.ntmps6
  go_wp2_with fail
  refine (vawake _).mono ?_
  rintro e w2 ⟨rfl, hk2⟩
  go_wp2_with fail
  rw [HX.out]
  refine (cut_any x _ (by omega)).mono ?_
  rintro e w3 ⟨v3, rfl, hown3, hk3⟩
  rw [HP.out] at hown3
  obtain ⟨A3, c3, rfl, hL3, -, hnc3, hcm3⟩ := own_open hown3
  go_wp2_with fail
  rw [HY.out]
  refine (cut_any y _ (by omega)).mono ?_
  rintro e w4 ⟨v4, rfl, hown4, hk4⟩
  rw [HQ.out] at hown4
  obtain ⟨A4, c4, rfl, hL4, -, hnc4, hcm4⟩ := own_open hown4
  have hL3' := hL3.kp hk4 (by simp)
  have hT3 := hL3'.take hkp
  have hT4 := hL4.take hkq
  rw [← List.map_take] at hT3 hT4
  rw [← HT.out] at hT4
  have hkp' : (k : Int) ≤ (p : Int) := by omega
  have hkq' : (k : Int) ≤ (q : Int) := by omega
  have hk0 : (0 : Int) ≤ (k : Int) := by omega
  have hkc3 : (k : Int) ≤ (c3 : Int) := by omega
  have hkc4 : (k : Int) ≤ (c4 : Int) := by omega
  have hkp2 := (hk2.trans hk3).trans hk4
  have hkl : k ≤ 1099511627776 := by omega
  clear hk2 hk3 hk4 hL3 hL3' hL4
  have HT3 := Lib.hid hT3
  have HT4 := Lib.hid hT4
  clear hT3 hT4
  by_cases hk00 : k = 0
  · subst hk00
    clear HT3 HT4 hown3 hown4 hk0 hkp' hkq' hkc3 hkc4
    have hq0 : (0 : Int) ≤ (q : Int) := by omega
    have hp0 : (0 : Int) ≤ (p : Int) := by omega
    have hc30 : (0 : Int) ≤ (c3 : Int) := by omega
    have hc40 : (0 : Int) ≤ (c4 : Int) := by omega
    by_cases h3 : c3 = 0 <;> by_cases h4 : c4 = 0
    all_goals
      go_wp2_with fail
      go_quiet ((go_at_call 13; exact same_qto _ _ 0 _ 0 _ [] [] true _ _ rfl Ls.zero Ls.zero (Nat.zero_le _) (Nat.zero_le _)))
      go_wp2_with fail
      go_ret
      exact ⟨rfl, hkp2.drewN _⟩
  · have hc3 : ¬ c3 = 0 := by omega
    have hc4 : ¬ c4 = 0 := by omega
    rcases own_shape hown3 with ⟨_, _, h0⟩ | ⟨g3, rfl, -, -⟩
    · omega
    rcases own_shape hown4 with ⟨_, _, h0⟩ | ⟨g4, rfl, -, -⟩
    · omega
    clear hown3 hown4
    go_wp2_with fail
    go_quiet ((go_at_call 13; exact same_qto _ _ k _ k _ _ _ true _ _ (decide_eq_true rfl) HT3.out HT4.out hkl hkl))
    go_wp2_with fail
    go_ret
    exact ⟨rfl, hkp2.drewN _⟩
set_option maxHeartbeats 2000000 in
theorem cheads_not (h a b : ByteArray) (w : World) (hh : h.size ≤ 9223372036854775807) (ha : a.size ≤ 9223372036854775807) (hb : b.size ≤ 9223372036854775807)
    (hc : 4096 < h.size ∨ (h.size ≤ 4096 ∧ 4096 < a.size) ∨ (h.size ≤ 4096 ∧ a.size ≤ 4096 ∧ 4096 < b.size)) :
    Calls Try.prog 6 #[.string h, .string a, .string b] w (Yes w) := by
  rcases hc with h1 | ⟨h1, h2⟩ | ⟨h1, h2, h3⟩
  all_goals
    go_enter Try.func6, Try.ntmps6
    go_wp2_with fail
    refine (vawake _).mono ?_
    rintro e w2 ⟨rfl, hk2⟩
    go_wp2_with fail
    refine (vawake _).mono ?_
    rintro e w3 ⟨rfl, hk3⟩
    go_wp2_with fail
    go_ret
    exact ⟨rfl, hk2.trans hk3⟩
theorem cheads_walk (v0 v1 v2 : Value) (w : World) (i0 : In w 9 v0) (i1 : In w 9 v1) (i2 : In w 9 v2) : Calls Try.prog 6 #[v0, v1, v2] w (Yes w) := by
  obtain ⟨h, rfl, hh⟩ := in_string Try.underlying9 i0
  obtain ⟨a, rfl, ha⟩ := in_string Try.underlying9 i1
  obtain ⟨b, rfl, hb⟩ := in_string Try.underlying9 i2
  by_cases hc : h.size ≤ 4096 ∧ a.size ≤ 4096 ∧ b.size ≤ 4096
  · exact cheads h a b w hc.1 hc.2.1 hc.2.2
  · exact cheads_not h a b w (size_le hh) (size_le ha) (size_le hb) (by omega)
end Go.Proofs.Ytglehfpddhkoeaa
