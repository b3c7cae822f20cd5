/- The laws of sha: ShaNames, ShaBack. -/
import Derived.Test.YthnfjkinliekoaaDoorTa
namespace Go.Proofs.YthnfjkinliekoaaDoor
set_option maxRecDepth 100000
open Go.RowKit
set_option linter.unusedVariables false

set_option maxHeartbeats 1000000 in
theorem snames_yes (s n x : ByteArray) (w : World) (ht : Tbk w) (hs : s.size ≤ 4096) (hn : n.size ≤ 4096) (hx : unhex n.data.toList = some x.data.toList) :
    Calls Tryd.prog 5 #[.string s, .string n] w (Yes w) := by
  obtain ⟨r, hr⟩ : ∃ r, bs (hexN s.data.toList) = r := ⟨_, rfl⟩
  have HX := Lib.hid hx
  have HR := Lib.hid hr
  clear hx hr
  go_enter Tryd.func5, Tryd.ntmps5
  go_wp2_with fail
  refine (hawake _ ht).mono ?_
  rintro e w1 ⟨rfl, k1⟩
  go_wp2_with fail
  refine (hash_yes n x _ HX.out (by omega)).mono ?_
  rintro e w2 ⟨rfl, k2⟩
  have k12 := k1.trans k2
  clear k1 k2
  go_wp2_with fail
  refine (rhash_yes n x _ HX.out (by omega)).mono ?_
  rintro e w3 ⟨rfl, k3⟩
  have k13 := k12.trans k3
  clear k12 k3
  go_wp2_with fail
  refine (name_to s r _ HR.out (by omega)).mono ?_
  rintro e w4 ⟨rfl, k4⟩
  have k14 := k13.trans k4
  clear k13 k4
  go_wp2_with fail
  refine (rname_to s r _ HR.out (by omega)).mono ?_
  rintro e w5 ⟨rfl, k5⟩
  have k15 := k14.trans k5
  clear k14 k5
  go_wp2_with fail
  go_ret
  exact ⟨ret_bool (by simp), k15⟩
set_option maxHeartbeats 1000000 in
theorem snames_no (s n : ByteArray) (w : World) (ht : Tbk w) (hs : s.size ≤ 4096) (hn : n.size ≤ 4096) (hx : unhex n.data.toList = none) :
    Calls Tryd.prog 5 #[.string s, .string n] w (Yes w) := by
  obtain ⟨r, hr⟩ : ∃ r, bs (hexN s.data.toList) = r := ⟨_, rfl⟩
  have HX := Lib.hid hx
  have HR := Lib.hid hr
  clear hx hr
  go_enter Tryd.func5, Tryd.ntmps5
  go_wp2_with fail
  refine (hawake _ ht).mono ?_
  rintro e w1 ⟨rfl, k1⟩
  go_wp2_with fail
  refine (hash_no n _ HX.out (by omega)).mono ?_
  rintro e w2 ⟨rfl, k2⟩
  have k12 := k1.trans k2
  clear k1 k2
  go_wp2_with fail
  refine (rhash_no n _ HX.out (by omega)).mono ?_
  rintro e w3 ⟨rfl, k3⟩
  have k13 := k12.trans k3
  clear k12 k3
  go_wp2_with fail
  refine (name_to s r _ HR.out (by omega)).mono ?_
  rintro e w4 ⟨rfl, k4⟩
  have k14 := k13.trans k4
  clear k13 k4
  go_wp2_with fail
  refine (rname_to s r _ HR.out (by omega)).mono ?_
  rintro e w5 ⟨rfl, k5⟩
  have k15 := k14.trans k5
  clear k14 k5
  go_wp2_with fail
  go_ret
  exact ⟨ret_bool (by simp), k15⟩
set_option maxHeartbeats 1000000 in
theorem snames_big (s n : ByteArray) (w : World) (ht : Tbk w) (hb : 4096 < s.size ∨ 4096 < n.size) (hs : s.size ≤ 9223372036854775807) (hn : n.size ≤ 9223372036854775807) :
    Calls Tryd.prog 5 #[.string s, .string n] w (Yes w) := by
  by_cases h1 : 4096 < s.size
  · have h1' : (4096 : Int) < (s.size : Int) := by omega
    go_enter Tryd.func5, Tryd.ntmps5
    go_wp2_with fail
    refine (hawake _ ht).mono ?_
    rintro e w2 ⟨rfl, hk2⟩
    go_wp2_with fail
    refine (hawake _ (ht.kp hk2 (by simp))).mono ?_
    rintro e w3 ⟨rfl, hk3⟩
    go_wp2_with fail
    go_ret
    exact ⟨rfl, hk2.trans hk3⟩
  · have h1' : ¬ (4096 : Int) < (s.size : Int) := by omega
    have h2' : (4096 : Int) < (n.size : Int) := by omega
    go_enter Tryd.func5, Tryd.ntmps5
    go_wp2_with fail
    refine (hawake _ ht).mono ?_
    rintro e w2 ⟨rfl, hk2⟩
    go_wp2_with fail
    refine (hawake _ (ht.kp hk2 (by simp))).mono ?_
    rintro e w3 ⟨rfl, hk3⟩
    go_wp2_with fail
    go_ret
    exact ⟨rfl, hk2.trans hk3⟩
set_option maxHeartbeats 1000000 in
theorem sback_yes (s n x : ByteArray) (w : World) (ht : Tbk w) (hs : s.size ≤ 4096) (hn : n.size ≤ 4096) (hx : unhex n.data.toList = some x.data.toList) :
    Calls Tryd.prog 6 #[.string s, .string n] w (Yes w) := by
  obtain ⟨r, hr⟩ : ∃ r, bs (hexN s.data.toList) = r := ⟨_, rfl⟩
  have hr2 : unhex r.data.toList = some s.data.toList := by rw [← hr, bs_list, unhex_hex]
  have hrz : r.size ≤ 1000000 := by rw [← hr, bs_size, hexN_len]; simp; omega
  have hb : bs (hexN x.data.toList) = n := by rw [hex_unhex n.data.toList.length n.data.toList x.data.toList (Nat.le_refl _) hx, bs_of]
  have hxz : x.size ≤ 1000000 := by
    have := unhex_len n.data.toList.length n.data.toList x.data.toList (Nat.le_refl _) hx
    simp at this
    omega
  have HB := Lib.hid hb
  have HXZ := Lib.hid hxz
  clear hb hxz
  have HX := Lib.hid hx
  have HR := Lib.hid hr
  have HR2 := Lib.hid hr2
  have HRZ := Lib.hid hrz
  clear hx hr hr2 hrz
  go_enter Tryd.func6, Tryd.ntmps6
  go_wp2_with fail
  refine (hawake _ ht).mono ?_
  rintro e w1 ⟨rfl, k1⟩
  go_wp2_with fail
  refine (name_to s r _ HR.out (by omega)).mono ?_
  rintro e w2 ⟨rfl, k2⟩
  have k12 := k1.trans k2
  clear k1 k2
  go_wp2_with fail
  refine (hash_yes r s _ HR2.out HRZ.out).mono ?_
  rintro e w3 ⟨rfl, k3⟩
  have k13 := k12.trans k3
  clear k12 k3
  go_wp2_with fail
  refine (hash_yes n x _ HX.out (by omega)).mono ?_
  rintro e w4 ⟨rfl, k4⟩
  have k14 := k13.trans k4
  clear k13 k4
  go_wp2_with fail
  refine (name_to x n _ HB.out HXZ.out).mono ?_
  rintro e w5 ⟨rfl, k5⟩
  have k15 := k14.trans k5
  clear k14 k5
  go_wp2_with fail
  go_ret
  exact ⟨ret_bool (by simp), k15⟩
set_option maxHeartbeats 1000000 in
theorem sback_no (s n : ByteArray) (w : World) (ht : Tbk w) (hs : s.size ≤ 4096) (hn : n.size ≤ 4096) (hx : unhex n.data.toList = none) :
    Calls Tryd.prog 6 #[.string s, .string n] w (Yes w) := by
  obtain ⟨r, hr⟩ : ∃ r, bs (hexN s.data.toList) = r := ⟨_, rfl⟩
  have hr2 : unhex r.data.toList = some s.data.toList := by rw [← hr, bs_list, unhex_hex]
  have hrz : r.size ≤ 1000000 := by rw [← hr, bs_size, hexN_len]; simp; omega
  have HX := Lib.hid hx
  have HR := Lib.hid hr
  have HR2 := Lib.hid hr2
  have HRZ := Lib.hid hrz
  clear hx hr hr2 hrz
  go_enter Tryd.func6, Tryd.ntmps6
  go_wp2_with fail
  refine (hawake _ ht).mono ?_
  rintro e w1 ⟨rfl, k1⟩
  go_wp2_with fail
  refine (name_to s r _ HR.out (by omega)).mono ?_
  rintro e w2 ⟨rfl, k2⟩
  have k12 := k1.trans k2
  clear k1 k2
  go_wp2_with fail
  refine (hash_yes r s _ HR2.out HRZ.out).mono ?_
  rintro e w3 ⟨rfl, k3⟩
  have k13 := k12.trans k3
  clear k12 k3
  go_wp2_with fail
  refine (hash_no n _ HX.out (by omega)).mono ?_
  rintro e w4 ⟨rfl, k4⟩
  have k14 := k13.trans k4
  clear k13 k4
  go_wp2_with fail
  go_ret
  exact ⟨ret_bool (by simp), k14⟩
set_option maxHeartbeats 1000000 in
theorem sback_big (s n : ByteArray) (w : World) (ht : Tbk w) (hb : 4096 < s.size ∨ 4096 < n.size) (hs : s.size ≤ 9223372036854775807) (hn : n.size ≤ 9223372036854775807) :
    Calls Tryd.prog 6 #[.string s, .string n] w (Yes w) := by
  by_cases h1 : 4096 < s.size
  · have h1' : (4096 : Int) < (s.size : Int) := by omega
    go_enter Tryd.func6, Tryd.ntmps6
    go_wp2_with fail
    refine (hawake _ ht).mono ?_
    rintro e w2 ⟨rfl, hk2⟩
    go_wp2_with fail
    refine (hawake _ (ht.kp hk2 (by simp))).mono ?_
    rintro e w3 ⟨rfl, hk3⟩
    go_wp2_with fail
    go_ret
    exact ⟨rfl, hk2.trans hk3⟩
  · have h1' : ¬ (4096 : Int) < (s.size : Int) := by omega
    have h2' : (4096 : Int) < (n.size : Int) := by omega
    go_enter Tryd.func6, Tryd.ntmps6
    go_wp2_with fail
    refine (hawake _ ht).mono ?_
    rintro e w2 ⟨rfl, hk2⟩
    go_wp2_with fail
    refine (hawake _ (ht.kp hk2 (by simp))).mono ?_
    rintro e w3 ⟨rfl, hk3⟩
    go_wp2_with fail
    go_ret
    exact ⟨rfl, hk2.trans hk3⟩
theorem size_leS {s : ByteArray} (h : s.size ≤ maxLen) : s.size ≤ 9223372036854775807 := by unfold maxLen at h; omega
theorem unhex_cases (n : ByteArray) : unhex n.data.toList = none ∨ ∃ x : ByteArray, unhex n.data.toList = some x.data.toList := by
  cases h : unhex n.data.toList with
  | none => exact .inl rfl
  | some r => exact .inr ⟨bs r, rfl⟩
theorem snames_walk (v0 v1 : Value) (w : World) (hl : LaidSha w) (i0 : In w 9 v0) (i1 : In w 9 v1) : Calls Tryd.prog 5 #[v0, v1] w (Yes w) := by
  obtain ⟨s, rfl, hs⟩ := in_string Tryd.underlying9 i0
  obtain ⟨n, rfl, hn⟩ := in_string Tryd.underlying9 i1
  by_cases h : 4096 < s.size ∨ 4096 < n.size
  · exact snames_big s n w (tbk_of hl) h (size_leS hs) (size_leS hn)
  · rcases unhex_cases n with hx | ⟨x, hx⟩
    · exact snames_no s n w (tbk_of hl) (by omega) (by omega) hx
    · exact snames_yes s n x w (tbk_of hl) (by omega) (by omega) hx
theorem sback_walk (v0 v1 : Value) (w : World) (hl : LaidSha w) (i0 : In w 9 v0) (i1 : In w 9 v1) : Calls Tryd.prog 6 #[v0, v1] w (Yes w) := by
  obtain ⟨s, rfl, hs⟩ := in_string Tryd.underlying9 i0
  obtain ⟨n, rfl, hn⟩ := in_string Tryd.underlying9 i1
  by_cases h : 4096 < s.size ∨ 4096 < n.size
  · exact sback_big s n w (tbk_of hl) h (size_leS hs) (size_leS hn)
  · rcases unhex_cases n with hx | ⟨x, hx⟩
    · exact sback_no s n w (tbk_of hl) (by omega) (by omega) hx
    · exact sback_yes s n x w (tbk_of hl) (by omega) (by omega) hx
end Go.Proofs.YthnfjkinliekoaaDoor
