/- CrcGoes. -/
import Derived.Test.YtglehfpddhkoeaaDoorCrL
import Derived.Deep.RegionWith
namespace Go.Proofs.YtglehfpddhkoeaaDoor
open Go.RowKit
set_option linter.unusedVariables false

theorem flat_parts (ss : List ByteArray) (k : Nat) : flat (ss.take k) ++ flat (ss.drop k) = flat ss := by
  unfold flat
  rw [← List.flatMap_append, List.take_append_drop]
theorem bool_eq_self (m : Nat) : ((m : Int) == (m : Int)) = true := beq_self_eq_true _
set_option maxHeartbeats 8000000 in
theorem cgoes (at0 : Int) (A : Option Addr) (n c : Nat) (ss : List ByteArray) (w : World) (ht : Tab w) (h1 : -9223372036854775808 ≤ at0) (h2 : at0 ≤ 9223372036854775807) (hbn : n ≤ 201) (hL : Ls w A n (ss.map Value.string)) (hz : ∀ z ∈ ss, z.size ≤ maxLen) (hnc : n ≤ c) (hc : c ≤ maxLen) :
    Calls Tryd.prog 4 #[.slice A n c, .int .i64 at0] w (Yes w) := by
  have h1 : ss.length = n := by simpa using hL.1
  have H1 := Lib.hid h1
  clear h1
  unfold maxLen at hc
  obtain ⟨k, hk, hkn⟩ := modk at0 n (by omega) (by omega) (by omega)
  go_enter Tryd.func4, Tryd.ntmps4
  go_wp2_with fail
  refine (joined_any A n c ss _ hL hz (by unfold maxLen; omega)).mono ?_
  rintro e w1 ⟨ok, t, rfl, rfl, hok⟩
  cases ok
  · clear hok
    go_wp2_with fail
    refine (cawake _ ht).mono ?_
    rintro e w2 ⟨rfl, hk2⟩
    go_wp2_with fail
    refine (cawake _ (ht.kp hk2)).mono ?_
    rintro e w3 ⟨rfl, hk3⟩
    go_wp2_with fail
    go_ret
    exact ⟨rfl, hk2.trans hk3⟩
  · obtain ⟨rfl, hts, hn⟩ := hok rfl
    have hz2 := flat_size hts
    have hn2 : n ≤ 201 := by have := H1.out; omega
    have HZ := Lib.hid hz
    have hbt : (bs (flat ss)).data.toList = flat ss := bs_list _
    have HBT := Lib.hid hbt
    obtain ⟨m, hm⟩ : ∃ m, Crc.more 0 (flat ss) = m := ⟨_, rfl⟩
    obtain ⟨m1, hm1⟩ : ∃ m, Crc.more 0 (flat (ss.take k)) = m := ⟨_, rfl⟩
    have hm1l := Crc.more_lt 0 (flat (ss.take k))
    have hm2 : Crc.more m1 (flat (ss.drop k)) = m := by rw [← hm1, ← Crc.more_append (by decide), ← hm, flat_parts]
    have hm3 : Crc.more 0 (flat [bs (flat ss)]) = m := by rw [← hm]; simp [flat, bs_list]
    rw [hm1] at hm1l
    have HM := Lib.hid hm
    have HM1 := Lib.hid hm1
    have HM2 := Lib.hid hm2
    have HM3 := Lib.hid hm3
    have HZ1 : Hid (∀ z ∈ ss.take k, z.size ≤ maxLen) := fun z h => hz z (List.mem_of_mem_take h)
    have HZ2 : Hid (∀ z ∈ ss.drop k, z.size ≤ maxLen) := fun z h => hz z (List.mem_of_mem_drop h)
    clear hn hok hz hbt hm hm1 hm2 hm3
    generalize bs (flat ss) = t at *
    have HZ3 : Hid (∀ z ∈ [t], z.size ≤ maxLen) := fun z h => by
      obtain rfl : z = t := by simpa using h
      unfold maxLen
      omega
    go_wp2_with fail
    refine (cawake _ ht).mono ?_
    rintro e w2 ⟨rfl, hk2⟩
    have hL2 := hL.kp hk2 (by simp)
    have ht2 := ht.kp hk2
    go_wp2_with (at_builtin; refine wpl_copy_str w2 rfl _ _ rfl A n c ss rfl rfl hL2 (by omega) ?_; intro v3 w3 hown3 hk3; obtain ⟨A3, c3, rfl, hL3, -, hnc3, hcm3⟩ := own_open hown3)
    have ht3 := ht2.kp hk3
    have hk0 : (0 : Int) ≤ (k : Int) := by omega
    have hk1 : (k : Int) ≤ (n : Int) := by omega
    rw [hk]
    clear hk
    have hLt := hL3.take hkn
    have hkm : k ≤ maxLen := by unfold maxLen; omega
    have h1m : 1 ≤ maxLen := by decide
    have hnm : n - k ≤ maxLen := by unfold maxLen; omega
    have hcn : (n : Int) ≤ (c3 : Int) := by omega
    have hk2' : (k : Int) ≤ (c3 : Int) := by omega
    rw [← List.map_take] at hLt
    rcases own_shape hown3 with ⟨rfl, rfl, rfl⟩ | ⟨g3, rfl, hbg3, hlt3⟩
    · obtain rfl : k = 0 := by omega
      obtain rfl : ss = [] := List.eq_nil_of_length_eq_zero H1.out
      clear hLt hL3 hL2 hL hk0 hk1 hcn hk2'
      have h0m : 0 ≤ maxLen := Nat.zero_le _
      go_region_with (first
        | (go_at_call 9; refine (sum_to none 0 0 (List.take 0 []) m1 _ HM1.out (ht3.kp ?_) Ls.zero HZ1.out h0m).mono ?_; (repeat first | exact Kp.rfl_ _ _ | apply Kp.drew | apply Kp.alloc); rintro e w8 ⟨rfl, rfl⟩)
        | (go_at_call 9; refine (sum_to (some ⟨w3.heap.size, 0, none⟩) 1 1 [t] m _ HM3.out (ht3.kp ?_) ?_ HZ3.out h1m).mono ?_; (repeat first | exact Kp.rfl_ _ _ | apply Kp.drew | apply Kp.alloc); (exact Ls.of_at (At.new w3 9 #[.string t])); rintro e w8 ⟨rfl, rfl⟩)
        | (go_at_call 11; refine (more_to m1 none 0 0 (List.drop 0 []) m _ HM2.out (ht3.kp ?_) hm1l Ls.zero HZ2.out h0m).mono ?_; (repeat first | exact Kp.rfl_ _ _ | apply Kp.drew | apply Kp.alloc); rintro e w8 ⟨rfl, rfl⟩))
      all_goals
        go_wp2_with fail
        go_ret
        exact ⟨ret_bool (by simp), (hk2.trans hk3).trans (by repeat first | exact Kp.rfl_ _ _ | apply Kp.drew | apply Kp.alloc)⟩
    · by_cases hc0 : c3 = 0
      · obtain rfl : n = 0 := by omega
        obtain rfl : k = 0 := by omega
        subst hc0
        obtain rfl : ss = [] := List.eq_nil_of_length_eq_zero H1.out
        clear hLt hL3 hL2 hL hk0 hk1 hcn hk2'
        have h0m : 0 ≤ maxLen := Nat.zero_le _
        go_region_with (first
          | (go_at_call 9; refine (sum_to (some ⟨g3, 0, none⟩) 0 0 (List.take 0 []) m1 _ HM1.out (ht3.kp ?_) Ls.zero HZ1.out h0m).mono ?_; (repeat first | exact Kp.rfl_ _ _ | apply Kp.drew | apply Kp.alloc); rintro e w8 ⟨rfl, rfl⟩)
          | (go_at_call 9; refine (sum_to (some ⟨w3.heap.size, 0, none⟩) 1 1 [t] m _ HM3.out (ht3.kp ?_) ?_ HZ3.out h1m).mono ?_; (repeat first | exact Kp.rfl_ _ _ | apply Kp.drew | apply Kp.alloc); (exact Ls.of_at (At.new w3 9 #[.string t])); rintro e w8 ⟨rfl, rfl⟩)
          | (go_at_call 11; refine (more_to m1 (some ⟨g3, 0, none⟩) 0 0 (List.drop 0 []) m _ HM2.out (ht3.kp ?_) hm1l Ls.zero HZ2.out h0m).mono ?_; (repeat first | exact Kp.rfl_ _ _ | apply Kp.drew | apply Kp.alloc); rintro e w8 ⟨rfl, rfl⟩))
        all_goals
          go_wp2_with fail
          go_ret
          exact ⟨ret_bool (by simp), (hk2.trans hk3).trans (by repeat first | exact Kp.rfl_ _ _ | apply Kp.drew | apply Kp.alloc)⟩
      · by_cases hck : c3 = k
        · obtain rfl : n = k := by omega
          subst hck
          have hnil : (ss.drop c3).map Value.string = [] := by rw [List.drop_eq_nil_of_le (by have := H1.out; omega)]; rfl
          have h0m : 0 ≤ maxLen := Nat.zero_le _
          have hF := hLt
          have hB : Ls w3 (some ⟨g3, 0, none⟩) 0 ((ss.drop c3).map Value.string) := by rw [hnil]; exact Ls.zero
          clear hLt hL3 hL2 hL hnil
          go_region_with (first
            | (go_at_call 9; refine (sum_to (some ⟨g3, 0, none⟩) c3 c3 (ss.take c3) m1 _ HM1.out (ht3.kp ?_) (Ls.kp (S := []) hF ?_ (by simp)) HZ1.out hkm).mono ?_; (repeat first | exact Kp.rfl_ _ _ | apply Kp.drew | apply Kp.alloc); (repeat first | exact Kp.rfl_ _ _ | apply Kp.drew | apply Kp.alloc); rintro e w8 ⟨rfl, rfl⟩)
            | (go_at_call 9; refine (sum_to (some ⟨w3.heap.size, 0, none⟩) 1 1 [t] m _ HM3.out (ht3.kp ?_) ?_ HZ3.out h1m).mono ?_; (repeat first | exact Kp.rfl_ _ _ | apply Kp.drew | apply Kp.alloc); (exact Ls.of_at (At.new w3 9 #[.string t])); rintro e w8 ⟨rfl, rfl⟩)
            | (go_at_call 11; refine (more_to m1 (some ⟨g3, 0, none⟩) 0 0 (ss.drop c3) m _ HM2.out (ht3.kp ?_) hm1l (Ls.kp (S := []) hB ?_ (by simp)) HZ2.out h0m).mono ?_; (repeat first | exact Kp.rfl_ _ _ | apply Kp.drew | apply Kp.alloc); (repeat first | exact Kp.rfl_ _ _ | apply Kp.drew | apply Kp.alloc); rintro e w8 ⟨rfl, rfl⟩))
          all_goals
            go_wp2_with fail
            go_ret
            exact ⟨ret_bool (by simp), (hk2.trans hk3).trans (by repeat first | exact Kp.rfl_ _ _ | apply Kp.drew | apply Kp.alloc)⟩
        · have hB : Ls w3 (some ⟨g3, k, none⟩) (n - k) ((ss.drop k).map Value.string) := by
            have := hL3.drop hkn
            rw [← List.map_drop] at this
            rwa [addr0] at this
          have hF := hLt
          clear hLt hL3 hL2 hL
          go_region_with (first
            | (go_at_call 9; refine (sum_to (some ⟨g3, 0, none⟩) k c3 (ss.take k) m1 _ HM1.out (ht3.kp ?_) (Ls.kp (S := []) hF ?_ (by simp)) HZ1.out hkm).mono ?_; (repeat first | exact Kp.rfl_ _ _ | apply Kp.drew | apply Kp.alloc); (repeat first | exact Kp.rfl_ _ _ | apply Kp.drew | apply Kp.alloc); rintro e w8 ⟨rfl, rfl⟩)
            | (go_at_call 9; refine (sum_to (some ⟨w3.heap.size, 0, none⟩) 1 1 [t] m _ HM3.out (ht3.kp ?_) ?_ HZ3.out h1m).mono ?_; (repeat first | exact Kp.rfl_ _ _ | apply Kp.drew | apply Kp.alloc); (exact Ls.of_at (At.new w3 9 #[.string t])); rintro e w8 ⟨rfl, rfl⟩)
            | (go_at_call 11; refine (more_to m1 (some ⟨g3, k, none⟩) (n - k) (c3 - k) (ss.drop k) m _ HM2.out (ht3.kp ?_) hm1l (Ls.kp (S := []) hB ?_ (by simp)) HZ2.out hnm).mono ?_; (repeat first | exact Kp.rfl_ _ _ | apply Kp.drew | apply Kp.alloc); (repeat first | exact Kp.rfl_ _ _ | apply Kp.drew | apply Kp.alloc); rintro e w8 ⟨rfl, rfl⟩))
          all_goals
            go_wp2_with fail
            go_ret
            exact ⟨ret_bool (by simp), (hk2.trans hk3).trans (by repeat first | exact Kp.rfl_ _ _ | apply Kp.drew | apply Kp.alloc)⟩
theorem cgoes_big (at0 : Int) (A : Option Addr) (n c : Nat) (ss : List ByteArray) (w : World) (ht : Tab w) (hn : 201 < n) (hL : Ls w A n (ss.map Value.string)) (hz : ∀ z ∈ ss, z.size ≤ maxLen) (hnc : n ≤ c) (hc : c ≤ maxLen) :
    Calls Tryd.prog 4 #[.slice A n c, .int .i64 at0] w (Yes w) := by
  have h1 : ss.length = n := by simpa using hL.1
  unfold maxLen at hc
  go_enter Tryd.func4, Tryd.ntmps4
  go_wp2_with fail
  refine (joined_any A n c ss _ hL hz (by unfold maxLen; omega)).mono ?_
  rintro e w1 ⟨ok, t, rfl, rfl, hok⟩
  cases ok
  · clear hok
    go_wp2_with fail
    refine (cawake _ ht).mono ?_
    rintro e w2 ⟨rfl, hk2⟩
    go_wp2_with fail
    refine (cawake _ (ht.kp hk2)).mono ?_
    rintro e w3 ⟨rfl, hk3⟩
    go_wp2_with fail
    go_ret
    exact ⟨rfl, hk2.trans hk3⟩
  · obtain ⟨-, -, h3⟩ := hok rfl
    omega
theorem cgoes_walk (v0 v1 : Value) (w : World) (hl : LaidCrc w) (i0 : In w 23 v0) (i1 : In w 3 v1) : Calls Tryd.prog 4 #[v0, v1] w (Yes w) := by
  obtain ⟨A, n, c, ss, rfl, h1, h2, h3, h4⟩ := in_strs i0
  obtain ⟨a, rfl, wa⟩ := in_int Tryd.underlying3 i1
  have hb := bd_i64 wa
  by_cases hn : n ≤ 201
  · exact cgoes a A n c ss w (tab_of hl) hb.1 hb.2 hn h3 h4 h1 h2
  · exact cgoes_big a A n c ss w (tab_of hl) (by omega) h3 h4 h1 h2
end Go.Proofs.YtglehfpddhkoeaaDoor
