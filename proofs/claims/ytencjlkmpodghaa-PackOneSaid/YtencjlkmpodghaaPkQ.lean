/- PackBack. -/
import Derived.Test.YtencjlkmpodghaaPkD
namespace Go.Proofs.Ytencjlkmpodghaa
open Go.RowKit
set_option linter.unusedVariables false

theorem num_of (g : Nat) (n : Int) (rest : List UInt8) (w : World) (h : Rdr w g (bs (numB n ++ rest)) false) (h1 : -9223372036854775808 ≤ n) (h2 : n ≤ 9223372036854775807) (hr : rest.length ≤ 900000000) :
    Calls Try.prog 22 #[.pointer (some ⟨g, 0, none⟩)] w fun e w' => e = .returned (.int .i64 n) ∧ Rdr w' g (bs rest) false ∧ Kp [g] w w' := by
  have hl := numB_len h1 h2
  exact num_to g _ (bs rest) n (numB n).length w h (by rw [bs_list]; exact decN_numB n rest h1 h2) (by omega) (by rw [bs_size]; simp) (by rw [bs_size]; simp; omega) (bs_drop _ _)
theorem text_of (g : Nat) (s : ByteArray) (rest : List UInt8) (w : World) (h : Rdr w g (bs (numB s.size ++ s.data.toList ++ rest)) false) (hr : s.size + rest.length ≤ 900000000) :
    Calls Try.prog 24 #[.pointer (some ⟨g, 0, none⟩)] w fun e w' => e = .returned (.string s) ∧ Rdr w' g (bs rest) false ∧ Kp [g] w w' := by
  have hl := numB_len (z := (s.size : Int)) (by omega) (by omega)
  have hsl : s.data.toList.length = s.size := by simp
  refine text_to g _ s (bs rest) s.size (numB s.size).length w h (by rw [bs_list, List.append_assoc]; exact decN_numB _ _ (by omega) (by omega)) (by omega) (by rw [bs_size]; simp) (by rw [bs_size]; simp; omega) ?_ ?_
  · rw [bs_extract]
    have e : (numB s.size).length + s.size = (numB s.size ++ s.data.toList).length := by simp
    rw [e, List.take_left, List.drop_left]
    exact bs_of s
  · have e : (numB s.size).length + s.size = (numB s.size ++ s.data.toList).length := by simp
    rw [e]
    exact bs_drop _ _

theorem loop_ne (s : ByteArray) : ∀ (f i : Nat) (r : List UInt8), s.size - i ≤ f → (r ≠ [] ∨ i < s.size) → ByteArray.toList.loop s i r ≠ [] := by
  intro f
  induction f with
  | zero =>
    intro i r h h'
    rw [ByteArray.toList.loop, if_neg (by omega)]
    simpa using h'.resolve_right (by omega)
  | succ f ih =>
    intro i r h h'
    rw [ByteArray.toList.loop]
    split
    · exact ih _ _ (by omega) (.inl (by simp))
    · simpa using h'.resolve_right (by omega)
theorem empty_list (s : ByteArray) : s.toList.isEmpty = (s.size == 0) := by
  by_cases h : s.size = 0
  · have e : s.toList = [] := by unfold ByteArray.toList; rw [ByteArray.toList.loop, if_neg (by omega)]; rfl
    rw [e, h]; rfl
  · have e : s.toList ≠ [] := loop_ne s _ 0 [] (Nat.le_refl _) (.inr (by omega))
    have h2 : (s.size == 0) = false := by simpa using h
    rw [h2]
    simpa using e

set_option maxRecDepth 100000 in
set_option maxHeartbeats 2000000 in
theorem pback (A B : Option Addr) (n c m d : Nat) (zs : List Int) (ss : List ByteArray) (mo : ByteArray) (w : World) (hL : Ls w A n (zs.map (Value.int .i64))) (hwf : ∀ z ∈ zs, (Lit.int .i64 z).wf = true) (hnc : n ≤ c) (hc : c ≤ maxLen)
    (hM : Ls w B m (ss.map Value.string)) (hs : ∀ z ∈ ss, z.size ≤ maxLen) (hmd : m ≤ d) (hd : d ≤ maxLen) (hmo : mo.size ≤ maxLen) :
    Calls Try.prog 6 #[.slice A n c, .slice B m d, .string mo] w (Yes w) := by
  have hzl : zs.length = n := by simpa using hL.1
  have hsl : ss.length = m := by simpa using hM.1
  have HZ := Lib.hid hzl
  have HS := Lib.hid hsl
  clear hzl hsl
  unfold maxLen at hc hmo
  go_enter Try.func6, Try.ntmps6
  go_wp2_with fail
  refine (pawake _).mono ?_
  rintro e w1 ⟨rfl, hk1⟩
  by_cases hn : 4096 < n
  · go_wp2_with fail
    refine (pawake _).mono ?_
    rintro e w2 ⟨rfl, hk2⟩
    go_wp2_with fail
    go_ret
    exact ⟨rfl, hk1.trans hk2⟩
  have hL1 := hL.kp hk1 (by simp)
  have hM1 := hM.kp hk1 (by simp)
  go_wp2_with fail
  refine (long_any B m d ss _ hM1 hs hmd hd).mono ?_
  rintro e w1' ⟨bl, rfl, rfl, hbl⟩
  cases bl
  rotate_left
  · go_wp2_with fail
    refine (pawake _).mono ?_
    rintro e w2 ⟨rfl, hk2⟩
    go_wp2_with fail
    go_ret
    exact ⟨rfl, hk1.trans hk2⟩
  by_cases hmore : 4096 < mo.size
  · clear hbl
    go_wp2_with fail
    refine (pawake _).mono ?_
    rintro e w2 ⟨rfl, hk2⟩
    go_wp2_with fail
    go_ret
    exact ⟨rfl, hk1.trans hk2⟩
  have hto := hbl rfl
  have hm : m ≤ 16384 := by have := tot_len ss; have := HS.out; omega
  have htl : (texts ss).length ≤ 163840 := by
    have := tot_texts ss fun s h => by have := hs s h; unfold maxLen at this; omega
    omega
  have hzl : (zs.flatMap numB).length ≤ 40960 := by
    have := flat_len zs hwf
    have := HZ.out
    omega
  have h1 : ∀ k, ((zs.drop k).flatMap numB).length ≤ 40960 := fun k => by
    have h2 : zs.flatMap numB = (zs.take k).flatMap numB ++ (zs.drop k).flatMap numB := by rw [← List.flatMap_append, List.take_append_drop]
    rw [h2, List.length_append] at hzl
    omega
  have h2 : ∀ k, (texts (ss.drop k)).length ≤ 163840 := fun k => by
    have h3 : texts ss = texts (ss.take k) ++ texts (ss.drop k) := by unfold texts; rw [← List.flatMap_append, List.take_append_drop]
    rw [h3, List.length_append] at htl
    omega
  clear hbl hto
  obtain ⟨b1, hb1⟩ : ∃ b, bs (zs.flatMap numB) = b := ⟨_, rfl⟩
  obtain ⟨b2, hb2⟩ : ∃ b, bs (texts ss) = b := ⟨_, rfl⟩
  have hz1 : b1.size ≤ 40960 := by rw [← hb1, bs_size]; exact hzl
  have hz2 : b2.size ≤ 163840 := by rw [← hb2, bs_size]; exact htl
  have HB1 := Lib.hid hb1
  have HB2 := Lib.hid hb2
  have H1 := Lib.hid h1
  have H2 := Lib.hid h2
  clear hb1 hb2 hzl h1 h2
  go_wp2_with (at_builtin; refine wpl_copy_int w1 rfl _ _ rfl A n c zs rfl rfl hL1 (by omega) ?_; intro A2 c2 w2 hc2 hL2 hA2 hk2)
  refine (nums_to A2 n c2 zs b1 _ HB1.out hL2 hwf (by omega)).mono ?_
  rintro e w3 ⟨rfl, hk3⟩
  have hk23 := hk2.trans hk3
  have hM3 := hM1.kp hk23 (by simp)
  clear hL2
  go_wp2_with (at_builtin; refine wpl_copy_str w3 rfl _ _ rfl B m d ss rfl rfl hM3 (by omega) ?_; intro v4 w4 hown4 hk4; obtain ⟨A4, c4, rfl, hL4, -, -, -⟩ := own_open hown4)
  refine (packtext_to A4 m c4 ss b2 _ HB2.out hL4 (by omega) (by omega)).mono ?_
  rintro e w5 ⟨rfl, hk5⟩
  have hk05 := (hk1.trans hk23).trans (hk4.trans hk5)
  clear hL4 hown4 hk1 hk2 hk3 hk23 hk4 hk5 hL1 hM1 hM3
  go_wp2_with fail
  refine (read_any _ _).mono ?_
  rintro e w6 ⟨rfl, hr6, hk6⟩
  obtain ⟨g, hg⟩ : ∃ g, w5.heap.size = g := ⟨_, rfl⟩
  have hgw : w.heap.size ≤ g := by have := hk05.size; omega
  have hkp6 := hk05.trans hk6
  rw [hg] at hr6
  rw [hg]
  clear hk05 hk6
  have hcat : b1 ++ b2 ++ mo = bs ((zs.drop 0).flatMap numB ++ (texts ss ++ mo.data.toList)) := by
    rw [← HB1.out, ← HB2.out, List.drop_zero, ← bs_append, ← bs_append, bs_of, ByteArray.append_assoc]
  rw [hcat] at hr6
  clear hcat
  have hmol : mo.data.toList.length ≤ 4096 := by simp; omega
  have hoff : g ∉ ([] : List Nat) := by simp
  go_wp2_with fail
  go_loopg [43] n (fun gk i wr => ∃ k : Nat, n - k ≤ gk ∧ i = .int .i64 k ∧ k ≤ n ∧ Rdr wr g (bs ((zs.drop k).flatMap numB ++ (texts ss ++ mo.data.toList))) false ∧ Kp [] w wr)
  case atStart => exact ⟨0, by omega, rfl, Nat.zero_le _, hr6, hkp6⟩
  case round =>
    clear hr6 hkp6
    obtain ⟨k, hgk, rfl, hk, hr, hkp⟩ := hrel
    by_cases hlt : k < n
    · obtain ⟨ad, u, rfl, _, hu, hc⟩ := (hL.kp hkp (by simp)).at_ hlt
      have hl : k < zs.length := by have := HZ.out; omega
      rw [List.getElem?_map, List.getElem?_eq_getElem hl] at hu
      obtain ⟨z, hz⟩ : ∃ z, zs[k] = z := ⟨_, rfl⟩
      rw [hz] at hu
      obtain rfl : Value.int .i64 z = u := by simpa using hu
      have hbd := bd_i64 (hwf z (by rw [← hz]; exact List.getElem_mem hl))
      have hst : (zs.drop k).flatMap numB ++ (texts ss ++ mo.data.toList) = numB z ++ ((zs.drop (k + 1)).flatMap numB ++ (texts ss ++ mo.data.toList)) := by
        rw [List.drop_eq_getElem_cons hl, hz]; simp
      rw [hst] at hr
      have hln := H1.out (k + 1)
      have hrl : ((zs.drop (k + 1)).flatMap numB ++ (texts ss ++ mo.data.toList)).length ≤ 900000000 := by
        rw [List.length_append, List.length_append]; omega
      have HRL := Lib.hid hrl
      clear hst hu hz hl hln hrl
      go_wp2_with fail
      refine (num_of g z _ _ hr hbd.1 hbd.2 HRL.out).mono ?_
      rintro e w2 ⟨rfl, hr2, hk2⟩
      have hkp2 := hkp.then hk2 (by simp; omega)
      go_wp2_with fail
      go_roundg (n - (k + 1))
      case measure => omega
      case rel => exact ⟨k + 1, by omega, by go_num, by omega, hr2, hkp2⟩
    · have hkn : zs.drop k = [] := List.drop_eq_nil_of_le (by have := HZ.out; omega)
      rw [hkn, List.flatMap_nil, List.nil_append] at hr
      clear hkn hgk
      go_wp2_with fail
      go_loopg [54] m (fun gk i wr => ∃ k : Nat, m - k ≤ gk ∧ i = .int .i64 k ∧ k ≤ m ∧ Rdr wr g (bs (texts (ss.drop k) ++ mo.data.toList)) false ∧ Kp [] w wr)
      case atStart => exact ⟨0, by omega, rfl, Nat.zero_le _, hr, hkp⟩
      case round =>
        clear hr hkp
        obtain ⟨j, hgj, rfl, hj, hr, hkp⟩ := hrel
        by_cases hlt : j < m
        · obtain ⟨ad, u, rfl, _, hu, hc⟩ := (hM.kp hkp (by simp)).at_ hlt
          have hl : j < ss.length := by have := HS.out; omega
          rw [List.getElem?_map, List.getElem?_eq_getElem hl] at hu
          obtain ⟨s, hss⟩ : ∃ s, ss[j] = s := ⟨_, rfl⟩
          rw [hss] at hu
          obtain rfl : Value.string s = u := by simpa using hu
          have hst : texts (ss.drop j) ++ mo.data.toList = numB s.size ++ s.data.toList ++ (texts (ss.drop (j + 1)) ++ mo.data.toList) := by
            unfold texts
            rw [List.drop_eq_getElem_cons hl, hss]; simp
          have hrl : s.size + (texts (ss.drop (j + 1)) ++ mo.data.toList).length ≤ 900000000 := by
            have h3 := H2.out j
            have h4 := congrArg List.length hst
            simp only [List.length_append, Array.length_toList, ByteArray.size_data] at h4 ⊢
            omega
          rw [hst] at hr
          have HRL := Lib.hid hrl
          clear hst hu hss hl hrl
          go_wp2_with fail
          refine (text_of g s _ _ hr HRL.out).mono ?_
          rintro e w2 ⟨rfl, hr2, hk2⟩
          have hkp2 := hkp.then hk2 (by simp; omega)
          go_wp2_with fail
          go_roundg (m - (j + 1))
          case measure => omega
          case rel => exact ⟨j + 1, by omega, by go_num, by omega, hr2, hkp2⟩
        · have hkn : ss.drop j = [] := List.drop_eq_nil_of_le (by have := HS.out; omega)
          have hte : texts (ss.drop j) ++ mo.data.toList = mo.data.toList := by rw [hkn]; rfl
          rw [hte, bs_of] at hr
          clear hkn hte
          go_wp2_with fail
          refine (good_any g _ _ _ hr).mono ?_
          rintro e w2 ⟨rfl, rfl⟩
          go_wp2_with fail
          refine (left_any g _ _ _ hr).mono ?_
          rintro e w2 ⟨rfl, rfl⟩
          go_wp2_with fail
          refine (done_any g _ _ _ hr).mono ?_
          rintro e w2 ⟨rfl, rfl⟩
          go_wp2_with fail
          go_ret
          exact ⟨ret_bool (by rw [empty_list]; simp), hkp⟩
theorem pback_walk (v0 v1 v2 : Value) (w : World) (i0 : In w 22 v0) (i1 : In w 27 v1) (i2 : In w 9 v2) : Calls Try.prog 6 #[v0, v1, v2] w (Yes w) := by
  obtain ⟨A, n, c, zs, rfl, h1, h2, h3, h4⟩ := in_ints i0
  obtain ⟨B, m, d, ss, rfl, k1, k2, k3, k4⟩ := in_strs i1
  obtain ⟨mo, rfl, hmo⟩ := in_string Try.underlying9 i2
  exact pback A B n c m d zs ss mo w h3 h4 h1 h2 k3 k4 k1 k2 hmo
end Go.Proofs.Ytencjlkmpodghaa
