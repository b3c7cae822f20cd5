/- The laws of frame: FrameBehind. -/
import Derived.Test.YthnfjkinliekoaaDoorFv
namespace Go.Proofs.YthnfjkinliekoaaDoor
set_option maxRecDepth 100000
open Go.RowKit
set_option linter.unusedVariables false

set_option maxHeartbeats 1200000 in
theorem fbehind (A : Option Addr) (n c : Nat) (ss : List ByteArray) (t : ByteArray) (w : World) (ht : Tab w) (hL : Ls w A n (ss.map Value.string)) (hs : ∀ z ∈ ss, z.size ≤ maxLen) (hto : tot ss ≤ 8192) (hnc : n ≤ c) (hc : c ≤ maxLen) (hts : t.size ≤ 4096) :
    Calls Tryd.prog 10 #[.slice A n c, .string t] w (Yes w) := by
  have hlen : ss.length = n := by simpa using hL.1
  obtain ⟨h8, h9, h10⟩ := short_all hto
  have hn : n ≤ 8192 := by omega
  have hsm := Lib.hid (fun z hz => by have := h8 z hz; omega : ∀ z ∈ ss, z.size ≤ 1048576)
  have H1 := Lib.hid hlen
  have HS := Lib.hid hs
  have HL := Lib.hid h10
  obtain ⟨r, hr⟩ : ∃ r, bs (frms ss) = r := ⟨_, rfl⟩
  have hrs : r.size = (frms ss).length := by rw [← hr, bs_size]
  have hr1 : r.size ≤ 114688 := by omega
  have hrt : (r ++ t).data.toList = frms ss ++ t.data.toList := by rw [← hr]; simp [bs]
  have hsc := scn_frms ss t.data.toList hsm.out
  rw [← hrt, ← hrs] at hsc
  have htl := scn_len t (by omega)
  obtain ⟨ts, hte⟩ : ∃ ts, (scn t.data.toList).1 = ts := ⟨_, rfl⟩
  obtain ⟨q, hqe⟩ : ∃ q, (scn t.data.toList).2 = q := ⟨_, rfl⟩
  have hbd := scn_bd (t.data.toList.length + 1) t.data.toList
  rw [show scnF (t.data.toList.length + 1) t.data.toList = scn t.data.toList from rfl, hte, hqe, show t.data.toList.length = t.size by simp] at hbd
  rw [hte, hqe] at hsc
  have hrts : (r ++ t).size ≤ 118784 := by rw [ByteArray.size_append]; omega
  obtain ⟨m, hm⟩ : ∃ m, ts.length = m := ⟨_, rfl⟩
  have hm1 : m ≤ 4096 := by omega
  have hq1 : q ≤ 4096 := by omega
  have HM := Lib.hid hm
  have HR := Lib.hid hr
  have HSC := Lib.hid hsc
  have HTE := Lib.hid hte
  have HQE := Lib.hid hqe
  have hnm : (ss ++ ts).length = n + m := by rw [List.length_append, hlen, hm]
  have HNM := Lib.hid hnm
  clear hlen hs h8 h9 h10 hr hrs hrt hsc htl hbd hte hqe hm hnm
  go_enter Tryd.func10, Tryd.ntmps10
  go_wp2_with fail
  refine (fawake _ ht).mono ?_
  rintro e w1 ⟨rfl, hk1⟩
  have hL1 := hL.kp hk1 (by simp)
  have ht1 := ht.kp hk1
  go_wp2_with fail
  refine (many_any A n c ss _ hL1 HS.out hnc hc).mono ?_
  rintro e w1' ⟨bl, rfl, rfl, hbl⟩
  cases bl
  · clear hbl
    go_wp2_with (at_builtin; refine wpl_copy_str w1 rfl _ _ rfl A n c ss rfl rfl hL1 (by omega) ?_; intro v2 w2 hown2 hk2; obtain ⟨A2, c2, rfl, hL2, -, -, -⟩ := own_open hown2)
    refine (seal_to A2 n c2 ss r _ HR.out (ht1.kp hk2) hL2 hsm.out (by omega) (by have := HL.out; omega)).mono ?_
    rintro e w3 ⟨rfl, hk3⟩
    have hk13 := (hk1.trans hk2).trans hk3
    have ht3 := (ht1.kp hk2).kp hk3
    have hL3 := hL.kp hk13 (by simp)
    clear hL2 hown2 hk1 hk2 hk3 hL1 ht1
    go_wp2_with fail
    refine (scan_any _ _ ht3 (by omega)).mono ?_
    rintro e w4 ⟨v4, rfl, hown4, hk4⟩
    rw [HSC.out] at hown4 ⊢
    simp only at hown4 ⊢
    have hk14 := hk13.trans hk4
    have ht4 := ht3.kp hk4
    go_wp2_with fail
    refine (scan_any _ _ ht4 (by omega)).mono ?_
    rintro e w5 ⟨v5, rfl, hown5, hk5⟩
    rw [HTE.out, HM.out] at hown5
    rw [HQE.out]
    rw [HNM.out] at hown4
    have hown4' := own_kp hown4 hk5 (by simp)
    have hL5 := hL.kp (hk14.trans hk5) (by simp)
    have hk15 := hk14.trans hk5
    obtain ⟨A4, c4, rfl, hL4, -, hnc4, hcm4⟩ := own_open hown4'
    obtain ⟨A5, c5, rfl, hL6, -, hnc5, hcm5⟩ := own_open hown5
    clear hown4 hk13 hk14 hk4 hk5 ht3 ht4 hL3
    have hb1 : (n : Int) ≤ (n : Int) + (m : Int) := by omega
    have hb2 : (n : Int) ≤ (c4 : Int) := by omega
    have hb3 : (n : Int) + (m : Int) ≤ (c4 : Int) := by omega
    go_wp2_with fail
    have hT := hL4.take (k := n) (by omega)
    have hln := H1.out
    rw [← List.map_take, List.take_left' hln] at hT
    have hlm := HM.out
    clear hln
    refine (same_yes A4 A n c4 n c ss _ hT hL5 (by omega)).mono ?_
    rintro e w6 ⟨rfl, hk6⟩
    have hk16 := hk15.trans hk6
    have hL7 := hL4.kp hk6 (by simp)
    have hL8 := hL6.kp hk6 (by simp)
    clear hT hL4 hL6 hL5 hk15 hk6 hown5
    have hrest : Ls w6 (A4.map fun x => x.add n) m (ts.map Value.string) := by
      rcases Nat.eq_zero_or_pos m with rfl | hpos
      · rw [List.eq_nil_of_length_eq_zero hlm]; exact Ls.zero
      · obtain ⟨ad, e, -, -⟩ := hL7.2 (by omega)
        subst e
        have := hL7.drop (k := n) (by omega)
        rw [← List.map_drop, List.drop_left' H1.out, Nat.add_sub_cancel_left] at this
        exact this
    by_cases hnc : n = c4
    · obtain rfl : m = 0 := by omega
      subst hnc
      have ht0 := List.eq_nil_of_length_eq_zero hlm
      subst ht0
      go_wp2_with fail
      refine (same_yes A4 A5 0 0 0 c5 [] _ Ls.zero Ls.zero (by omega)).mono ?_
      rintro e w7 ⟨rfl, hk7⟩
      go_wp2_with fail
      go_ret
      exact ⟨ret_bool (by simp), hk16.trans hk7⟩
    · go_wp2_with fail
      refine (same_yes (A4.map fun x => x.add n) A5 m (c4 - n) m c5 ts _ hrest hL8 (by omega)).mono ?_
      rintro e w7 ⟨rfl, hk7⟩
      go_wp2_with fail
      go_ret
      exact ⟨ret_bool (by simp), hk16.trans hk7⟩
  · go_wp2_with fail
    refine (fawake _ ht1).mono ?_
    rintro e w2 ⟨rfl, hk2⟩
    go_wp2_with fail
    go_ret
    exact ⟨rfl, hk1.trans hk2⟩
set_option maxHeartbeats 1000000 in
theorem fbehind_long (A : Option Addr) (n c : Nat) (ss : List ByteArray) (t : ByteArray) (w : World) (ht : Tab w) (hL : Ls w A n (ss.map Value.string)) (hs : ∀ z ∈ ss, z.size ≤ maxLen) (hto : tot ss ≤ 8192) (hnc : n ≤ c) (hc : c ≤ maxLen) (hts : 4096 < t.size) (hz : t.size ≤ 9223372036854775807) :
    Calls Tryd.prog 10 #[.slice A n c, .string t] w (Yes w) := by
  have HS := Lib.hid hs
  clear hs
  go_enter Tryd.func10, Tryd.ntmps10
  go_wp2_with fail
  refine (fawake _ ht).mono ?_
  rintro e w1 ⟨rfl, hk1⟩
  have hL1 := hL.kp hk1 (by simp)
  have ht1 := ht.kp hk1
  go_wp2_with fail
  refine (many_any A n c ss _ hL1 HS.out hnc hc).mono ?_
  rintro e w1' ⟨bl, rfl, rfl, hbl⟩
  cases bl
  all_goals
    go_wp2_with fail
    refine (fawake _ ht1).mono ?_
    rintro e w2 ⟨rfl, hk2⟩
    go_wp2_with fail
    go_ret
    exact ⟨rfl, hk1.trans hk2⟩
set_option maxHeartbeats 1000000 in
theorem fbehind_out (A : Option Addr) (n c : Nat) (ss : List ByteArray) (t : ByteArray) (w : World) (ht : Tab w) (hL : Ls w A n (ss.map Value.string)) (hs : ∀ z ∈ ss, z.size ≤ maxLen) (hto : 8192 < tot ss) (hnc : n ≤ c) (hc : c ≤ maxLen) :
    Calls Tryd.prog 10 #[.slice A n c, .string t] w (Yes w) := by
  have HS := Lib.hid hs
  clear hs
  go_enter Tryd.func10, Tryd.ntmps10
  go_wp2_with fail
  refine (fawake _ ht).mono ?_
  rintro e w1 ⟨rfl, hk1⟩
  have hL1 := hL.kp hk1 (by simp)
  have ht1 := ht.kp hk1
  go_wp2_with fail
  refine (many_any A n c ss _ hL1 HS.out hnc hc).mono ?_
  rintro e w1' ⟨bl, rfl, rfl, hbl⟩
  cases bl
  · have := hbl rfl
    omega
  · go_wp2_with fail
    refine (fawake _ ht1).mono ?_
    rintro e w2 ⟨rfl, hk2⟩
    go_wp2_with fail
    go_ret
    exact ⟨rfl, hk1.trans hk2⟩
theorem fbehind_walk (v0 v1 : Value) (w : World) (hl : LaidCrc w) (i0 : In w 22 v0) (i1 : In w 9 v1) : Calls Tryd.prog 10 #[v0, v1] w (Yes w) := by
  obtain ⟨A, n, c, zs, rfl, h1, h2, h3, h4⟩ := in_strs i0
  obtain ⟨t, rfl, ht⟩ := in_string Tryd.underlying9 i1
  by_cases h : tot zs ≤ 8192
  · by_cases h' : t.size ≤ 4096
    · exact fbehind A n c zs t w (tab_of hl) h3 h4 h h1 h2 h'
    · exact fbehind_long A n c zs t w (tab_of hl) h3 h4 h h1 h2 (by omega) (size_le ht)
  · exact fbehind_out A n c zs t w (tab_of hl) h3 h4 (by omega) h1 h2
end Go.Proofs.YthnfjkinliekoaaDoor
