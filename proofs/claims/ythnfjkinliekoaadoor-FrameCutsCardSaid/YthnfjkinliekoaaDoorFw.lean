/- The laws of frame: FrameCuts, FrameBehind. -/
import Derived.Test.YthnfjkinliekoaaDoorFv
namespace Go.Proofs.YthnfjkinliekoaaDoor
set_option maxRecDepth 100000
open Go.RowKit
set_option linter.unusedVariables false

/-- So many frames are there in all ahead of c, and so many bytes they take. -/
def Whole (ss : List ByteArray) (c k to : Nat) : Prop := k ≤ ss.length ∧ (frms (ss.take k)).length = to ∧ to ≤ c ∧ ∀ s, ss[k]? = some s → c < to + (frm s.data.toList).length
theorem whole_scan {ss : List ByteArray} {c k to : Nat} (h : Whole ss c k to) (hs : ∀ s ∈ ss, s.size ≤ 1048576) (hc : c ≤ (frms ss).length) : scn ((frms ss).take c) = (ss.take k, to) := by
  obtain ⟨h1, h2, h3, h4⟩ := h
  have hsplit : frms ss = frms (ss.take k) ++ frms (ss.drop k) := by rw [← frms_append, List.take_append_drop]
  have e : (frms ss).take c = frms (ss.take k) ++ (frms (ss.drop k)).take (c - to) := by
    rw [hsplit, List.take_append, h2, List.take_of_length_le (by omega)]
  have hnone : opn ((frms (ss.drop k)).take (c - to)) = none := by
    cases hd : ss.drop k with
    | nil =>
      rw [show frms [] = [] from rfl, List.take_nil]
      decide
    | cons s r =>
      have hk : ss[k]? = some s := by
        have := congrArg (·[0]?) hd
        simpa using this
      have hcs := h4 s hk
      rw [frms_cons, List.take_append_of_le_length (by omega)]
      have hm : s ∈ ss := List.mem_of_getElem? hk
      have hl : s.data.toList.length = s.size := by simp
      exact opn_cut (by have := hs s hm; omega) (by omega)
  rw [e, scn_frms _ _ fun s h => hs s (List.mem_of_mem_take h), scn_none hnone, h2]
  simp
set_option maxHeartbeats 1200000 in
theorem fcuts_in (A : Option Addr) (n c : Nat) (ss : List ByteArray) (at0 : Int) (w : World) (ht : Tab w) (h1 : -9223372036854775808 ≤ at0) (h2 : at0 ≤ 9223372036854775807) (hL : Ls w A n (ss.map Value.string)) (hs : ∀ z ∈ ss, z.size ≤ maxLen) (hto : tot ss ≤ 8192) (hnc : n ≤ c) (hc : c ≤ maxLen) :
    Calls Tryd.prog 9 #[.slice A n c, .int .i64 at0] w (Yes w) := by
  have hlen : ss.length = n := by simpa using hL.1
  obtain ⟨h8, h9, h10⟩ := short_all hto
  have hn : n ≤ 8192 := by omega
  have hsm := Lib.hid (fun z hz => by have := h8 z hz; omega : ∀ z ∈ ss, z.size ≤ 1048576)
  have H1 := Lib.hid hlen
  have HS := Lib.hid hs
  have HL := Lib.hid h10
  have H8 := Lib.hid h8
  obtain ⟨r, hr⟩ : ∃ r, bs (frms ss) = r := ⟨_, rfl⟩
  have hrs : r.size = (frms ss).length := by rw [← hr, bs_size]
  have hrl : r.data.toList = frms ss := by rw [← hr]; rfl
  have hr1 : r.size ≤ 114688 := by omega
  have HR := Lib.hid hr
  have HRS := Lib.hid hrs
  have HRL := Lib.hid hrl
  obtain ⟨k, hk, hkn⟩ := modk at0 r.size h1 h2 (by omega)
  clear hlen hs h8 h9 h10 hr hrs hrl
  go_enter Tryd.func9, Tryd.ntmps9
  go_wp2_with fail
  refine (fawake _ ht).mono ?_
  rintro e w1 ⟨rfl, hk1⟩
  have hL1 := hL.kp hk1 (by simp)
  have ht1 := ht.kp hk1
  go_wp2_with fail
  refine (many_any A n c ss _ hL1 HS.out hnc hc).mono ?_
  rintro e w1' ⟨bl, rfl, rfl, hbl⟩
  cases bl
  · clear hbl
    go_wp2_with (at_builtin; refine wpl_copy_str w1 rfl _ _ rfl A n c ss rfl rfl hL1 (by omega) ?_; intro v2 w2 hown2 hk2; obtain ⟨A2, c2, rfl, hL2, -, -, -⟩ := own_open hown2)
    refine (seal_to A2 n c2 ss r _ HR.out (ht1.kp hk2) hL2 hsm.out (by omega) (by have := HL.out; omega)).mono ?_
    rintro e w3 ⟨rfl, hk3⟩
    have hk13 := (hk1.trans hk2).trans hk3
    clear hL2 hown2 hk1 hk2 hk3 hL1 ht1
    go_wp2_with fail
    rw [hk]
    clear hk
    go_loopg [7, 8, 39] n (fun gk wv tv iv wr => ∃ (i to : Nat), n - i ≤ gk ∧ iv = .int .i64 i ∧ i ≤ n ∧ wv = .int .i64 i ∧ tv = .int .i64 to ∧ (frms (ss.take i)).length = to ∧ to ≤ k ∧ Kp [] w wr)
    case atStart => exact ⟨0, 0, by omega, rfl, by omega, rfl, rfl, rfl, by omega, hk13⟩
    case round =>
      clear hk13
      obtain ⟨i, to, hgk, rfl, hi, rfl, rfl, hto2, htk, hkp⟩ := hrel
      have HTO := Lib.hid hto2
      clear hto2
      have htr := ht.kp hkp
      by_cases hlt : i < n
      · obtain ⟨ad, z, rfl, hzk, hc⟩ := (hL.kp hkp (by simp)).str_at hlt
        have hzm := List.mem_of_getElem? hzk
        have hzs := hsm.out z hzm
        have hz8 := H8.out z hzm
        have hzl : z.data.toList.length = z.size := by simp
        obtain ⟨fr, hfr⟩ : ∃ fr, bs (frms [z]) = fr := ⟨_, rfl⟩
        have hone : frms [z] = frm z.data.toList := by simp [frms]
        have hfs : fr.size = (frm z.data.toList).length := by rw [← hfr, bs_size, hone]
        have hfl := frm_len (p := z.data.toList) (by omega)
        have hfs2 : fr.size ≤ 8300 := by omega
        have hft : (frms [z]).length ≤ 900000000 := by rw [hone]; omega
        have hnx : (frms (ss.take (i + 1))).length = to + fr.size := by rw [frms_succ hzk, List.length_append, HTO.out, hfs]
        have HFR := Lib.hid hfr
        have HFS := Lib.hid hfs
        have HFT := Lib.hid hft
        have HNX := Lib.hid hnx
        have HZK := Lib.hid hzk
        have hz1 := Lib.hid (fun y hy => by obtain rfl : y = z := by simpa using hy
                                            exact hzs : ∀ y ∈ [z], y.size ≤ 1048576)
        clear hfr hone hfs hfl hft hnx hzk hzm hzl
        go_wp2_with fail
        refine (seal_to (some ⟨wr.heap.size, 0, none⟩) 1 1 [z] fr _ HFR.out (htr.kp ((Kp.rfl_ _ _).alloc _)) (Ls.of_at (At.new wr 9 #[.string z])) hz1.out (by omega) HFT.out).mono ?_
        rintro e w4 ⟨rfl, hk4⟩
        have hk14 := (hkp.alloc _).trans hk4
        clear hkp hk4 htr
        by_cases hov : k < to + fr.size
        · have hovi : (k : Int) < (to : Int) + (fr.size : Int) := by omega
          have hw : Whole ss k i to := ⟨by have := H1.out; omega, HTO.out, htk, fun s h => by
            have := HZK.out
            rw [h] at this
            injection this with this
            subst this
            rw [← HFS.out]
            exact hov⟩
          have hsc := whole_scan hw hsm.out (by rw [← HRS.out]; exact hkn)
          obtain ⟨q, hq⟩ : ∃ q, r.extract 0 k = q := ⟨_, rfl⟩
          have hql : q.data.toList = (frms ss).take k := by rw [← hq, ex_front, HRL.out]; rfl
          have hqs : q.size ≤ 1000000000 := by
            have := congrArg List.length hql
            simp at this
            omega
          obtain ⟨ts, hts⟩ : ∃ ts, ss.take i = ts := ⟨_, rfl⟩
          have htl : ts.length = i := by rw [← hts, List.length_take]; have := H1.out; omega
          rw [← hql, hts] at hsc
          have HTS := Lib.hid hts
          have HTLN := Lib.hid htl
          clear hts htl
          have HSC := Lib.hid hsc
          have hki : (k : Int) ≤ (r.size : Int) := by omega
          have htr4 := ht.kp hk14
          have hL4 := hL.kp hk14 (by simp)
          clear hw hsc hql
          go_wp2_with fail
          refine (scan_any q _ htr4 hqs).mono ?_
          rintro e w5 ⟨v5, rfl, hown5, hk5⟩
          rw [HSC.out] at hown5 ⊢
          obtain ⟨A5, c5, rfl, hL5, -, -, -⟩ := own_open hown5
          have hT := (hL4.kp hk5 (by simp)).take (k := i) (by omega)
          rw [← List.map_take, HTS.out] at hT
          have hlt5 : ts.length ≤ 1099511627776 := by have := HTLN.out; omega
          have hii : (i : Int) ≤ (c : Int) := by omega
          have hc0 : ¬ c = 0 := by omega
          clear hown5 hL4
          go_wp2_with fail
          refine (same_yes A5 _ ts.length c5 i _ ts _ hL5 ?_ hlt5).mono ?_
          · first | exact hT | (rw [addr_add_zero]; exact hT)
          rintro e w6 ⟨rfl, hk6⟩
          go_wp2_with fail
          go_ret
          exact ⟨ret_bool (by simp), (hk14.trans hk5).trans hk6⟩
        · have hovi : ¬ (k : Int) < (to : Int) + (fr.size : Int) := by omega
          go_wp2_with fail
          go_roundg (n - (i + 1))
          case measure => omega
          case rel => exact ⟨i + 1, to + fr.size, by omega, by go_num, by omega, by go_num, by go_num, HNX.out, by omega, hk14⟩
      · obtain rfl : i = n := by omega
        have hw : Whole ss k i to := ⟨by have := H1.out; omega, HTO.out, htk, fun s h => by
          have := (List.getElem?_eq_some_iff.1 h).1
          have := H1.out
          omega⟩
        have hsc := whole_scan hw hsm.out (by rw [← HRS.out]; exact hkn)
        obtain ⟨q, hq⟩ : ∃ q, r.extract 0 k = q := ⟨_, rfl⟩
        have hql : q.data.toList = (frms ss).take k := by rw [← hq, ex_front, HRL.out]; rfl
        have hqs : q.size ≤ 1000000000 := by
          have := congrArg List.length hql
          simp at this
          omega
        rw [← hql] at hsc
        have hti : ss.take i = ss := List.take_of_length_le (by have := H1.out; omega)
        rw [hti] at hsc
        have HSC := Lib.hid hsc
        have hki : (k : Int) ≤ (r.size : Int) := by omega
        have hL4 := hL.kp hkp (by simp)
        clear hw hsc hql hti
        go_wp2_with fail
        refine (scan_any q _ htr hqs).mono ?_
        rintro e w5 ⟨v5, rfl, hown5, hk5⟩
        rw [HSC.out] at hown5 ⊢
        obtain ⟨A5, c5, rfl, hL5, -, -, -⟩ := own_open hown5
        have hT := hL4.kp hk5 (by simp)
        have hlt5 : ss.length ≤ 1099511627776 := by have := H1.out; omega
        have hii : (i : Int) ≤ (c : Int) := by omega
        clear hown5 hL4
        by_cases hc0 : c = 0
        · obtain rfl : i = 0 := by omega
          subst hc0
          go_wp2_with fail
          refine (same_yes A5 _ ss.length c5 0 _ ss _ hL5 hT hlt5).mono ?_
          rintro e w6 ⟨rfl, hk6⟩
          go_wp2_with fail
          go_ret
          exact ⟨ret_bool (by simp), (hkp.trans hk5).trans hk6⟩
        · cases A with
          | none =>
            go_wp2_with fail
            refine (same_yes A5 _ ss.length c5 i _ ss _ hL5 hT hlt5).mono ?_
            rintro e w6 ⟨rfl, hk6⟩
            go_wp2_with fail
            go_ret
            exact ⟨ret_bool (by simp), (hkp.trans hk5).trans hk6⟩
          | some ad =>
            have haz := addr_add_zero ad
            go_wp2_with fail
            refine (same_yes A5 _ ss.length c5 i _ ss _ hL5 ?_ hlt5).mono ?_
            · first | exact hT | (rw [addr_add_zero]; exact hT)
            rintro e w6 ⟨rfl, hk6⟩
            go_wp2_with fail
            go_ret
            exact ⟨ret_bool (by simp), (hkp.trans hk5).trans hk6⟩
  · go_wp2_with fail
    refine (fawake _ ht1).mono ?_
    rintro e w2 ⟨rfl, hk2⟩
    go_wp2_with fail
    go_ret
    exact ⟨rfl, hk1.trans hk2⟩
set_option maxHeartbeats 1000000 in
theorem fcuts_out (A : Option Addr) (n c : Nat) (ss : List ByteArray) (at0 : Int) (w : World) (ht : Tab w) (hL : Ls w A n (ss.map Value.string)) (hs : ∀ z ∈ ss, z.size ≤ maxLen) (hto : 8192 < tot ss) (hnc : n ≤ c) (hc : c ≤ maxLen) :
    Calls Tryd.prog 9 #[.slice A n c, .int .i64 at0] w (Yes w) := by
  have HS := Lib.hid hs
  clear hs
  go_enter Tryd.func9, Tryd.ntmps9
  go_wp2_with fail
  refine (fawake _ ht).mono ?_
  rintro e w1 ⟨rfl, hk1⟩
  have hL1 := hL.kp hk1 (by simp)
  have ht1 := ht.kp hk1
  go_wp2_with fail
  refine (many_any A n c ss _ hL1 HS.out hnc hc).mono ?_
  rintro e w1' ⟨bl, rfl, rfl, hbl⟩
  cases bl
  · have := hbl rfl
    omega
  · go_wp2_with fail
    refine (fawake _ ht1).mono ?_
    rintro e w2 ⟨rfl, hk2⟩
    go_wp2_with fail
    go_ret
    exact ⟨rfl, hk1.trans hk2⟩
theorem fcuts_walk (v0 v1 : Value) (w : World) (hl : LaidCrc w) (i0 : In w 22 v0) (i1 : In w 3 v1) : Calls Tryd.prog 9 #[v0, v1] w (Yes w) := by
  obtain ⟨A, n, c, zs, rfl, h1, h2, h3, h4⟩ := in_strs i0
  obtain ⟨a, rfl, wa⟩ := in_int Tryd.underlying3 i1
  have hb := bd_i64 wa
  by_cases h : tot zs ≤ 8192
  · exact fcuts_in A n c zs a w (tab_of hl) hb.1 hb.2 h3 h4 h h1 h2
  · exact fcuts_out A n c zs a w (tab_of hl) h3 h4 (by omega) h1 h2
end Go.Proofs.YthnfjkinliekoaaDoor
