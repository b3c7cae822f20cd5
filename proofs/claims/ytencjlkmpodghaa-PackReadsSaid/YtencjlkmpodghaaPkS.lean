/- PackReads. -/
import Derived.Test.YtencjlkmpodghaaPkX
import Derived.Deep.RegionHeld3
import Derived.Deep.CutRange
import Derived.Deep.CutBlock
namespace Go.Proofs.Ytencjlkmpodghaa
set_option maxRecDepth 100000
open Go.RowKit
set_option linter.unusedVariables false

theorem Both.kp {w w' : World} {g h : Nat} {s : ByteArray} (hb : Both w g h s) (hk : Kp [] w w') : Both w' g h s := by
  obtain ⟨k, sp, h1, h2⟩ := hb
  exact ⟨k, sp, h1.kp hk (by simp), h2.kp hk (by simp)⟩
set_option maxRecDepth 100000 in
set_option maxHeartbeats 4000000 in
theorem preads_in (s : ByteArray) (A : Option Addr) (n c : Nat) (zs : List Int) (w : World) (hs : s.size ≤ 4096) (hL : Ls w A n (zs.map (Value.int .u8))) (hwf : ∀ z ∈ zs, (Lit.int .u8 z).wf = true) (hn : n ≤ 4096) :
    Calls Try.prog 5 #[.string s, .slice A n c] w (Yes w) := by
  have hzl : zs.length = n := by simpa using hL.1
  have HZ := Lib.hid hzl
  clear hzl
  go_enter Try.func5, Try.ntmps5
  go_wp2_with fail
  refine (pawake _).mono ?_
  rintro e w1 ⟨rfl, hk1⟩
  go_wp2_with fail
  refine (read_any _ _).mono ?_
  rintro e w2 ⟨rfl, hr2, hk2⟩
  go_wp2_with fail
  have hh2 : Rrd (w2.alloc (.cells #[.string s, .int .i64 0, .bool false] 36)) w2.heap.size s 0 false := At.new _ _ _
  have hr3 : Rdr (w2.alloc (.cells #[.string s, .int .i64 0, .bool false] 36)) w1.heap.size s false := At.alloc hr2 _
  have hgs := hr2.cells.2.2.2.2
  have hk3 := (hk1.trans hk2).alloc (.cells #[.string s, .int .i64 0, .bool false] 36)
  obtain ⟨g, hg⟩ : ∃ g, w1.heap.size = g := ⟨_, rfl⟩
  obtain ⟨h, hh⟩ : ∃ h, w2.heap.size = h := ⟨_, rfl⟩
  have hgw : w.heap.size ≤ g := by have := hk1.size; omega
  have hghw : g < h := by omega
  rw [hg] at hr3 ⊢
  rw [hh] at hh2 ⊢
  have hB : Both _ g h s := ⟨0, false, ⟨s, hr3, fun _ => ⟨by rw [List.drop_zero, bs_of], Nat.zero_le _⟩⟩, ⟨0, hh2, fun _ => rfl⟩⟩
  clear hr2 hk1 hk2 hgs hr3 hh2
  go_wp2_with fail
  go_loopg [29] n (fun gk i wr => ∃ j : Nat, n - j ≤ gk ∧ i = .int .i64 j ∧ j ≤ n ∧ Both wr g h s ∧ Kp [] w wr)
  case atStart => exact ⟨0, by omega, rfl, Nat.zero_le _, hB, hk3⟩
  case round =>
    clear hB hk3
    obtain ⟨j, hgj, rfl, hj, hB, hkp⟩ := hrel
    by_cases hlt : j < n
    · obtain ⟨ad, u, rfl, _, hu, hc⟩ := (hL.kp hkp (by simp)).at_ hlt
      have hl : j < zs.length := by have := HZ.out; omega
      rw [List.getElem?_map, List.getElem?_eq_getElem hl] at hu
      obtain ⟨z, hz⟩ : ∃ z, zs[j] = z := ⟨_, rfl⟩
      rw [hz] at hu
      obtain rfl : Value.int .u8 z = u := by simpa using hu
      have hzw := hwf z (by rw [← hz]; exact List.getElem_mem hl)
      have hbd : 0 ≤ z ∧ z ≤ 255 := by have := bounds_u8 hzw; omega
      clear hu hz hl hzw
      go_upto_block 2 with fail
      go_cut [29] from 29 to 103 (fun s29 wc => s29 = .int .i64 j ∧ Both wc g h s ∧ Kp [] w wc)
      case first =>
        clear hc
        obtain ⟨k, sp, hr, hh⟩ := hB
        have h8 : z % 8 = 0 ∨ z % 8 = 4 ∨ z % 8 = 5 ∨ z % 8 = 1 ∨ z % 8 = 6 ∨ z % 8 = 2 ∨ z % 8 = 7 ∨ (z % 8 = 3 ∧ (z == 3) = true) ∨ (z % 8 = 3 ∧ (z == 3) = false) := by
          by_cases h3 : z = 3
          · subst h3; simp
          · have : (z == 3) = false := by rw [beq_eq_false_iff_ne]; exact h3
            rw [this]; simp; omega
        rcases h8 with h8 | h8 | h8 | h8 | h8 | h8 | h8 | ⟨h8, h3⟩ | ⟨h8, h3⟩
        iterate 3
          next =>
            obtain ⟨v, k2, sp2, ho⟩ : ∃ v k2 sp2, outNum s k sp = (v, k2, sp2) := ⟨_, _, _, rfl⟩
            have HO := Lib.hid ho
            have hle := Lib.hid hr.le
            clear ho
            go_wp2_with fail
            refine (num_o g s k sp v k2 sp2 _ HO.out hr hs).mono ?_
            rintro e w5 ⟨rfl, hr5, hk5⟩
            have hh5 := hh.kp hk5 (by simp; omega)
            have hkp5 := hkp.then hk5 (by simp; omega)
            clear hr hh hk5 hkp
            go_wp2_with fail
            refine (rnum_o h s k sp v k2 sp2 _ HO.out hh5 hle.out hs).mono ?_
            rintro e w6 ⟨rfl, hh6, hk6⟩
            have hr6 := hr5.kp hk6 (by simp; omega)
            have hkp6 := hkp5.then hk6 (by simp; omega)
            clear hr5 hh5 hk6 hkp5 HO hle
            go_wp2_with fail
            go_meet
            exact ⟨rfl, ⟨k2, sp2, hr6, hh6⟩, hkp6⟩
        iterate 2
          next =>
            obtain ⟨v, k2, sp2, ho⟩ : ∃ v k2 sp2, outText s k sp = (v, k2, sp2) := ⟨_, _, _, rfl⟩
            have HO := Lib.hid ho
            have hle := Lib.hid hr.le
            clear ho
            go_wp2_with fail
            refine (text_o g s k sp v k2 sp2 _ HO.out hr hs).mono ?_
            rintro e w5 ⟨rfl, hr5, hk5⟩
            have hh5 := hh.kp hk5 (by simp; omega)
            have hkp5 := hkp.then hk5 (by simp; omega)
            clear hr hh hk5 hkp
            go_wp2_with fail
            refine (rtext_o h s k sp v k2 sp2 _ HO.out hh5 hle.out hs).mono ?_
            rintro e w6 ⟨rfl, hh6, hk6⟩
            have hr6 := hr5.kp hk6 (by simp; omega)
            have hkp6 := hkp5.then hk6 (by simp; omega)
            clear hr5 hh5 hk6 hkp5 HO hle
            go_wp2_with fail
            go_meet
            exact ⟨rfl, ⟨k2, sp2, hr6, hh6⟩, hkp6⟩
        iterate 2
          next =>
            obtain ⟨v, k2, sp2, ho⟩ : ∃ v k2 sp2, outCount s k sp = (v, k2, sp2) := ⟨_, _, _, rfl⟩
            have HO := Lib.hid ho
            have hle := Lib.hid hr.le
            clear ho
            go_wp2_with fail
            refine (count_o g s k sp v k2 sp2 _ HO.out hr hs).mono ?_
            rintro e w5 ⟨rfl, hr5, hk5⟩
            have hh5 := hh.kp hk5 (by simp; omega)
            have hkp5 := hkp.then hk5 (by simp; omega)
            clear hr hh hk5 hkp
            go_wp2_with fail
            refine (rcount_o h s k sp v k2 sp2 _ HO.out hh5 hle.out hs).mono ?_
            rintro e w6 ⟨rfl, hh6, hk6⟩
            have hr6 := hr5.kp hk6 (by simp; omega)
            have hkp6 := hkp5.then hk6 (by simp; omega)
            clear hr5 hh5 hk6 hkp5 HO hle
            go_wp2_with fail
            go_meet
            exact ⟨rfl, ⟨k2, sp2, hr6, hh6⟩, hkp6⟩
        · obtain ⟨r, hr, -⟩ := hr
          obtain ⟨k', hh, -⟩ := hh
          go_wp2_with fail
          refine (spoil_any g r sp _ hr).mono ?_
          rintro e w5 ⟨rfl, hr5, hk5⟩
          have hh5 : Rrd w5 h s k' sp := At.kp hh hk5 (by simp; omega)
          have hkp5 := hkp.then hk5 (by simp; omega)
          clear hr hh hk5 hkp
          obtain ⟨c0, c1, c2, f1, f2, hhl⟩ := hh5.cells
          go_wp2_with fail
          go_meet
          exact ⟨rfl, ⟨0, true, .spoilt _ (At.far hr5 (by simp; omega) _), .spoilt _ hh5.spoil⟩, hkp5.set (by simp; omega) _⟩
        · go_wp2_with fail
          go_meet
          exact ⟨rfl, ⟨k, sp, hr, hh⟩, hkp⟩
      case rest =>
        obtain ⟨rfl, hB, hkp⟩ := hcut
        have HB := Lib.hid hB
        obtain ⟨k, sp, ⟨r, hr, hr2⟩, ⟨k', hh, hk2⟩⟩ := hB
        have HR := Lib.hid hr
        have HH := Lib.hid hh
        obtain ⟨c0, c1, c2, -, -, -⟩ := hh.cells
        have hkx : Kp [] wc wc := Kp.rfl_ _ _
        clear hc
        cases sp
        · obtain ⟨hr3, hk3⟩ := hr2 rfl
          have hk4 := hk2 rfl
          have hrs : (r.size : Int) = (s.size : Int) - (k' : Int) := by rw [hr3, bs_size, hk4]; simp; omega
          obtain ⟨d, hd⟩ : ∃ d, (!false && r.size == 0) = d := ⟨_, rfl⟩
          have hd2 : (!false && k' == s.size) = d := by
            rw [← hd, Bool.not_false, Bool.true_and, Bool.true_and, Bool.eq_iff_iff, beq_iff_eq, beq_iff_eq]
            omega
          have hks : k' ≤ s.size := by omega
          have HQ := Lib.hid hrs
          have HD1 := Lib.hid hd
          have HD2 := Lib.hid hd2
          have hw1 : IntKind.i64.wrap ((s.size : Int) - (k' : Int)) = (s.size : Int) - (k' : Int) := IntWalk.i64_in _ (by omega)
          clear hr3 hk3 hk4 hrs hd hd2 hr2 hk2 hr hh
          go_wp2_with fail
          go_quiet (first
            | (go_at_call 29; exact good_q g r false true _ _ rfl HR.out)
            | (go_at_call 30; exact done_q g r false d _ _ HD1.out HR.out)
            | (go_at_call 31; exact rdone_q h s k' false d _ _ HD2.out HH.out)
            | (go_at_call 32; exact left_q g r false ((s.size : Int) - (k' : Int)) _ _ HQ.out HR.out))
          all_goals
            go_wp2_with fail
            go_roundg (n - (j + 1))
            case measure => omega
            case rel => exact ⟨j + 1, by omega, by go_num, by omega, HB.out.kp (hkx.drewN _), hkp.trans (hkx.drewN _)⟩
        · have HD1 : Hid ((!true && r.size == 0) = false) := Lib.hid rfl
          have HD2 : Hid ((!true && k' == s.size) = false) := Lib.hid rfl
          clear hr2 hk2 hr hh
          go_wp2_with fail
          go_quiet (first
            | (go_at_call 29; exact good_q g r true false _ _ rfl HR.out)
            | (go_at_call 30; exact done_q g r true false _ _ HD1.out HR.out)
            | (go_at_call 31; exact rdone_q h s k' true false _ _ HD2.out HH.out))
          all_goals
            go_wp2_with fail
            go_roundg (n - (j + 1))
            case measure => omega
            case rel => exact ⟨j + 1, by omega, by go_num, by omega, HB.out.kp (hkx.drewN _), hkp.trans (hkx.drewN _)⟩
    · go_wp2_with fail
      go_ret
      exact ⟨rfl, hkp⟩
set_option maxHeartbeats 1000000 in
theorem preads_out (s : ByteArray) (A : Option Addr) (n c : Nat) (w : World) (hs : s.size ≤ maxLen) (h : 4096 < s.size ∨ 4096 < n) :
    Calls Try.prog 5 #[.string s, .slice A n c] w (Yes w) := by
  have hc : 4096 < s.size ∨ (¬ 4096 < s.size ∧ 4096 < n) := by omega
  clear h
  rcases hc with hc | ⟨hc, hc2⟩
  all_goals
    go_enter Try.func5, Try.ntmps5
    go_wp2_with fail
    refine (pawake _).mono ?_
    rintro e w1 ⟨rfl, hk1⟩
    go_wp2_with fail
    refine (pawake _).mono ?_
    rintro e w2 ⟨rfl, hk2⟩
    go_wp2_with fail
    go_ret
    exact ⟨rfl, hk1.trans hk2⟩
theorem preads_walk (v0 v1 : Value) (w : World) (i0 : In w 9 v0) (i1 : In w 31 v1) : Calls Try.prog 5 #[v0, v1] w (Yes w) := by
  obtain ⟨s, rfl, hs⟩ := in_string Try.underlying9 i0
  obtain ⟨A, n, c, xs, rfl, h1, h2, h3, h4, -, -⟩ := rd_slice Try.underlying31 (by kernel_rfl) (in_rd_slice Try.underlying31 i1)
  obtain ⟨zs, rfl, hz⟩ := ints_of fun u hu => rd_int Try.underlying5 (h4 u hu)
  by_cases h : 4096 < s.size ∨ 4096 < n
  · exact preads_out s A n c w hs h
  · exact preads_in s A n c zs w (by omega) h3 hz (by omega)
end Go.Proofs.Ytencjlkmpodghaa
