/- A call of the document's drive, as it is played; are two drives alike? -/
import Derived.Test.YtnmogfjbbibeiaaEq
namespace Go.Proofs.Ytnmogfjbbibeiaa
set_option maxRecDepth 100000
open Go.RowKit
set_option linter.unusedVariables false

theorem RLeft.of_alloc {w w' : World} {o : Obj} {g : Nat} {R : RS} {P : Nat → Prop} (h : RLeft (w.alloc o) g R P w') : RLeft w g R P w' := h.before ((Kp.rfl_ [] w).alloc _)
set_option maxHeartbeats 8000000 in
theorem want_any (o : DOp) (w : World) {g : Nat} {R : RS} {P : Nat → Prop} (h : RDrv w g R P) (hok : DOpOK w o) (hdt : o.data.size ≤ 1099511627776) (hW : WR R.fs) (hn : R.fs.length ≤ 1000) (hl : -1 ≤ R.left ∧ R.left ≤ 9223372036854775807) (hc : R.count ≤ 1000000000) :
    Calls Try.prog 14 #[.pointer (some ⟨g, 0, none⟩), .agg #[.int .i64 o.kind, .string o.name, .string o.data, .int .i64 o.k, .slice o.A o.n o.c]] w (RAns w g P (wantR R o)) := by
  have hk1 : Kp [] w (w.alloc (.cells #[.int .i64 o.kind, .string o.name, .string o.data, .int .i64 o.k, .slice o.A o.n o.c] 31)) := (Kp.rfl_ [] w).alloc _
  have hok1 := hok.kp hk1
  have h1 := h.kp hk1
  obtain ⟨rr, hrr⟩ : ∃ rr, wantR R o = rr := ⟨_, rfl⟩
  have HRR := Lib.hid hrr
  rw [hrr]
  clear hrr
  unfold wantR at HRR
  obtain ⟨kd, nm, dt, k, B, n, c, ks⟩ := o
  have hnm : nm.size ≤ maxLen := hok.name
  have hkb : -9223372036854775808 ≤ k ∧ k ≤ 9223372036854775807 := hok.k
  have hdt : dt.size ≤ 1099511627776 := hdt
  by_cases e1 : kd = 1
  · subst e1
    have HR : Hid (R.append nm dt = rr) := Lib.hid (by rw [← HRR.out]; rfl)
    clear HRR
    go_enter Try.func14, Try.ntmps14
    go_wp2_with fail
    refine (rappend_any nm dt h1 hnm hdt hW hn hl (by omega)).mono ?_
    rintro e w2 ⟨rfl, hl2⟩
    rw [HR.out] at hl2 ⊢
    go_wp2_with fail
    go_ret
    exact ⟨rfl, hl2.of_alloc⟩
  by_cases e2 : kd = 2
  · subst e2
    have HR : Hid (R.sync nm = rr) := Lib.hid (by rw [← HRR.out]; rfl)
    clear HRR
    go_enter Try.func14, Try.ntmps14
    go_wp2_with fail
    refine (rsync_any nm h1 hnm hW hn hl (by omega)).mono ?_
    rintro e w2 ⟨rfl, hl2⟩
    rw [HR.out] at hl2 ⊢
    go_wp2_with fail
    go_ret
    exact ⟨rfl, hl2.of_alloc⟩
  by_cases e3 : kd = 3
  · subst e3
    have HR : Hid (R.remove nm = rr) := Lib.hid (by rw [← HRR.out]; rfl)
    clear HRR
    go_enter Try.func14, Try.ntmps14
    go_wp2_with fail
    refine (rremove_any nm h1 hnm hW hn hl (by omega)).mono ?_
    rintro e w2 ⟨rfl, hl2⟩
    rw [HR.out] at hl2 ⊢
    go_wp2_with fail
    go_ret
    exact ⟨rfl, hl2.of_alloc⟩
  by_cases e4 : kd = 4
  · subst e4
    have HR : Hid ((0, R.fuse k) = rr) := Lib.hid (by rw [← HRR.out]; rfl)
    clear HRR
    go_enter Try.func14, Try.ntmps14
    go_wp2_with fail
    refine (rfuse_any k h1).mono ?_
    rintro e w2 ⟨rfl, hl2⟩
    go_wp2_with fail
    go_ret
    exact ⟨by rw [← HR.out]; rfl, by rw [← HR.out]; exact hl2.of_alloc⟩
  by_cases e5 : kd = 5
  · subst e5
    have HR : Hid ((0, R.crash ks) = rr) := Lib.hid (by rw [← HRR.out]; rfl)
    clear HRR
    have hnc : n ≤ c := hok1.n
    have hcm : c ≤ maxLen := hok1.c
    go_enter Try.func14, Try.ntmps14
    go_wp2_with fail
    refine (rcrash_any B n c ks h1 hW hn hok1.ls (Nat.le_trans hnc hcm)).mono ?_
    rintro e w2 ⟨rfl, hl2⟩
    go_wp2_with fail
    go_ret
    exact ⟨by rw [← HR.out]; rfl, by rw [← HR.out]; exact hl2.of_alloc⟩
  by_cases e6 : kd = 6
  · subst e6
    have HR : Hid (R.flip nm k = rr) := Lib.hid (by rw [← HRR.out]; rfl)
    clear HRR
    go_enter Try.func14, Try.ntmps14
    go_wp2_with fail
    refine (rflip_any nm k h1 hW hn hkb.1 hkb.2).mono ?_
    rintro e w2 ⟨rfl, hl2⟩
    rw [HR.out] at hl2 ⊢
    go_wp2_with fail
    go_ret
    exact ⟨rfl, hl2.of_alloc⟩
  have HR : Hid ((0, R) = rr) := Lib.hid (by rw [← HRR.out, if_neg e1, if_neg e2, if_neg e3, if_neg e4, if_neg e5, if_neg e6])
  clear HRR
  have e1 : (kd == 1) = false := by simpa using e1
  have e2 : (kd == 2) = false := by simpa using e2
  have e3 : (kd == 3) = false := by simpa using e3
  have e4 : (kd == 4) = false := by simpa using e4
  have e5 : (kd == 5) = false := by simpa using e5
  have e6 : (kd == 6) = false := by simpa using e6
  go_enter Try.func14, Try.ntmps14
  go_wp2_with fail
  go_ret
  exact ⟨by rw [← HR.out]; rfl, by rw [← HR.out]; exact (rleft_same h1).of_alloc⟩
theorem Drv.drew {w : World} {d N : Nat} {A : AD} {P : Nat → Prop} (h : Drv w d A N P) : Drv w.drew d A N P := h.kp ((Kp.rfl_ [] w).drew)
theorem RDrv.drew {w : World} {g : Nat} {R : RS} {P : Nat → Prop} (h : RDrv w g R P) : RDrv w.drew g R P := h.kp ((Kp.rfl_ [] w).drew)
theorem Ls.drew {w : World} {B : Option Addr} {n : Nat} {l : List Value} (h : Ls w B n l) : Ls w.drew B n l := h.kp ((Kp.rfl_ [] w).drew) (by simp)
theorem FSt.drew {w : World} {g : Nat} {v : Value} {fs : List DF} {left : Int} {off : Bool} {count : Nat} (h : FSt w g v fs left off count) : FSt w.drew g v fs left off count := h.kp ((Kp.rfl_ [] w).drew) (by simp) (by simp)
theorem yes_ret {w : World} (e : Ending) (w' : World) (h : Yes w e w') : ∃ v, e = .returned v := ⟨_, h.1⟩
set_option maxHeartbeats 8000000 in
theorem dalike_any (w : World) {d N g : Nat} {A : AD} {R : RS} {P Q : Nat → Prop} (h : Drv w d A N P) (hr : RDrv w g R Q) (hR : Rel A R) (hN : N < 100000) (hn : R.fs.length ≤ 1000) (hs : A.steps ≤ 1000000000) :
    Calls Try.prog 15 #[.pointer (some ⟨d, 0, none⟩), .pointer (some ⟨g, 0, none⟩)] w (Yes w) := by
  have hW := hR.wr h.within
  obtain ⟨vr, hvr⟩ := hr
  have hr : RDrv w g R Q := ⟨vr, hvr⟩
  obtain ⟨hst, -, -⟩ := hvr
  have ho2 := hR.off
  have hc2 := hR.count
  have HREL := Lib.hid hR
  clear hR
  go_enter Try.func15, Try.ntmps15
  go_wp2_with fail
  refine (drv_names ⟨#[]⟩ h (by omega)).mono ?_
  rintro e w2 ⟨v, L, rfl, hL, hLs, hLn, hLo, k2⟩
  have h2 := h.kp k2
  have hr2 := hr.kp k2
  have hst2 := hst.kp k2 (by simp) (by simp)
  obtain ⟨AL, cL, rfl, hLL, -, hcL, hmL⟩ := own_open hLo
  have HSZ := Lib.hid hLs
  have HNM := Lib.hid hL
  clear hLs hLo hL
  obtain ⟨dn, hdn⟩ : ∃ dn, A.down = dn := ⟨_, rfl⟩
  have HDN := Lib.hid hdn
  have HALL : Hid (∀ s ∈ L, A.has s = true) := Lib.hid fun s hs => by
    rcases HNM.out with ⟨h1, h2⟩ | ⟨h1, h2⟩
    · rw [h2] at hs; cases hs
    · unfold AD.has
      rw [h1, ((h2.2 s).1 hs).1]
      rfl
  have HLN := Lib.hid hLn
  clear hLn
  have c2 := hst2.blk.cell 2
  have c3 := hst2.blk.cell 3
  rw [ho2, hdn] at c2
  rw [hc2] at c3
  clear hdn hst
  have hst2 := Lib.hid hst2
  cases dn
  all_goals
    go_upto_region 2 with fail
    refine region_plan [.row [0, 1], .kept 2, .kept 3, .row [4, 5, 6, 8, 9, 10, 11], .kept 7, .row [12, 13, 14, 15, 17, 18, 19, 20], .kept 16, .row [21, 22]] (by kernel_rfl) (by kernel_rfl) (calm_of (fun _ _ _ h => h.2) (fun _ _ h => h) yes_ret) ?_
    simp only [wpPlan, pickL, List.filterMap_cons, List.filterMap_nil, List.getElem?_cons_zero, List.getElem?_cons_succ]
    go_wp2_with fail
    refine (rnames_any ⟨#[]⟩ hr2.drew hn).mono ?_
    rintro e w3 ⟨v', rfl, hLo', k3⟩
    have h3 := h2.drew.kp k3
    have hr3 := hr2.drew.kp k3
    have hst3 := hst2.out.drew.kp k3 (by simp) (by simp)
    have k23 := k2.drew.trans k3
    have hLL3 := hLL.drew.kp k3 (by simp)
    rw [← HREL.out.names HNM.out] at hLo'
    obtain ⟨AM, cM, rfl, hMM, -, hcM, hmM⟩ := own_open hLo'
    clear hLo' hLL h2 hr2 hst2
    go_wp2_with fail
    refine ⟨⟨k3.size, fun i hi _ => k3.block i hi (by simp)⟩, ?_⟩
    go_wp2_with fail
    refine (same_yes AL AM L.length cL L.length cM L w3 hLL3 hMM (by have := HLN.out; omega)).mono ?_
    rintro e w4 ⟨rfl, k4⟩
    have h4 := h3.kp k4
    have hr4 := hr3.kp k4
    have hst4 := hst3.kp k4 (by simp) (by simp)
    have k24 := k23.trans k4
    have hLL4 := hLL3.kp k4 (by simp)
    have c42 := (hst4.blk.cell 2)
    have c43 := (hst4.blk.cell 3)
    rw [ho2, HDN.out] at c42
    rw [hc2] at c43
    clear hMM hLL3 h3 hr3 hst3 k3 k23
    go_wp2_with fail
    refine ⟨⟨k4.size, fun i hi _ => k4.block i hi (by simp)⟩, ?_⟩
    go_wp2_with fail
    refine (drv_down h4).mono ?_
    rintro e w5 ⟨rfl, rfl⟩
    rw [HDN.out]
    go_wp2_with fail
    refine ⟨KeptT.rfl_ _ _, ?_⟩
    go_wp2_with fail
    refine (drv_steps h4).mono ?_
    rintro e w5 ⟨rfl, rfl⟩
    go_wp2_with fail
    refine ⟨KeptT.rfl_ _ _, ?_⟩
    go_wp2_with fail
    refine sqQ_end (by rfl) ?_
    go_wp2_with fail
    go_loopg [39] L.length (fun gk s39 wr => ∃ i : Nat, L.length - i ≤ gk ∧ s39 = .int .i64 i ∧ i ≤ L.length ∧ Kp [] w4 wr)
    case atStart => exact ⟨0, by omega, rfl, Nat.zero_le _, Kp.rfl_ _ _⟩
    case round =>
      obtain ⟨j, hgj, rfl, hj, hkq⟩ := hrel
      have hdq := h4.kp hkq
      have hq := hr4.kp hkq
      by_cases hlj : j < L.length
      · have b3 : (j : Int) < (L.length : Int) := by omega
        have hjb : j < 100000 := by have := HLN.out; omega
        obtain ⟨aL, s, rfl, hs, hcs⟩ := (hLL4.kp hkq (by simp)).str_at hlj
        have hss : s.size ≤ maxLen := HSZ.out s (List.mem_of_getElem? hs)
        have hhas := HALL.out s (List.mem_of_getElem? hs)
        obtain ⟨hrd, hrh⟩ := HREL.out.read s
        have HRH : Hid (R.has s = true) := Lib.hid (hrh.symm.trans hhas)
        have HRD := Lib.hid hrd
        clear hs hrh hrd
        go_wp2_with fail
        refine (drv_read s hdq hss).mono ?_
        rintro e w12 ⟨rfl, k12⟩
        have hq12 := hq.kp k12
        rw [hhas, HRD.out]
        obtain ⟨RR, hRR⟩ : ∃ RR, R.read s = RR := ⟨_, rfl⟩
        have HRR := Lib.hid hRR
        rw [hRR]
        clear hRR
        go_wp2_with fail
        refine (rread_any s hq12 hW hn).mono ?_
        rintro e w13 ⟨rfl, k13⟩
        rw [HRR.out, HRH.out]
        have hkq2 := (hkq.trans k12).trans k13
        go_wp2_with fail
        go_roundg (L.length - (j + 1))
        case measure => omega
        case rel => exact ⟨j + 1, by omega, by go_num, by omega, hkq2⟩
      · obtain rfl : j = L.length := by omega
        go_wp2_with fail
        go_ret
        exact ⟨rfl, k24.trans hkq⟩
end Go.Proofs.Ytnmogfjbbibeiaa
