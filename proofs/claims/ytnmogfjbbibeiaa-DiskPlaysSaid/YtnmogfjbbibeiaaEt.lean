/- Package disk: DiskPlays. -/
import Derived.Test.YtnmogfjbbibeiaaEs
namespace Go.Proofs.Ytnmogfjbbibeiaa
set_option maxRecDepth 100000
open Go.RowKit
set_option linter.unusedVariables false

/-- What any call answers: the drive that goes on. -/
def DidX (w : World) (N : Nat) (A : AD) (P : Nat → Prop) (o : DOp) (e : Ending) (w' : World) : Prop := ∃ d' r A', e = oneAns d' r ∧ A.Did o r A' ∧ Left w d' A' (N + 1) P w'
set_option maxHeartbeats 8000000 in
theorem did_all (o : DOp) (w : World) {d N : Nat} {A : AD} {P : Nat → Prop} (h : Drv w d A N P) (hok : DOpOK w o) (hdt : o.data.size ≤ 1099511627776) (hN : N < 100000) (hl : A.left ≤ 9223372036854775807) (hst : A.steps ≤ 1000000000) :
    Calls Try.prog 13 #[.pointer (some ⟨d, 0, none⟩), .agg #[.int .i64 o.kind, .string o.name, .string o.data, .int .i64 o.k, .slice o.A o.n o.c]] w (DidX w N A P o) := by
  by_cases h7 : o.kind = 7
  · have hk1 : Kp [] w (w.alloc (.cells #[.int .i64 o.kind, .string o.name, .string o.data, .int .i64 o.k, .slice o.A o.n o.c] 31)) := (Kp.rfl_ [] w).alloc _
    have h1 := h.kp hk1
    obtain ⟨kd, nm, dt, k, B, n, c, ks⟩ := o
    have h7 : kd = 7 := h7
    subst h7
    go_enter Try.func13, Try.ntmps13
    go_wp2_with fail
    refine (drv_copy h1 (by omega)).mono ?_
    rintro e w2 ⟨d', rfl, h2, k2⟩
    have hk2 := hk1.trans k2
    go_wp2_with fail
    go_ret2
    exact ⟨d', 0, A, rfl, .inr (.inr (.inr (.inr (.inr (.inr ⟨.inr (by show (6 : Int) < 7; omega), rfl, rfl⟩))))), h2.mono (by omega) (fun x hx _ => .inr (Nat.le_trans hk1.size hx)), ⟨[], hk2, by simp⟩⟩
  · exact (did_any o w h hok hdt h7 hN hl hst).mono fun e w' ⟨r, A', h1, h2, h3⟩ => ⟨d, r, A', h1, h2, h3⟩
def PlR (w wr : World) (g n : Nat) (gk : Nat) (s5 s : Value) : Prop :=
  ∃ (i d : Nat) (A : AD) (R : RS), n - i ≤ gk ∧ s5 = .pointer (some ⟨d, 0, none⟩) ∧ s = .int .i64 i ∧ i ≤ n ∧ Pair wr d g A R i (fun x => w.heap.size ≤ x) ∧ Kp [] w wr
set_option maxHeartbeats 8000000 in
theorem dplays_walk (v0 v1 : Value) (w : World) (i0 : InS w 22 v0) (i1 : InS w 9 v1) : Calls Try.prog 3 #[v0, v1] w (Yes w) := by
  obtain ⟨A0, n, c, os, rfl, hn, hc, hlen, hrow⟩ := in_dops i0
  obtain ⟨name, rfl, hname⟩ := in_string Try.underlying9 i1.in_
  have HLEN := Lib.hid hlen
  have hnm : n ≤ maxLen := Nat.le_trans hn hc
  clear i0 i1 hlen
  go_enter Try.func3, Try.ntmps3
  go_wp2_with fail
  refine (dawake_any w).mono ?_
  rintro e w1 ⟨rfl, hk1⟩
  go_wp2_with fail
  refine (dgreat_any A0 n c os w1 HLEN.out hnm (hrow.kp hk1)).mono ?_
  rintro e w2 ⟨⟨b, rfl, hb⟩, hk2⟩
  have hk2 := hk1.trans hk2
  cases b
  rotate_left
  · go_wp2_with fail
    refine (dawake_any w2).mono ?_
    rintro e w3 ⟨rfl, hk3⟩
    go_wp2_with fail
    go_ret
    exact ⟨rfl, hk2.trans hk3⟩
  obtain ⟨hn200, hfine⟩ := hb rfl
  have HF := Lib.hid hfine
  clear hb hfine hk1
  by_cases h200 : (200 : Int) < (name.size : Int)
  · go_wp2_with fail
    refine (dawake_any w2).mono ?_
    rintro e w3 ⟨rfl, hk3⟩
    go_wp2_with fail
    go_ret
    exact ⟨rfl, hk2.trans hk3⟩
  go_wp2_with fail
  refine (drv_new w2).mono ?_
  rintro e w4 ⟨d, rfl, h4, hk4⟩
  go_wp2_with fail
  refine (rdnew_any w4).mono ?_
  rintro e w5 ⟨g, rfl, h5, hk5⟩
  have hp : Pair w5 d g dw0 rs0 0 (fun x => w.heap.size ≤ x) := Pair.mk_ ((h4.mono (Q := fun x => w2.heap.size ≤ x ∧ x < w4.heap.size) (Nat.le_refl _) fun x a b => ⟨a, b⟩).kp hk5) h5 (fun x a b => by omega) (fun x a => Nat.le_trans hk2.size a.1) (fun x a => Nat.le_trans (hk2.trans hk4).size a) Rel.start (Nat.zero_le _) (Nat.le_refl _)
  have hk5 := (hk2.trans hk4).trans hk5
  clear hk2 hk4 h4 h5
  go_wp2_with fail
  go_loopg [5, 31] n (fun gk s5 s31 wr => PlR w wr g n gk s5 s31)
  case atStart => exact ⟨0, d, dw0, rs0, by omega, rfl, rfl, Nat.zero_le _, hp, hk5⟩
  case round =>
    obtain ⟨i, dd, A, R, hgk, rfl, rfl, hi, hP, hkr⟩ := hrel
    clear hp hk5
    by_cases hlt : i < n
    · obtain ⟨o, ho⟩ : ∃ o, os[i]? = some o := ⟨_, List.getElem?_eq_getElem (by have := HLEN.out; omega)⟩
      have hro := hrow.kp hkr
      obtain ⟨ad, p, rfl, hp, c0, c1, c2, c3, c4⟩ := hro.cells ho
      have hok := (hro i o ho).1
      have HOK0 := Lib.hid (hrow i o ho).1
      have hfo := HF.out o (List.mem_of_getElem? ho)
      have b2 : (i : Int) < (n : Int) := by omega
      have hkA : Kp [] wr (wr.alloc (.cells #[.int .i64 o.kind, .string o.name, .string o.data, .int .i64 o.k, .slice o.A o.n o.c] 31)) := (Kp.rfl_ [] wr).alloc _
      have hB : At (wr.alloc (.cells #[.int .i64 o.kind, .string o.name, .string o.data, .int .i64 o.k, .slice o.A o.n o.c] 31)) wr.heap.size 31 #[.int .i64 o.kind, .string o.name, .string o.data, .int .i64 o.k, .slice o.A o.n o.c] := At.new wr _ _
      have hPA := (hP.mono (G := fun x => w.heap.size ≤ x ∧ x < wr.heap.size) (Nat.le_refl _) fun x a b => ⟨a, b⟩).kp hkA
      have hokA := hok.kp hkA
      have hkwA := hkr.trans hkA
      clear ho hro hP
      obtain ⟨P, Q, hD, hRD, hPQ, hPb, hQb, hrl, hl, hst⟩ := hPA
      have HR := Lib.hid (did_all o _ hD hokA (by have := hfo.2.1; omega) (by omega) hl (by omega))
      have HW := Lib.hid (hrl.wr hD.within)
      have HLB := Lib.hid (hrl.left_bd hl)
      have HCT := Lib.hid (show R.fs.length ≤ 1000 ∧ R.count ≤ 1000000000 from ⟨by have := hrl.len; have := hrl.count; omega, by have := hrl.count; omega⟩)
      have HPQ := Lib.hid hPQ
      have HPB := Lib.hid hPb
      have HQB := Lib.hid hQb
      have HRL := Lib.hid hrl
      obtain ⟨gb, hgb⟩ : ∃ gb, wr.heap.size = gb := ⟨_, rfl⟩
      rw [hgb] at hB
      have HGB := Lib.hid hgb
      clear hPQ hPb hQb hrl hD
      obtain ⟨kd, nm, dt, k, B, q, cc, zs⟩ := o
      have hok2 : k ≤ 9223372036854775807 := hok.k.2
      have HOA := Lib.hid hokA
      go_wp2_with fail
      refine HR.out.mono ?_
      rintro e w6 ⟨d6, r, A', rfl, hdid, hl6⟩
      unfold oneAns
      have hB6 := hB.kx hl6.2 (fun hx => by have := (HPB.out _ hx).1.2; have := HGB.out; omega)
      have hRD6 := hRD.kx hl6.2 (fun x a b => HPQ.out x b a)
      have q0 := hB6.cell 0
      have q1 := hB6.cell 1
      have q2 := hB6.cell 2
      have q3 := hB6.cell 3
      have q4 := hB6.cell 4
      have hk6 : Kp [] w w6 := hl6.2.base hkwA fun x hx => (HPB.out x hx).1.1
      have hwt := want_any ⟨kd, nm, dt, k, B, q, cc, zs⟩ w6 hRD6 (HOK0.out.kp hk6) (by show dt.size ≤ _; have := hfo.2.1; have h : (DOp.mk kd nm dt k B q cc zs).data.size = dt.size := rfl; omega) HW.out HCT.out.1 HLB.out HCT.out.2
      have hdd := HRL.out.did hdid
      obtain ⟨xx, hxx⟩ : ∃ xx, wantR R ⟨kd, nm, dt, k, B, q, cc, zs⟩ = xx := ⟨_, rfl⟩
      rw [hxx] at hwt hdd
      clear hxx
      obtain ⟨x1, R1⟩ := xx
      obtain ⟨hre, hst1⟩ := hdd
      have hre : r = x1 := hre
      subst hre
      have hst1 : Rel A' R1 := hst1
      have HST := Lib.hid hst1
      have HWT := Lib.hid hwt
      clear hst1 hwt
      have HSM := Lib.hid (did_small hdid hl hok2)
      have HL6 := Lib.hid hl6
      clear hdid hl6 hB c0 c1 c2 c3 c4 hB6 hkA HR hRD6 hRD hokA hok
      go_wp2_with fail
      refine HWT.out.mono ?_
      rintro e w7 ⟨rfl, hl7⟩
      have hl7 : RLeft w6 g R1 Q w7 := hl7
      obtain ⟨hp7, kx7⟩ := pair_step HPQ.out HPB.out HQB.out HL6.out hl7 HST.out HSM.out.1 (by have := HSM.out.2; omega)
      have hk7 : Kp [] w w7 := kx7.base hkwA fun x hx => hx.1.1
      have hp7 := hp7.mono (G := fun x => w.heap.size ≤ x) (Nat.le_refl _) fun x hx _ => by
        have h9 := hkwA.size
        rcases hx with hx | hx
        · exact hx.1
        · exact Nat.le_trans h9 hx
      have hp70 := hp7
      obtain ⟨P1, Q1, hD7, hRD7, -, -, -, hrl7, hl70, hst7⟩ := hp7
      have HL7 := Lib.hid (show R1.fs.length ≤ 1000 from by have := hrl7.len; have := hrl7.count; omega)
      have HAK := Lib.hid (dalike_any w7 hD7 hRD7 hrl7 (by omega) HL7.out (by omega))
      have HW7 := Lib.hid (hrl7.wr hD7.within)
      clear hrl7 hl70 hst7 hl7 kx7 HWT
      go_wp2_with fail
      refine HAK.out.mono ?_
      rintro e w8 ⟨rfl, k8⟩
      have hp8 := hp70.kp k8
      have hD8 := hD7.kp k8
      have hRD8 := hRD7.kp k8
      have hk8 := hk7.trans k8
      clear hp70 hD7 hRD7 hk7 k8 HAK
      go_wp2_with fail
      refine (drv_names name hD8 (by omega)).mono ?_
      rintro e w9 ⟨v, L, rfl, hL, hLs, hLn, hLo, k9⟩
      obtain ⟨AL, cL, rfl, hLL, -, hcL, hmL⟩ := own_open hLo
      have hLN : L.length ≤ 1099511627776 := by omega
      have HNM := Lib.hid (HST.out.names hL)
      have hp9 := hp8.kp k9
      have hD9 := hD8.kp k9
      have hRD9 := hRD8.kp k9
      have hk9 := hk8.trans k9
      clear hp8 hD8 hRD8 hk8 k9 hLo hL hLs hLn
      go_wp2_with fail
      refine (rnames_any name hRD9 HL7.out).mono ?_
      rintro e w10 ⟨v', rfl, hLo', k10⟩
      rw [← HNM.out] at hLo'
      obtain ⟨AM, cM, rfl, hMM, -, hcM, hmM⟩ := own_open hLo'
      have hp10 := hp9.kp k10
      have hD10 := hD9.kp k10
      have hRD10 := hRD9.kp k10
      have hk10 := hk9.trans k10
      have hLL10 := hLL.kp k10 (by simp)
      clear hp9 hD9 hRD9 hk9 k10 hLo' hLL
      go_wp2_with fail
      refine (same_yes AL AM L.length cL L.length cM L w10 hLL10 hMM hLN).mono ?_
      rintro e w11 ⟨rfl, k11⟩
      have hp11 := hp10.kp k11
      have hD11 := hD10.kp k11
      have hRD11 := hRD10.kp k11
      have hk11 := hk10.trans k11
      clear hp10 hD10 hRD10 hk10 k11 hLL10 hMM
      obtain ⟨RR, hRR⟩ : ∃ RR, R1.read name = RR := ⟨_, rfl⟩
      obtain ⟨RH, hRH⟩ : ∃ RH, R1.has name = RH := ⟨_, rfl⟩
      have HRR := Lib.hid (show A'.read name = RR ∧ A'.has name = RH from ⟨(HST.out.read name).1.trans hRR, (HST.out.read name).2.trans hRH⟩)
      have HRQ := Lib.hid (show R1.read name = RR ∧ R1.has name = RH from ⟨hRR, hRH⟩)
      clear hRR hRH
      go_wp2_with fail
      refine (drv_read name hD11 hname).mono ?_
      rintro e w12 ⟨rfl, k12⟩
      have hp12 := hp11.kp k12
      have hRD12 := hRD11.kp k12
      have hk12 := hk11.trans k12
      rw [HRR.out.1, HRR.out.2]
      clear hp11 hD11 hRD11 hk11 k12
      go_wp2_with fail
      refine (rread_any name hRD12 HW7.out HL7.out).mono ?_
      rintro e w13 ⟨rfl, k13⟩
      have hp13 := hp12.kp k13
      have hk13 := hk12.trans k13
      rw [HRQ.out.1, HRQ.out.2]
      clear hp12 hRD12 hk12 k13
      cases RH
      all_goals
        go_wp2_with fail
        go_roundg (n - (i + 1))
        case measure => omega
        case rel => exact ⟨i + 1, d6, A', R1, by omega, rfl, by go_num, by omega, hp13, hk13⟩
    · obtain rfl : i = n := by omega
      go_wp2_with fail
      go_ret
      exact ⟨rfl, hkr⟩
end Go.Proofs.Ytnmogfjbbibeiaa
