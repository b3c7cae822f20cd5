/- Package disk: DiskApart. -/
import Derived.Test.YtnmogfjbbibeiaaEr
namespace Go.Proofs.Ytnmogfjbbibeiaa
set_option maxRecDepth 100000
open Go.RowKit
set_option linter.unusedVariables false

theorem KX.weak {P Q : Nat → Prop} {w w' : World} (h : KX P w w') (hP : ∀ x, P x → Q x) : KX Q w w' := by
  obtain ⟨S, k, hs⟩ := h
  exact ⟨S, k, fun x hx => hP x (hs x hx)⟩
/-- A drive and the document's, side by side, and nothing of the one is the other's. -/
def Pair (w : World) (d g : Nat) (A : AD) (R : RS) (N : Nat) (F : Nat → Prop) : Prop :=
  ∃ P Q, Drv w d A N P ∧ RDrv w g R Q ∧ (∀ x, P x → ¬ Q x) ∧ (∀ x, P x → F x ∧ x < w.heap.size) ∧ (∀ x, Q x → F x ∧ x < w.heap.size) ∧ Rel A R ∧ A.left ≤ 9223372036854775807 ∧ A.steps ≤ N
theorem Pair.mk_ {w : World} {d g : Nat} {A : AD} {R : RS} {N : Nat} {P Q F : Nat → Prop} (h1 : Drv w d A N P) (h2 : RDrv w g R Q) (h3 : ∀ x, P x → ¬ Q x) (h4 : ∀ x, P x → F x) (h5 : ∀ x, Q x → F x) (h6 : Rel A R) (h7 : A.left ≤ 9223372036854775807) (h8 : A.steps ≤ N) : Pair w d g A R N F :=
  ⟨fun x => P x ∧ x < w.heap.size, fun x => Q x ∧ x < w.heap.size, h1.mono (Nat.le_refl _) fun x a b => ⟨a, b⟩, h2.mono fun x a b => ⟨a, b⟩, fun x a b => h3 x a.1 b.1, fun x a => ⟨h4 x a.1, a.2⟩, fun x a => ⟨h5 x a.1, a.2⟩, h6, h7, h8⟩
theorem Pair.mono {w : World} {d g : Nat} {A : AD} {R : RS} {N N' : Nat} {F G : Nat → Prop} (h : Pair w d g A R N F) (hN : N ≤ N') (hF : ∀ x, F x → x < w.heap.size → G x) : Pair w d g A R N' G := by
  obtain ⟨P, Q, h1, h2, h3, h4, h5, h6, h7, h8⟩ := h
  exact ⟨P, Q, h1.mono hN fun x a _ => a, h2, h3, fun x a => ⟨hF x (h4 x a).1 (h4 x a).2, (h4 x a).2⟩, fun x a => ⟨hF x (h5 x a).1 (h5 x a).2, (h5 x a).2⟩, h6, h7, Nat.le_trans h8 hN⟩
theorem Pair.kx {w w' : World} {d g : Nat} {A : AD} {R : RS} {N : Nat} {F G : Nat → Prop} (h : Pair w d g A R N F) (k : KX G w w') (hd : ∀ x, F x → x < w.heap.size → ¬ G x) : Pair w' d g A R N F := by
  obtain ⟨P, Q, h1, h2, h3, h4, h5, h6, h7, h8⟩ := h
  have hs := k.size
  exact ⟨P, Q, h1.kx k (fun x a => hd x (h4 x a).1 (h4 x a).2), h2.kx k (fun x a => hd x (h5 x a).1 (h5 x a).2), h3, fun x a => ⟨(h4 x a).1, Nat.lt_of_lt_of_le (h4 x a).2 hs⟩, fun x a => ⟨(h5 x a).1, Nat.lt_of_lt_of_le (h5 x a).2 hs⟩, h6, h7, h8⟩
theorem Pair.kp {w w' : World} {d g : Nat} {A : AD} {R : RS} {N : Nat} {F : Nat → Prop} (h : Pair w d g A R N F) (k : Kp [] w w') : Pair w' d g A R N F := h.kx (G := fun _ => False) ⟨[], k, by simp⟩ (fun _ _ _ h => h)
/-- The one has turned, then the other. -/
theorem pair_step {w w1 w2 : World} {d g : Nat} {A' : AD} {R' : RS} {N' : Nat} {P Q F : Nat → Prop} (h3 : ∀ x, P x → ¬ Q x) (h4 : ∀ x, P x → F x ∧ x < w.heap.size) (h5 : ∀ x, Q x → F x ∧ x < w.heap.size) (l1 : Left w d A' N' P w1) (l2 : RLeft w1 g R' Q w2) (h6 : Rel A' R') (h7 : A'.left ≤ 9223372036854775807) (h8 : A'.steps ≤ N') :
    Pair w2 d g A' R' N' (fun x => F x ∨ w.heap.size ≤ x) ∧ KX (fun x => F x ∧ x < w.heap.size) w w2 := by
  have s1 := l1.2.size
  have s2 := l2.2.size
  have a1 : Drv w1 d A' N' (fun x => (P x ∨ w.heap.size ≤ x) ∧ x < w1.heap.size) := l1.1.mono (Nat.le_refl _) fun x a b => ⟨a, b⟩
  have a2 := a1.kx l2.2 fun x a b => by
    rcases a.1 with h | h
    · exact h3 x h b
    · have := (h5 x b).2; omega
  refine ⟨Pair.mk_ a2 l2.1 (fun x a b => ?_) (fun x a => ?_) (fun x a => ?_) h6 h7 h8, (l1.2.weak (fun x a => h4 x a)).then l2.2 (fun x a _ => h5 x a)⟩
  · rcases b with b | b
    · rcases a.1 with h | h
      · exact h3 x h b
      · have := (h5 x b).2; omega
    · have := a.2; omega
  · rcases a.1 with h | h
    · exact .inl (h4 x h).1
    · exact .inr h
  · rcases a with h | h
    · exact .inl (h5 x h).1
    · exact .inr (by omega)
def ApR (w wr : World) (d g n : Nat) (gk : Nat) (s : Value) : Prop :=
  ∃ (i : Nat) (A : AD) (R : RS), n - i ≤ gk ∧ s = .int .i64 i ∧ i ≤ n ∧ Pair wr d g A R i (fun x => w.heap.size ≤ x) ∧ Kp [] w wr
def ApQ (w wc wr : World) (d g c x n m : Nat) (A : AD) (R : RS) (gk : Nat) (s : Value) : Prop :=
  ∃ (i : Nat) (A' : AD) (R' : RS), m - i ≤ gk ∧ s = .int .i64 i ∧ i ≤ m ∧ Pair wr c x A' R' (n + i) (fun x => wc.heap.size ≤ x) ∧ Pair wr d g A R n (fun x => w.heap.size ≤ x ∧ x < wc.heap.size) ∧ wc.heap.size ≤ wr.heap.size ∧ Kp [] w wr
set_option maxHeartbeats 8000000 in
theorem dapart_walk (v0 v1 : Value) (w : World) (i0 : InS w 22 v0) (i1 : InS w 22 v1) : Calls Try.prog 6 #[v0, v1] w (Yes w) := by
  obtain ⟨A0, n, c, os, rfl, hn, hc, hlen, hrow⟩ := in_dops i0
  obtain ⟨B0, m, mc, ps, rfl, hm, hmc, hlem, hrowm⟩ := in_dops i1
  have HLEN := Lib.hid hlen
  have HLEM := Lib.hid hlem
  have hnm : n ≤ maxLen := Nat.le_trans hn hc
  have hmm : m ≤ maxLen := Nat.le_trans hm hmc
  clear i0 i1 hlen hlem
  go_enter Try.func6, Try.ntmps6
  go_wp2_with fail
  refine (dawake_any w).mono ?_
  rintro e w1 ⟨rfl, hk1⟩
  go_wp2_with fail
  refine (dgreat_any A0 n c os w1 HLEN.out hnm (hrow.kp hk1)).mono ?_
  rintro e w2 ⟨⟨b, rfl, hb⟩, hk2⟩
  have hk2 := hk1.trans hk2
  cases b
  rotate_left
  · go_wp2_with fail
    refine (dawake_any w2).mono ?_
    rintro e w3 ⟨rfl, hk3⟩
    go_wp2_with fail
    go_ret
    exact ⟨rfl, hk2.trans hk3⟩
  obtain ⟨hn200, hfine⟩ := hb rfl
  have HF := Lib.hid hfine
  clear hb hfine hk1
  go_wp2_with fail
  refine (dgreat_any B0 m mc ps w2 HLEM.out hmm (hrowm.kp hk2)).mono ?_
  rintro e w3 ⟨⟨b, rfl, hb⟩, hk3⟩
  have hk3 := hk2.trans hk3
  cases b
  rotate_left
  · go_wp2_with fail
    refine (dawake_any w3).mono ?_
    rintro e w4 ⟨rfl, hk4⟩
    go_wp2_with fail
    go_ret
    exact ⟨rfl, hk3.trans hk4⟩
  obtain ⟨hm200, hfinm⟩ := hb rfl
  have HG := Lib.hid hfinm
  clear hb hfinm hk2
  go_wp2_with fail
  refine (drv_new w3).mono ?_
  rintro e w4 ⟨d, rfl, h4, hk4⟩
  go_wp2_with fail
  refine (rdnew_any w4).mono ?_
  rintro e w5 ⟨g, rfl, h5, hk5⟩
  have hp : Pair w5 d g dw0 rs0 0 (fun x => w.heap.size ≤ x) := Pair.mk_ ((h4.mono (Q := fun x => w3.heap.size ≤ x ∧ x < w4.heap.size) (Nat.le_refl _) fun x a b => ⟨a, b⟩).kp hk5) h5 (fun x a b => by omega) (fun x a => Nat.le_trans hk3.size a.1) (fun x a => Nat.le_trans (hk3.trans hk4).size a) Rel.start (Nat.zero_le _) (Nat.le_refl _)
  have hk5 := (hk3.trans hk4).trans hk5
  clear hk3 hk4 h4 h5
  go_wp2_with fail
  go_loopg [28] n (fun gk s28 wr => ApR w wr d g n gk s28)
  case atStart => exact ⟨0, dw0, rs0, by omega, rfl, Nat.zero_le _, hp, hk5⟩
  case round =>
    obtain ⟨i, A, R, hgk, rfl, hi, hP, hkr⟩ := hrel
    clear hp hk5
    by_cases hlt : i < n
    · obtain ⟨o, ho⟩ : ∃ o, os[i]? = some o := ⟨_, List.getElem?_eq_getElem (by have := HLEN.out; omega)⟩
      have hro := hrow.kp hkr
      obtain ⟨ad, p, rfl, hp, c0, c1, c2, c3, c4⟩ := hro.cells ho
      have hok := (hro i o ho).1
      have HOK0 := Lib.hid (hrow i o ho).1
      have hfo := HF.out o (List.mem_of_getElem? ho)
      have b2 : (i : Int) < (n : Int) := by omega
      have hkA : Kp [] wr (wr.alloc (.cells #[.int .i64 o.kind, .string o.name, .string o.data, .int .i64 o.k, .slice o.A o.n o.c] 31)) := (Kp.rfl_ [] wr).alloc _
      have hB : At (wr.alloc (.cells #[.int .i64 o.kind, .string o.name, .string o.data, .int .i64 o.k, .slice o.A o.n o.c] 31)) wr.heap.size 31 #[.int .i64 o.kind, .string o.name, .string o.data, .int .i64 o.k, .slice o.A o.n o.c] := At.new wr _ _
      have hPA := (hP.mono (G := fun x => w.heap.size ≤ x ∧ x < wr.heap.size) (Nat.le_refl _) fun x a b => ⟨a, b⟩).kp hkA
      have hokA := hok.kp hkA
      have hkwA := hkr.trans hkA
      clear ho hro hP
      by_cases h7 : o.kind < 7
      · obtain ⟨P, Q, hD, hRD, hPQ, hPb, hQb, hrl, hl, hst⟩ := hPA
        have HR := Lib.hid (did_any o _ hD hokA (by have := hfo.2.1; omega) (by omega) (by omega) hl (by omega))
        have HW := Lib.hid (hrl.wr hD.within)
        have HLB := Lib.hid (hrl.left_bd hl)
        have HCT := Lib.hid (show R.fs.length ≤ 1000 ∧ R.count ≤ 1000000000 from ⟨by have := hrl.len; have := hrl.count; omega, by have := hrl.count; omega⟩)
        have HPQ := Lib.hid hPQ
        have HPB := Lib.hid hPb
        have HQB := Lib.hid hQb
        have HRL := Lib.hid hrl
        obtain ⟨gb, hgb⟩ : ∃ gb, wr.heap.size = gb := ⟨_, rfl⟩
        rw [hgb] at hB
        have HGB := Lib.hid hgb
        clear hPQ hPb hQb hrl hD
        obtain ⟨kd, nm, dt, k, B, q, cc, zs⟩ := o
        have hok2 : k ≤ 9223372036854775807 := hok.k.2
        have HOA := Lib.hid hokA
        go_wp2_with fail
        refine HR.out.mono ?_
        rintro e w6 ⟨r, A', rfl, hdid, hl6⟩
        unfold oneAns
        have hB6 := hB.kx hl6.2 (fun hx => by have := (HPB.out _ hx).1.2; have := HGB.out; omega)
        have hRD6 := hRD.kx hl6.2 (fun x a b => HPQ.out x b a)
        have q0 := hB6.cell 0
        have q1 := hB6.cell 1
        have q2 := hB6.cell 2
        have q3 := hB6.cell 3
        have q4 := hB6.cell 4
        have hk6 : Kp [] w w6 := hl6.2.base hkwA fun x hx => (HPB.out x hx).1.1
        have HWT := Lib.hid (want_any ⟨kd, nm, dt, k, B, q, cc, zs⟩ w6 hRD6 (HOK0.out.kp hk6) (by show dt.size ≤ _; have := hfo.2.1; have h : (DOp.mk kd nm dt k B q cc zs).data.size = dt.size := rfl; omega) HW.out HCT.out.1 HLB.out HCT.out.2)
        have HST := Lib.hid (HRL.out.did hdid).2
        have HSM := Lib.hid (did_small hdid hl hok2)
        have HL6 := Lib.hid hl6
        clear hdid hl6 hB c0 c1 c2 c3 c4 hB6 hkA HR hRD6 hRD hokA hok
        go_wp2_with fail
        refine HWT.out.mono ?_
        rintro e w7 ⟨rfl, hl7⟩
        obtain ⟨hp7, kx7⟩ := pair_step HPQ.out HPB.out HQB.out HL6.out hl7 HST.out HSM.out.1 (by have := HSM.out.2; omega)
        have hk7 : Kp [] w w7 := kx7.base hkwA fun x hx => hx.1.1
        have hp7 := hp7.mono (G := fun x => w.heap.size ≤ x) (Nat.le_refl _) fun x hx _ => by
          have h9 := hkwA.size
          rcases hx with hx | hx
          · exact hx.1
          · exact Nat.le_trans h9 hx
        clear hl7 kx7
        go_wp2_with fail
        go_roundg (n - (i + 1))
        case measure => omega
        case rel => exact ⟨i + 1, A', _, by omega, by go_num, by omega, hp7, hk7⟩
      · go_wp2_with fail
        go_roundg (n - (i + 1))
        case measure => omega
        case rel => exact ⟨i + 1, A, R, by omega, by go_num, by omega, hPA.mono (by omega) (fun x h _ => h.1), hkwA⟩
    · obtain rfl : i = n := by omega
      obtain ⟨P, Q, hD, hRD, hPQ, hPb, hQb, hrl, hl, hst⟩ := hP
      have HCT := Lib.hid (show R.fs.length ≤ 1000 from by have := hrl.len; have := hrl.count; omega)
      go_wp2_with fail
      refine (drv_copy hD (by omega)).mono ?_
      rintro e w6 ⟨c6, rfl, h6, k6⟩
      have hRD6 := hRD.kp k6
      have hD6 := hD.kp k6
      go_wp2_with fail
      refine (rcopy_any hRD6 HCT.out).mono ?_
      rintro e w7 ⟨g7, rfl, h7, k7⟩
      have hD7 := hD6.kp k7
      have hRD7 := hRD6.kp k7
      have hp1 : Pair w7 d g A R i (fun x => w.heap.size ≤ x ∧ x < wr.heap.size) := Pair.mk_ hD7 hRD7 hPQ (fun x a => hPb x a) (fun x a => hQb x a) hrl hl hst
      have hp2 : Pair w7 c6 g7 A R (i + 0) (fun x => wr.heap.size ≤ x) := Pair.mk_ ((h6.mono (Q := fun x => wr.heap.size ≤ x ∧ x < w6.heap.size) (Nat.le_refl _) fun x a b => ⟨a, b⟩).kp k7) h7 (fun x a b => by omega) (fun x a => a.1) (fun x a => Nat.le_trans k6.size a) hrl hl hst
      have hcs7 := Nat.le_trans k6.size k7.size
      have HWC := Lib.hid hkr.size
      have hkc := (hkr.trans k6).trans k7
      clear hD hRD hPQ hPb hQb hrl hl hst h6 h7 hD6 hRD6 hD7 hRD7 k6 k7 HCT
      obtain ⟨wc, rfl⟩ : ∃ wc, wc = wr := ⟨_, rfl⟩
      go_wp2_with fail
      go_loopg [48] m (fun gk s48 wr => ApQ w wc wr d g c6 g7 i m A R gk s48)
      case atStart => exact ⟨0, A, R, by omega, rfl, Nat.zero_le _, hp2, hp1, hcs7, hkc⟩
      case round =>
        obtain ⟨j, A2, R2, hgj, rfl, hj, hP, hZ, hcs, hkr⟩ := hrel
        clear hp2 hp1 hkc
        by_cases hlt : j < m
        · obtain ⟨o, ho⟩ : ∃ o, ps[j]? = some o := ⟨_, List.getElem?_eq_getElem (by have := HLEM.out; omega)⟩
          have hro := hrowm.kp hkr
          obtain ⟨ad, p, rfl, hp, c0, c1, c2, c3, c4⟩ := hro.cells ho
          have hok := (hro j o ho).1
          have HOK0 := Lib.hid (hrowm j o ho).1
          have hfo := HG.out o (List.mem_of_getElem? ho)
          have b2 : (j : Int) < (m : Int) := by omega
          have hkA : Kp [] wr (wr.alloc (.cells #[.int .i64 o.kind, .string o.name, .string o.data, .int .i64 o.k, .slice o.A o.n o.c] 31)) := (Kp.rfl_ [] wr).alloc _
          have hB : At (wr.alloc (.cells #[.int .i64 o.kind, .string o.name, .string o.data, .int .i64 o.k, .slice o.A o.n o.c] 31)) wr.heap.size 31 #[.int .i64 o.kind, .string o.name, .string o.data, .int .i64 o.k, .slice o.A o.n o.c] := At.new wr _ _
          have hPA := (hP.mono (G := fun x => wc.heap.size ≤ x ∧ x < wr.heap.size) (Nat.le_refl _) fun x a b => ⟨a, b⟩).kp hkA
          have hokA := hok.kp hkA
          have hkwA := hkr.trans hkA
          have hZA := hZ.kp hkA
          have hkcA := Lib.hid (Nat.le_trans hcs hkA.size)
          clear ho hro hP hZ
          by_cases h7 : o.kind < 7
          · obtain ⟨P, Q, hD, hRD, hPQ, hPb, hQb, hrl, hl, hst⟩ := hPA
            have HR := Lib.hid (did_any o _ hD hokA (by have := hfo.2.1; omega) (by omega) (by omega) hl (by omega))
            have HW := Lib.hid (hrl.wr hD.within)
            have HLB := Lib.hid (hrl.left_bd hl)
            have HCT := Lib.hid (show R2.fs.length ≤ 1000 ∧ R2.count ≤ 1000000000 from ⟨by have := hrl.len; have := hrl.count; omega, by have := hrl.count; omega⟩)
            have HPQ := Lib.hid hPQ
            have HPB := Lib.hid hPb
            have HQB := Lib.hid hQb
            have HRL := Lib.hid hrl
            obtain ⟨gb, hgb⟩ : ∃ gb, wr.heap.size = gb := ⟨_, rfl⟩
            rw [hgb] at hB
            have HGB := Lib.hid hgb
            clear hPQ hPb hQb hrl hD
            obtain ⟨kd, nm, dt, k, B, q, cc, zs⟩ := o
            have hok2 : k ≤ 9223372036854775807 := hok.k.2
            have HOA := Lib.hid hokA
            go_wp2_with fail
            refine HR.out.mono ?_
            rintro e w6 ⟨r, A', rfl, hdid, hl6⟩
            unfold oneAns
            have hB6 := hB.kx hl6.2 (fun hx => by have := (HPB.out _ hx).1.2; have := HGB.out; omega)
            have hRD6 := hRD.kx hl6.2 (fun x a b => HPQ.out x b a)
            have q0 := hB6.cell 0
            have q1 := hB6.cell 1
            have q2 := hB6.cell 2
            have q3 := hB6.cell 3
            have q4 := hB6.cell 4
            have hk6 : Kp [] w w6 := hl6.2.base hkwA fun x hx => Nat.le_trans HWC.out (HPB.out x hx).1.1
            have HWT := Lib.hid (want_any ⟨kd, nm, dt, k, B, q, cc, zs⟩ w6 hRD6 (HOK0.out.kp hk6) (by show dt.size ≤ _; have := hfo.2.1; have h : (DOp.mk kd nm dt k B q cc zs).data.size = dt.size := rfl; omega) HW.out HCT.out.1 HLB.out HCT.out.2)
            have HST := Lib.hid (HRL.out.did hdid).2
            have HSM := Lib.hid (did_small hdid hl hok2)
            have HL6 := Lib.hid hl6
            clear hdid hl6 hB c0 c1 c2 c3 c4 hB6 hkA HR hRD6 hRD hokA hok
            go_wp2_with fail
            refine HWT.out.mono ?_
            rintro e w7 ⟨rfl, hl7⟩
            obtain ⟨hp7, kx7⟩ := pair_step HPQ.out HPB.out HQB.out HL6.out hl7 HST.out HSM.out.1 (by have := HSM.out.2; omega)
            have hk7 : Kp [] w w7 := kx7.base hkwA fun x hx => Nat.le_trans HWC.out hx.1.1
            have hp7 := hp7.mono (G := fun x => wc.heap.size ≤ x) (Nat.le_refl _) fun x hx _ => by
              have h9 := hkcA.out
              rcases hx with hx | hx
              · exact hx.1
              · omega
            have kxs := kx7.size
            have hz7 := hZA.kx kx7 fun x a _ b => by have := a.2; have := b.1.1; omega
            clear hl7 kx7
            go_wp2_with fail
            go_roundg (m - (j + 1))
            case measure => omega
            case rel => exact ⟨j + 1, A', _, by omega, by go_num, by omega, hp7, hz7, Nat.le_trans hkcA.out kxs, hk7⟩
          · go_wp2_with fail
            go_roundg (m - (j + 1))
            case measure => omega
            case rel => exact ⟨j + 1, A2, R2, by omega, by go_num, by omega, hPA.mono (by omega) (fun x h _ => h.1), hZA, hkcA.out, hkwA⟩
        · obtain rfl : j = m := by omega
          obtain ⟨P, Q, hD, hRD, -, -, -, hrl, hl, hst⟩ := hZ
          have HL1 := Lib.hid (show R.fs.length ≤ 1000 from by have := hrl.len; have := hrl.count; omega)
          have HK := Lib.hid (dalike_any wr hD hRD hrl (by omega) HL1.out (by omega))
          clear hD hRD hrl hl hst
          go_wp2_with fail
          refine HK.out.mono ?_
          rintro e w9 ⟨rfl, k9⟩
          have hP9 := hP.kp k9
          clear hP HK
          obtain ⟨P2, Q2, hD, hRD, -, -, -, hrl, hl, hst⟩ := hP9
          have HL2 := Lib.hid (show R2.fs.length ≤ 1000 from by have := hrl.len; have := hrl.count; omega)
          have HK := Lib.hid (dalike_any w9 hD hRD hrl (by omega) HL2.out (by omega))
          clear hD hRD hrl hl hst
          go_wp2_with fail
          refine HK.out.mono ?_
          rintro e w10 ⟨rfl, k10⟩
          go_wp2_with fail
          go_ret
          exact ⟨rfl, (hkr.trans k9).trans k10⟩
end Go.Proofs.Ytnmogfjbbibeiaa
