/- Package disk: DiskAgain. -/
import Derived.Test.YtnmogfjbbibeiaaEc
namespace Go.Proofs.Ytnmogfjbbibeiaa
set_option maxRecDepth 100000
open Go.RowKit
set_option linter.unusedVariables false

/-- A file that a loss of power leaves as it is. -/
def AF.clean (x : AF) : Prop := x.wait = ⟨#[]⟩ ∧ ¬ (x.sy = false ∧ x.last.size = 0)
theorem AF.crash_clean {x : AF} (h : x.clean) (ks : List Int) : x.crash ks = x := by
  obtain ⟨l, t, y⟩ := x
  have ht : t = ⟨#[]⟩ := h.1
  subst ht
  unfold AF.crash
  have e : (ByteArray.mk #[]).extract 0 (cropK ks (ByteArray.mk #[]).size) = ⟨#[]⟩ := ByteArray.ext (by simp)
  show AF.mk (l ++ (ByteArray.mk #[]).extract 0 (cropK ks (ByteArray.mk #[]).size)) ⟨#[]⟩ y = _
  rw [e, show l ++ ByteArray.mk #[] = l from ByteArray.append_empty]
theorem crashA_clean : ∀ (L : List ByteArray) (ks : List Int) (F : FA), (∀ s x, s ∉ L → F s = some x → x.clean) → ∀ s x, crashA L ks F s = some x → x.clean
  | [], _, F, h, s, x, hx => h s x (by simp) hx
  | s0 :: L, ks, F, h, s, x, hx => by
    rw [crashA] at hx
    cases hF : F s0 with
    | none =>
      rw [hF] at hx
      refine crashA_clean L ks F (fun s' y hs' hy => h s' y ?_ hy) s x hx
      rintro hm
      rcases List.mem_cons.1 hm with rfl | hm
      · rw [hF] at hy; cases hy
      · exact hs' hm
    | some z =>
      rw [hF] at hx
      simp only [] at hx
      refine crashA_clean L _ _ (fun s' y hs' hy => ?_) s x hx
      by_cases e : s' = s0
      · subst e
        unfold crashFA at hy
        split at hy
        · rw [set_eq] at hy; cases hy
        · rename_i h2
          rw [set_eq] at hy
          injection hy with hy
          subst hy
          exact ⟨rfl, h2⟩
      · have hy' : F s' = some y := by
          unfold crashFA at hy
          split at hy
          · rwa [set_ne e] at hy
          · rwa [set_ne e] at hy
        exact h s' y (fun hm => (List.mem_cons.1 hm).elim e hs') hy'
theorem set_self {F : FA} {s : ByteArray} {x : AF} (h : F s = some x) : F.set s (some x) = F := by
  funext s'
  unfold FA.set
  split
  · rename_i e
    rw [e, h]
  · rfl
theorem crashA_same : ∀ (L : List ByteArray) (ks : List Int) (F : FA), (∀ s x, F s = some x → x.clean) → crashA L ks F = F
  | [], _, _, _ => rfl
  | s :: L, ks, F, h => by
    rw [crashA]
    cases hF : F s with
    | none => exact crashA_same L ks F h
    | some x =>
      simp only []
      have hx := h s x hF
      rw [AF.crash_clean hx]
      have e : crashFA F s x = F := by
        unfold crashFA
        rw [if_neg hx.2, set_self hF]
      rw [e]
      exact crashA_same L _ F h
theorem crash_again {A A1 A2 : AD} {ks more : List Int} (h1 : A.crash ks A1) (h2 : A1.crash more A2) : A2 = A1 := by
  obtain ⟨L, hL, rfl⟩ := h1
  obtain ⟨M, _, rfl⟩ := h2
  have hc : ∀ s x, crashA L ks A.F s = some x → x.clean := crashA_clean L ks A.F fun s x hs hx => absurd ((hL.2 s).2 ⟨by rw [hx]; rfl, hpre_nil s⟩) hs
  rw [crashA_same M more _ hc]
theorem crash_small {A A' : AD} {ks : List Int} (h : A.crash ks A') : A'.left = 0 ∧ A'.steps = A.steps := by
  obtain ⟨L, _, rfl⟩ := h
  exact ⟨rfl, rfl⟩
def AgR (w wr : World) (d n : Nat) (gk : Nat) (s38 : Value) : Prop :=
  ∃ (i : Nat) (A : AD), n - i ≤ gk ∧ s38 = .int .i64 i ∧ i ≤ n ∧ Drv wr d A i (fun x => w.heap.size ≤ x) ∧ A.left ≤ 9223372036854775807 ∧ A.steps ≤ i ∧ Kp [] w wr
set_option maxHeartbeats 8000000 in
theorem dagain_walk (v0 v1 v2 : Value) (w : World) (i0 : InS w 22 v0) (i1 : InS w 29 v1) (i2 : InS w 29 v2) : Calls Try.prog 5 #[v0, v1, v2] w (Yes w) := by
  obtain ⟨A0, n, c, os, rfl, hn, hc, hlen, hrow⟩ := in_dops i0
  obtain ⟨B0, kn, kc, ks, rfl, hkn, hkc, hkL, hkz⟩ := in_ints i1.in_
  obtain ⟨C0, mn, mc, ms, rfl, hmn, hmc, hmL, hmz⟩ := in_ints i2.in_
  have HLEN := Lib.hid hlen
  have hnm : n ≤ maxLen := Nat.le_trans hn hc
  clear i0 i1 i2 hlen
  go_enter Try.func5, Try.ntmps5
  go_wp2_with fail
  refine (dawake_any w).mono ?_
  rintro e w1 ⟨rfl, hk1⟩
  go_wp2_with fail
  refine (dgreat_any A0 n c os w1 HLEN.out hnm (hrow.kp hk1)).mono ?_
  rintro e w2 ⟨⟨b, rfl, hb⟩, hk2⟩
  have hk2 := hk1.trans hk2
  cases b
  rotate_left
  · go_wp2_with fail
    refine (dawake_any w2).mono ?_
    rintro e w3 ⟨rfl, hk3⟩
    go_wp2_with fail
    go_ret
    exact ⟨rfl, hk2.trans hk3⟩
  obtain ⟨hn200, hfine⟩ := hb rfl
  have HF := Lib.hid hfine
  clear hb hfine hk1
  by_cases h1000 : (1000 : Int) < (kn : Int)
  · go_wp2_with fail
    refine (dawake_any w2).mono ?_
    rintro e w3 ⟨rfl, hk3⟩
    go_wp2_with fail
    go_ret
    exact ⟨rfl, hk2.trans hk3⟩
  by_cases m1000 : (1000 : Int) < (mn : Int)
  · go_wp2_with fail
    refine (dawake_any w2).mono ?_
    rintro e w3 ⟨rfl, hk3⟩
    go_wp2_with fail
    go_ret
    exact ⟨rfl, hk2.trans hk3⟩
  go_wp2_with fail
  refine (drv_new w2).mono ?_
  rintro e w3 ⟨d, rfl, h3, hk3⟩
  have hk3 := hk2.trans hk3
  have h3 : Drv w3 d dw0 0 (fun x => w.heap.size ≤ x) := h3.mono (Nat.le_refl _) fun x hx _ => Nat.le_trans hk2.size hx
  clear hk2
  go_wp2_with fail
  go_loopg [38] n (fun gk s38 wr => AgR w wr d n gk s38)
  case atStart => exact ⟨0, dw0, by omega, rfl, Nat.zero_le _, h3, Nat.zero_le _, Nat.le_refl _, hk3⟩
  case round =>
    obtain ⟨i, A, hgk, rfl, hi, hD, hl, hst, hkr⟩ := hrel
    clear h3 hk3
    by_cases hlt : i < n
    · obtain ⟨o, ho⟩ : ∃ o, os[i]? = some o := ⟨_, List.getElem?_eq_getElem (by have := HLEN.out; omega)⟩
      have hro := hrow.kp hkr
      obtain ⟨ad, p, rfl, hp, c0, c1, c2, c3, c4⟩ := hro.cells ho
      have hok := (hro i o ho).1
      have hfo := HF.out o (List.mem_of_getElem? ho)
      have b2 : (i : Int) < (n : Int) := by omega
      have hkA : Kp [] wr (wr.alloc (.cells #[.int .i64 o.kind, .string o.name, .string o.data, .int .i64 o.k, .slice o.A o.n o.c] 31)) := (Kp.rfl_ [] wr).alloc _
      have hB : At (wr.alloc (.cells #[.int .i64 o.kind, .string o.name, .string o.data, .int .i64 o.k, .slice o.A o.n o.c] 31)) wr.heap.size 31 #[.int .i64 o.kind, .string o.name, .string o.data, .int .i64 o.k, .slice o.A o.n o.c] := At.new wr _ _
      have hDA : Drv (wr.alloc (.cells #[.int .i64 o.kind, .string o.name, .string o.data, .int .i64 o.k, .slice o.A o.n o.c] 31)) d A i (fun x => w.heap.size ≤ x ∧ x < wr.heap.size) := (hD.mono (Nat.le_refl _) fun x h1 h2 => ⟨h1, h2⟩).kp hkA
      have hokA := hok.kp hkA
      have hkwA := hkr.trans hkA
      clear ho hro
      by_cases h7 : o.kind < 7
      · have HR := Lib.hid (did_any o _ hDA hokA (by have := hfo.2.1; omega) (by omega) (by omega) hl (by omega))
        obtain ⟨kd, nm, dt, k, B, m, cc, zs⟩ := o
        have hok2 : k ≤ 9223372036854775807 := hok.k.2
        go_wp2_with fail
        refine HR.out.mono ?_
        rintro e w5 ⟨r, A', rfl, hdid, hl5⟩
        unfold oneAns
        have h5 : Drv w5 d A' (i + 1) (fun x => w.heap.size ≤ x) := hl5.1.mono (Nat.le_refl _) fun x hx _ => by
          have h9 := hkwA.size
          rcases hx with hx | hx
          · exact hx.1
          · exact Nat.le_trans h9 hx
        have hk5 : Kp [] w w5 := hl5.2.base hkwA fun x hx => hx.1
        have HSM := Lib.hid (did_small hdid hl hok2)
        clear hdid hl5 hB c0 c1 c2 c3 c4 hkwA hkA HR
        go_wp2_with fail
        go_roundg (n - (i + 1))
        case measure => omega
        case rel => exact ⟨i + 1, A', by omega, by go_num, by omega, h5, HSM.out.1, by have := HSM.out.2; omega, hk5⟩
      · go_wp2_with fail
        go_roundg (n - (i + 1))
        case measure => omega
        case rel => exact ⟨i + 1, A, by omega, by go_num, by omega, hDA.mono (by omega) (fun x h _ => h.1), hl, by omega, hkwA⟩
    · obtain rfl : i = n := by omega
      have hkL2 := hkL.kp hkr (by simp)
      go_wp2_with (at_builtin; go_must (refine wpl_copy_int2 wr rfl _ _ rfl B0 kn kc ks rfl rfl hkL2 (by omega) ?_); intro A2 c2 w2 hv1 hvm hv2 hv3 hk2)
      refine (drv_crash A2 kn c2 ks ((hD.mono (Q := fun x => w.heap.size ≤ x ∧ x < wr.heap.size) (Nat.le_refl _) fun x h1 h2 => ⟨h1, h2⟩).kp hk2) (by omega) hv2 hv1 hvm (fun _ ad e hp => by have := hv3 ad e; have := hp.2; omega)).mono ?_
      rintro e w5 ⟨rfl, A', hA', hl5⟩
      have h5 : Drv w5 d A' i (fun x => w.heap.size ≤ x) := hl5.1.mono (Nat.le_refl _) fun x hx _ => by
        have h8 := hkr.size
        have h9 := hk2.size
        rcases hx with hx | hx
        · exact hx.1
        · omega
      have hk5 : Kp [] w w5 := hl5.2.base (hkr.trans hk2) fun x hx => hx.1
      have hdn := crash_down hA'
      have HA := Lib.hid hA'
      clear hl5 hA' hD hk2 hv2 hkL2
      go_wp2_with fail
      refine (drv_copy h5 (by omega)).mono ?_
      rintro e w6 ⟨d2, rfl, h6, k6⟩
      have h56 := (h5.mono (Q := fun x => w.heap.size ≤ x ∧ x < w5.heap.size) (Nat.le_refl _) fun x h1 h2 => ⟨h1, h2⟩).kp k6
      have hk6 := hk5.trans k6
      have hmL2 := hmL.kp hk6 (by simp)
      have HW56 := Lib.hid k6.size
      have HW5 := Lib.hid hk5.size
      clear h5
      go_wp2_with (at_builtin; go_must (refine wpl_copy_int2 w6 rfl _ _ rfl C0 mn mc ms rfl rfl hmL2 (by omega) ?_); intro A7 c7 w7 hv1 hvm hv2 hv3 hk7)
      have h7 := (h6.mono (Q := fun x => w5.heap.size ≤ x ∧ x < w6.heap.size) (Nat.le_refl _) fun x h1 h2 => ⟨h1, h2⟩).kp hk7
      refine (drv_crash A7 mn c7 ms h7 (by omega) hv2 hv1 hvm (fun _ ad e hp => by have := hv3 ad e; have := hp.2; omega)).mono ?_
      rintro e w8 ⟨rfl, A'', hA'', hl8⟩
      obtain rfl := crash_again HA.out hA''
      have h8 : Drv w8 d2 A'' i (fun x => w5.heap.size ≤ x) := hl8.1.mono (Nat.le_refl _) fun x hx _ => by
        have h9 := hk7.size
        have := HW56.out
        rcases hx with hx | hx
        · exact hx.1
        · omega
      have hd8 : Drv w8 d A'' i (fun x => w.heap.size ≤ x) := ((h56.kp hk7).kx hl8.2 (fun x h1 h2 => by have := h1.2; have := h2.1; omega)).mono (Nat.le_refl _) fun x h _ => h.1
      have hk8 : Kp [] w w8 := hl8.2.base (hk6.trans hk7) fun x hx => by have := hx.1; have := HW5.out; omega
      clear hl8 hA'' h7 h6 h56 hk7 hv2 hmL2 hk6 k6 hk5
      go_wp2_with fail
      refine (drv_names ⟨#[]⟩ hd8 (by omega)).mono ?_
      rintro e w9 ⟨v, L, rfl, hL, hLs, hLn, hLo, k9⟩
      have hd9 := hd8.kp k9
      have h9 := h8.kp k9
      have hk9 := hk8.trans k9
      obtain ⟨AL, cL, rfl, hLL, -, hcL, hmL2⟩ := own_open hLo
      clear hd8 h8 hk8 k9 hLo
      go_wp2_with fail
      refine (drv_names ⟨#[]⟩ h9 (by omega)).mono ?_
      rintro e w10 ⟨v', L', rfl, hL', -, -, hLo', k10⟩
      obtain rfl := AD.names_eq hL hL'
      have hd10 := hd9.kp k10
      have h10 := h9.kp k10
      have hk10 := hk9.trans k10
      have hLL10 := hLL.kp k10 (by simp)
      obtain ⟨AM, cM, rfl, hMM, -, hcM, hmM2⟩ := own_open hLo'
      have HAS : Hid (∀ s ∈ L, A''.has s = true) := Lib.hid fun s hs => by
        rcases hL with ⟨h1, h2⟩ | ⟨h1, h2⟩
        · rw [hdn] at h1; cases h1
        · unfold AD.has
          rw [h1, ((h2.2 s).1 hs).1]
          rfl
      have HSZ := Lib.hid hLs
      clear hd9 h9 hk9 k10 hLo' hL hL' hLL hLs
      go_wp2_with fail
      refine (same_yes AL AM L.length cL L.length cM L w10 hLL10 hMM (by omega)).mono ?_
      rintro e w11 ⟨rfl, k11⟩
      have hd11 := hd10.kp k11
      have h11 := h10.kp k11
      have hk11 := hk10.trans k11
      have hLL11 := hLL10.kp k11 (by simp)
      clear hd10 h10 hk10 k11 hLL10 hMM
      go_wp2_with fail
      go_loopg [70] L.length (fun gk s70 wq => ∃ j : Nat, L.length - j ≤ gk ∧ s70 = .int .i64 j ∧ j ≤ L.length ∧ Kp [] w11 wq)
      case atStart => exact ⟨0, by omega, rfl, Nat.zero_le _, Kp.rfl_ _ _⟩
      case round =>
        obtain ⟨j, hgj, rfl, hj, hkq⟩ := hrel
        have hdq := hd11.kp hkq
        have hq := h11.kp hkq
        by_cases hlj : j < L.length
        · have b3 : (j : Int) < (L.length : Int) := by omega
          obtain ⟨aL, s, rfl, hs, hcs⟩ := (hLL11.kp hkq (by simp)).str_at hlj
          have hss : s.size ≤ maxLen := HSZ.out s (List.mem_of_getElem? hs)
          have hhas := HAS.out s (List.mem_of_getElem? hs)
          clear hs
          go_wp2_with fail
          refine (drv_read s hdq hss).mono ?_
          rintro e w12 ⟨rfl, k12⟩
          have hq12 := hq.kp k12
          obtain ⟨R, hR⟩ : ∃ R, A''.read s = R := ⟨_, rfl⟩
          have HRR := Lib.hid hR
          rw [hR, hhas]
          clear hR
          go_wp2_with fail
          refine (drv_read s hq12 hss).mono ?_
          rintro e w13 ⟨rfl, k13⟩
          rw [HRR.out, hhas]
          have hkq2 := (hkq.trans k12).trans k13
          go_wp2_with fail
          go_roundg (L.length - (j + 1))
          case measure => omega
          case rel => exact ⟨j + 1, by omega, by go_num, by omega, hkq2⟩
        · obtain rfl : j = L.length := by omega
          go_wp2_with fail
          go_ret
          exact ⟨rfl, hk11.trans hkq⟩
end Go.Proofs.Ytnmogfjbbibeiaa
