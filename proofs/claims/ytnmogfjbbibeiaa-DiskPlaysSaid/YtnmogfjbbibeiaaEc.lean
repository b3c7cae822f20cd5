/- Package disk: DiskLasts. -/
import Derived.Test.YtnmogfjbbibeiaaEb
namespace Go.Proofs.Ytnmogfjbbibeiaa
set_option maxRecDepth 100000
open Go.RowKit
set_option linter.unusedVariables false

theorem At.kx {P : Nat → Prop} {w w' : World} {g : Nat} {t : TypeId} {cs : Array Value} (h : At w g t cs) (k : KX P w w') (hP : ¬ P g) : At w' g t cs := by
  obtain ⟨S, k1, k2⟩ := k
  exact h.kp k1 fun hm => hP (k2 _ hm)
theorem crash_down {A A' : AD} {ks : List Int} (h : A.crash ks A') : A'.down = false := by
  obtain ⟨L, _, rfl⟩ := h
  rfl
/-- Where the round stands. -/
def LaR (w wr : World) (d n : Nat) (name : ByteArray) (gk : Nat) (s8 s9 s36 : Value) : Prop :=
  ∃ (i : Nat) (S : ByteArray) (T : Bool) (A : AD), n - i ≤ gk ∧ s36 = .int .i64 i ∧ i ≤ n ∧ s8 = .string S ∧ s9 = .bool T ∧ Drv wr d A i (fun x => w.heap.size ≤ x) ∧ SureI A name S T ∧ A.left ≤ 9223372036854775807 ∧ A.steps ≤ i ∧ Kp [] w wr
set_option maxHeartbeats 8000000 in
theorem dlasts_walk (v0 v1 v2 : Value) (w : World) (i0 : InS w 22 v0) (i1 : InS w 9 v1) (i2 : InS w 29 v2) : Calls Try.prog 4 #[v0, v1, v2] w (Yes w) := by
  obtain ⟨A0, n, c, os, rfl, hn, hc, hlen, hrow⟩ := in_dops i0
  obtain ⟨name, rfl, hname⟩ := in_string Try.underlying9 i1.in_
  obtain ⟨B0, kn, kc, ks, rfl, hkn, hkc, hkL, hkz⟩ := in_ints i2.in_
  have HLEN := Lib.hid hlen
  have hnm : n ≤ maxLen := Nat.le_trans hn hc
  have hkm : kn ≤ maxLen := Nat.le_trans hkn hkc
  clear i0 i1 i2 hlen
  go_enter Try.func4, Try.ntmps4
  go_wp2_with fail
  refine (dawake_any w).mono ?_
  rintro e w1 ⟨rfl, hk1⟩
  go_wp2_with fail
  refine (dgreat_any A0 n c os w1 HLEN.out hnm (hrow.kp hk1)).mono ?_
  rintro e w2 ⟨⟨b, rfl, hb⟩, hk2⟩
  have hk2 := hk1.trans hk2
  cases b
  rotate_left
  · go_wp2_with fail
    refine (dawake_any w2).mono ?_
    rintro e w3 ⟨rfl, hk3⟩
    go_wp2_with fail
    go_ret
    exact ⟨rfl, hk2.trans hk3⟩
  obtain ⟨hn200, hfine⟩ := hb rfl
  have HF := Lib.hid hfine
  clear hb hfine hk1
  by_cases h200 : (200 : Int) < (name.size : Int)
  · go_wp2_with fail
    refine (dawake_any w2).mono ?_
    rintro e w3 ⟨rfl, hk3⟩
    go_wp2_with fail
    go_ret
    exact ⟨rfl, hk2.trans hk3⟩
  by_cases h1000 : (1000 : Int) < (kn : Int)
  · go_wp2_with fail
    refine (dawake_any w2).mono ?_
    rintro e w3 ⟨rfl, hk3⟩
    go_wp2_with fail
    go_ret
    exact ⟨rfl, hk2.trans hk3⟩
  go_wp2_with fail
  refine (drv_new w2).mono ?_
  rintro e w3 ⟨d, rfl, h3, hk3⟩
  have hk3 := hk2.trans hk3
  have h3 : Drv w3 d dw0 0 (fun x => w.heap.size ≤ x) := h3.mono (Nat.le_refl _) fun x hx _ => Nat.le_trans hk2.size hx
  clear hk2
  go_wp2_with fail
  go_loopg [8, 9, 36] n (fun gk s8 s9 s36 wr => LaR w wr d n name gk s8 s9 s36)
  case atStart => exact ⟨0, ⟨#[]⟩, false, dw0, by omega, rfl, Nat.zero_le _, rfl, rfl, h3, SureI.none _ _ _, Nat.zero_le _, Nat.le_refl _, hk3⟩
  case round =>
    obtain ⟨i, S, T, A, hgk, rfl, hi, rfl, rfl, hD, hsure, hl, hst, hkr⟩ := hrel
    have HS := Lib.hid hsure
    clear hsure h3 hk3
    by_cases hlt : i < n
    · obtain ⟨o, ho⟩ : ∃ o, os[i]? = some o := ⟨_, List.getElem?_eq_getElem (by have := HLEN.out; omega)⟩
      have hro := hrow.kp hkr
      obtain ⟨ad, p, rfl, hp, c0, c1, c2, c3, c4⟩ := hro.cells ho
      have hok := (hro i o ho).1
      have hfo := HF.out o (List.mem_of_getElem? ho)
      have b2 : (i : Int) < (n : Int) := by omega
      have hkA : Kp [] wr (wr.alloc (.cells #[.int .i64 o.kind, .string o.name, .string o.data, .int .i64 o.k, .slice o.A o.n o.c] 31)) := (Kp.rfl_ [] wr).alloc _
      have hB : At (wr.alloc (.cells #[.int .i64 o.kind, .string o.name, .string o.data, .int .i64 o.k, .slice o.A o.n o.c] 31)) wr.heap.size 31 #[.int .i64 o.kind, .string o.name, .string o.data, .int .i64 o.k, .slice o.A o.n o.c] := At.new wr _ _
      have hDA : Drv (wr.alloc (.cells #[.int .i64 o.kind, .string o.name, .string o.data, .int .i64 o.k, .slice o.A o.n o.c] 31)) d A i (fun x => w.heap.size ≤ x ∧ x < wr.heap.size) := (hD.mono (Nat.le_refl _) fun x h1 h2 => ⟨h1, h2⟩).kp hkA
      have hokA := hok.kp hkA
      have hkwA := hkr.trans hkA
      clear ho hro
      by_cases h6 : 6 ≤ o.kind
      · go_wp2_with fail
        go_roundg (n - (i + 1))
        case measure => omega
        case rel => exact ⟨i + 1, S, T, A, by omega, by go_num, by omega, rfl, rfl, hDA.mono (by omega) (fun x h _ => h.1), HS.out, hl, by omega, hkwA⟩
      · have HR := Lib.hid (did_any o _ hDA hokA (by have := hfo.2.1; omega) (by omega) (by omega) hl (by omega))
        obtain ⟨gb, hgb⟩ : ∃ gb, wr.heap.size = gb := ⟨_, rfl⟩
        rw [hgb] at hB
        have HGB := Lib.hid hgb
        clear hDA hokA
        obtain ⟨kd, nm, dt, k, B, m, cc, zs⟩ := o
        have hok2 : k ≤ 9223372036854775807 := hok.k.2
        go_wp2_with fail
        refine HR.out.mono ?_
        rintro e w5 ⟨r, A', rfl, hdid, hl5⟩
        unfold oneAns
        have h5 : Drv w5 d A' (i + 1) (fun x => w.heap.size ≤ x) := hl5.1.mono (Nat.le_refl _) fun x hx _ => by
          have h9 := hkwA.size
          rcases hx with hx | hx
          · exact hx.1
          · exact Nat.le_trans h9 hx
        have hk5 : Kp [] w w5 := hl5.2.base hkwA fun x hx => hx.1
        have hB5 := hB.kx hl5.2 (fun hx => by have := HGB.out; have := hx.2; omega)
        have q0 := hB5.cell 0
        have q1 := hB5.cell 1
        have HDID := Lib.hid hdid
        have HSM := Lib.hid (did_small hdid hl hok2)
        clear hdid hl5 hB c0 c1 c2 c3 c4 hB5 hkwA hkA HR
        by_cases k2 : kd = 2
        · subst k2
          by_cases en : nm = name
          · subst en
            by_cases r0 : r = 0
            · subst r0
              have HN := Lib.hid (SureI.synced HDID.out rfl rfl)
              go_wp2_with fail
              refine (drv_read nm h5 hname).mono ?_
              rintro e w6 ⟨rfl, k6⟩
              obtain ⟨S', hS'⟩ : ∃ S', A'.read nm = S' := ⟨_, rfl⟩
              obtain ⟨T', hT'⟩ : ∃ T', A'.has nm = T' := ⟨_, rfl⟩
              have HN2 : Hid (SureI A' nm S' T') := Lib.hid (by rw [← hS', ← hT']; exact HN.out)
              rw [hS', hT']
              clear hS' hT'
              go_wp2_with fail
              go_roundg (n - (i + 1))
              case measure => omega
              case rel => exact ⟨i + 1, S', T', A', by omega, by go_num, by omega, rfl, rfl, h5.kp k6, HN2.out, HSM.out.1, by have := HSM.out.2; omega, hk5.trans k6⟩
            · have r1 : (r == 0) = false := by rw [beq_eq_false_iff_ne]; exact r0
              go_wp2_with fail
              go_roundg (n - (i + 1))
              case measure => omega
              case rel => exact ⟨i + 1, S, T, A', by omega, by go_num, by omega, rfl, rfl, h5, HS.out.did HDID.out (by show (2 : Int) < 6; omega) (fun h => absurd (show (2 : Int) = 3 from h.1) (by decide)), HSM.out.1, by have := HSM.out.2; omega, hk5⟩
          · have e1 := toList_ne en
            go_wp2_with fail
            go_roundg (n - (i + 1))
            case measure => omega
            case rel => exact ⟨i + 1, S, T, A', by omega, by go_num, by omega, rfl, rfl, h5, HS.out.did HDID.out (by show (2 : Int) < 6; omega) (fun h => absurd (show (2 : Int) = 3 from h.1) (by decide)), HSM.out.1, by have := HSM.out.2; omega, hk5⟩
        by_cases k3 : kd = 3
        · subst k3
          by_cases en : nm = name
          · subst en
            by_cases r0 : r = 0
            · subst r0
              go_wp2_with fail
              go_roundg (n - (i + 1))
              case measure => omega
              case rel => exact ⟨i + 1, ⟨#[]⟩, false, A', by omega, by go_num, by omega, rfl, rfl, h5, SureI.none _ _ _, HSM.out.1, by have := HSM.out.2; omega, hk5⟩
            · have r1 : (r == 0) = false := by rw [beq_eq_false_iff_ne]; exact r0
              go_wp2_with fail
              go_roundg (n - (i + 1))
              case measure => omega
              case rel => exact ⟨i + 1, S, T, A', by omega, by go_num, by omega, rfl, rfl, h5, HS.out.did HDID.out (by show (3 : Int) < 6; omega) (fun h => r0 h.2.2), HSM.out.1, by have := HSM.out.2; omega, hk5⟩
          · have e1 := toList_ne en
            go_wp2_with fail
            go_roundg (n - (i + 1))
            case measure => omega
            case rel => exact ⟨i + 1, S, T, A', by omega, by go_num, by omega, rfl, rfl, h5, HS.out.did HDID.out (by show (3 : Int) < 6; omega) (fun h => en h.2.1), HSM.out.1, by have := HSM.out.2; omega, hk5⟩
        have f2 : (kd == 2) = false := by rw [beq_eq_false_iff_ne]; exact k2
        have f3 : (kd == 3) = false := by rw [beq_eq_false_iff_ne]; exact k3
        have HK3 := Lib.hid k3
        have h6' : kd < 6 := h6
        clear k2 k3
        go_wp2_with fail
        go_roundg (n - (i + 1))
        case measure => omega
        case rel => exact ⟨i + 1, S, T, A', by omega, by go_num, by omega, rfl, rfl, h5, HS.out.did HDID.out (h6') (fun h => HK3.out h.1), HSM.out.1, by have := HSM.out.2; omega, hk5⟩
    · obtain rfl : i = n := by omega
      have hkL2 := hkL.kp hkr (by simp)
      go_wp2_with (at_builtin; go_must (refine wpl_copy_int2 wr rfl _ _ rfl B0 kn kc ks rfl rfl hkL2 (by omega) ?_); intro A2 c2 w2 hv1 hvm hv2 hv3 hk2)
      refine (drv_crash A2 kn c2 ks ((hD.mono (Q := fun x => w.heap.size ≤ x ∧ x < wr.heap.size) (Nat.le_refl _) fun x h1 h2 => ⟨h1, h2⟩).kp hk2) (by omega) hv2 hv1 hvm (fun _ ad e hp => by have := hv3 ad e; have := hp.2; omega)).mono ?_
      rintro e w5 ⟨rfl, A', hA', hl5⟩
      have h5 : Drv w5 d A' i (fun x => w.heap.size ≤ x) := hl5.1.mono (Nat.le_refl _) fun x hx _ => by
        have h8 := hkr.size
        have h9 := hk2.size
        rcases hx with hx | hx
        · exact hx.1
        · omega
      have hk5 : Kp [] w w5 := hl5.2.base (hkr.trans hk2) fun x hx => hx.1
      have hdn := crash_down hA'
      have HS5 := Lib.hid (HS.out.crash hA')
      clear hl5 hA' hD hk2 hv2 hkL2
      go_wp2_with fail
      refine (drv_read name h5 hname).mono ?_
      rintro e w6 ⟨rfl, k6⟩
      have h6 := h5.kp k6
      have hk6 := hk5.trans k6
      obtain ⟨S', hS'⟩ : ∃ S', A'.read name = S' := ⟨_, rfl⟩
      obtain ⟨T', hT'⟩ : ∃ T', A'.has name = T' := ⟨_, rfl⟩
      have HL : Hid (T = true → T' = true ∧ S.size ≤ S'.size ∧ S'.extract 0 S.size = S) := Lib.hid fun hT => by rw [← hS', ← hT']; exact HS5.out.last hdn hT
      rw [hS', hT']
      clear hS' hT' h5 hk5 k6
      go_wp2_with fail
      refine (drv_down h6).mono ?_
      rintro e w7 ⟨rfl, rfl⟩
      rw [hdn]
      cases T
      · go_wp2_with fail
        go_ret
        exact ⟨rfl, hk6⟩
      · obtain ⟨t1, t2, t3⟩ := HL.out rfl
        subst t1
        have t4 : (S.size : Int) ≤ (S'.size : Int) := by omega
        clear HL
        go_wp2_with fail
        go_ret
        exact ⟨rfl, hk6⟩
end Go.Proofs.Ytnmogfjbbibeiaa
