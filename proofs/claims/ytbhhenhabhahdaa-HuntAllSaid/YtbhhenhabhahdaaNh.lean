/- Package hunt: HuntAll. -/
import Derived.Test.YtbhhenhabhahdaaNg
namespace Go.Proofs.Ytbhhenhabhahdaa
set_option maxRecDepth 100000
open Go.RowKit Go.Maps Go.WideMaps Go.WideElems Go.ChangeMaps
set_option linter.unusedVariables false

theorem modn (a : Int) (n : Nat) (h0 : 0 < n) (hn : n ≤ 1000) : ∃ k : Nat, wrap64 ((IntKind.u64.wrap a).tmod (n : Int)) = (k : Int) ∧ k < n := by
  obtain ⟨u, hu⟩ : ∃ u : Nat, IntKind.u64.wrap a = u := by
    rw [IntKind.wrap_u64]
    exact ⟨(a % 18446744073709551616).toNat, by omega⟩
  rw [hu]
  have e : (u : Int).tmod (n : Int) = ((u % n : Nat) : Int) := by rw [Int.tmod_eq_emod_of_nonneg (by omega)]; push_cast; rfl
  have hlt : u % n < n := Nat.mod_lt _ h0
  rw [e]
  exact ⟨u % n, IntWalk.wrap64_in _ ⟨by omega, by omega⟩, hlt⟩
theorem set6R (f : Nat → Bool) {p : Nat} (hp : p < 6) : R6 (.agg #[([Value.bool (f 0), .bool (f 1), .bool (f 2), .bool (f 3), .bool (f 4), .bool (f 5)].set p (.bool true))[0]'(by simp), ([Value.bool (f 0), .bool (f 1), .bool (f 2), .bool (f 3), .bool (f 4), .bool (f 5)].set p (.bool true))[1]'(by simp), ([Value.bool (f 0), .bool (f 1), .bool (f 2), .bool (f 3), .bool (f 4), .bool (f 5)].set p (.bool true))[2]'(by simp), ([Value.bool (f 0), .bool (f 1), .bool (f 2), .bool (f 3), .bool (f 4), .bool (f 5)].set p (.bool true))[3]'(by simp), ([Value.bool (f 0), .bool (f 1), .bool (f 2), .bool (f 3), .bool (f 4), .bool (f 5)].set p (.bool true))[4]'(by simp), ([Value.bool (f 0), .bool (f 1), .bool (f 2), .bool (f 3), .bool (f 4), .bool (f 5)].set p (.bool true))[5]'(by simp)]) = some (d6 (up f p), []) := by
  match p, hp with
  | 0, _ => rfl
  | 1, _ => rfl
  | 2, _ => rfl
  | 3, _ => rfl
  | 4, _ => rfl
  | 5, _ => rfl
/-- All that was asked in the ticks from T on, j of them. -/
def Asked (D : DataW Unit) (ss : List ByteArray) (me T j : Nat) : Prop := ∀ t, T ≤ t → t < T + j → ∀ s ∈ tickL t ss, askedBy D s ((me + 1 + t % 5) % 6)
theorem Asked.put {D : DataW Unit} {ss : List ByteArray} {me T j : Nat} (h : Asked D ss me T j) (hD : IsMap D) {s : ByteArray} {f : Nat → Bool} {n : Nat} (hf : D.atKey (kl s) (d6 no6) = d6 f) : Asked (D.put (kl s) (d6 (up f n))) ss me T j :=
  fun t h1 h2 s' hs' => asked_put_mono hD hf (Nat.mod_lt _ (by omega)) (h t h1 h2 s' hs')
theorem tickL_len (t : Nat) (ss : List ByteArray) : (tickL t ss).length ≤ 4 := by unfold tickL; simp; omega
theorem tickL_pos {t : Nat} {ss : List ByteArray} (h : 0 < ss.length) : 0 < (tickL t ss).length := by
  unfold tickL
  have : t / 5 % ((ss.length + 3) / 4) < (ss.length + 3) / 4 := Nat.mod_lt _ (by omega)
  simp
  omega
theorem Asked.all {D : DataW Unit} {ss : List ByteArray} {me T : Nat} (h : Asked D ss me T (5 * ((ss.length + 3) / 4))) (hme : me ≤ 5) {i : Nat} {s : ByteArray} (hs : ss[i]? = some s) {n : Nat} (hn : n < 6) (hne : n ≠ me) : askedBy D s n := by
  have hi : i < ss.length := (List.getElem?_eq_some_iff.1 hs).1
  obtain ⟨y, hy, hyn⟩ : ∃ y, y < 5 ∧ (me + 1 + y) % 6 = n := ⟨(n + 5 - me) % 6, by omega, by omega⟩
  obtain ⟨t, h1, h2, h3, h4⟩ := tick_met T ((ss.length + 3) / 4) (i / 4) y (by omega) hy
  have := h t h1 h2 s (by
    unfold tickL
    rw [h4]
    refine List.mem_iff_getElem?.2 ⟨i % 4, ?_⟩
    rw [List.getElem?_take, if_pos (by omega), List.getElem?_drop, show i / 4 * 4 + i % 4 = i by omega]
    exact hs)
  rw [h3, hyn] at this
  exact this
set_option maxHeartbeats 16000000 in
theorem hall_walk (v0 v1 v2 : Value) (w : World) (i0 : In w 3 v0) (i1 : In w 3 v1) (i2 : In w 22 v2) : Calls Try.prog 3 #[v0, v1, v2] w (Yes w) := by
  obtain ⟨me0, rfl, _⟩ := in_int Try.underlying3 i0
  obtain ⟨T0, rfl, _⟩ := in_int Try.underlying3 i1
  obtain ⟨A, n, c, ss, rfl, hn, hc, hL, hsz⟩ := in_strs i2
  have hnm : n ≤ maxLen := Nat.le_trans hn hc
  have hlen : ss.length = n := by have := hL.1; simpa using this
  have HLN := Lib.hid hlen
  have HSZ := Lib.hid hsz
  have hmm := @run_makeMap Try.prog
  obtain ⟨me, hme, hme6⟩ := modn me0 6 (by omega) (by omega)
  obtain ⟨T, hT, hT2⟩ := modn T0 200 (by omega) (by omega)
  have hme : wrap64 ((IntKind.u64.wrap me0).tmod 6) = (me : Int) := hme
  have hT : wrap64 ((IntKind.u64.wrap T0).tmod 200) = (T : Int) := hT
  clear i0 i1 i2 hlen hsz
  go_enter Try.func3, Try.ntmps3
  go_wp2_with fail
  refine (hnew_any me w).mono ?_
  rintro e w1 (⟨_, rfl, ha, hk⟩ | ⟨h, _⟩)
  rotate_left
  · exact absurd (by omega) h
  obtain ⟨g, hg⟩ : ∃ g, w.heap.size = g := ⟨_, rfl⟩
  have hwg : w.heap.size ≤ g := by omega
  rw [hg] at ha ⊢
  have HG := Lib.hid hwg
  clear hg hwg
  go_wp2_with fail
  refine (hawake_any w1).mono ?_
  rintro e w2 ⟨rfl, hk2⟩
  have a2 := ha.kp hk2 (by simp)
  have hkw := hk.trans hk2
  have hL2 := hL.kp hkw (by simp)
  clear ha hk hk2
  by_cases hbig : (100 : Int) < (n : Int)
  · go_wp2_with fail
    refine (hawake_any w2).mono ?_
    rintro e w3 ⟨rfl, hk3⟩
    go_wp2_with fail
    go_ret
    exact ⟨rfl, hkw.trans hk3⟩
  go_wp2_with fail
  refine (many_any A n c ss w2 hL2 hnm).mono ?_
  rintro e w3 ⟨⟨b, rfl, hb4⟩, rfl⟩
  cases b
  rotate_left
  · go_wp2_with fail
    refine (hawake_any w2).mono ?_
    rintro e w3 ⟨rfl, hk3⟩
    go_wp2_with fail
    go_ret
    exact ⟨rfl, hkw.trans hk3⟩
  clear hb4 hL2
  go_wp2_with fail
  go_loopg [49] T (fun gk i wr => ∃ m : Nat, T - m ≤ gk ∧ i = .int .i64 m ∧ m ≤ T ∧ At wr g 36 #[.int .i64 me, .int .i64 m] ∧ Kp [] w wr)
  case atStart => exact ⟨0, by omega, rfl, Nat.zero_le _, a2, hkw⟩
  case round =>
    obtain ⟨m, hgk, rfl, hm, har, hkr⟩ := hrel
    clear a2 hkw
    by_cases hlt : m < T
    · have b2 : (m : Int) < (T : Int) := by omega
      go_wp2_with fail
      refine (htick_any g me m none 0 0 [] wr har (by omega) (by omega) Ls.nil_ (by simp) (by omega) (by omega)).mono ?_
      rintro e w4 ⟨A4, k4, c4, rfl, -, -, -, a4, hk4⟩
      go_wp2_with fail
      go_roundg (T - (m + 1))
      case measure => omega
      case rel => exact ⟨m + 1, by omega, by go_num, by omega, a4, hkr.then hk4 (by simp; have := HG.out; omega)⟩
    · obtain rfl : m = T := by omega
      have hLr := hL.kp hkr (by simp)
      have k5 : Kp [] wr (wr.alloc (.map #[] 0)) := (Kp.rfl_ [] wr).alloc _
      have o5 := World.ownsMap_made wr Try.prog 9 R6
      have a5 := har.kp k5 (by simp)
      have hkw5 := hkr.trans k5
      have hgb := har.lt
      obtain ⟨b, hb⟩ : ∃ b, wr.heap.size = b := ⟨_, rfl⟩
      obtain ⟨r, hr⟩ : ∃ r, (n + 3) / 4 = r := ⟨_, rfl⟩
      have HR := Lib.hid hr
      have f1 : ((n : Int) + 3).tdiv 4 = (r : Int) := by rw [Int.tdiv_eq_ediv_of_nonneg (by omega)]; omega
      have hr25 : r ≤ 25 := by omega
      rw [hb] at o5 hgb
      clear hr har k5 hkr
      go_wp2_with fail
      generalize wr.alloc (.map #[] 0) = w5 at *
      have hwb : w.heap.size ≤ b := by have := HG.out; omega
      go_loopg [60] (5 * r) (fun gk i wr => ∃ (j : Nat) (D : DataW Unit), 5 * r - j ≤ gk ∧ i = .int .i64 j ∧ j ≤ 5 * r ∧ At wr g 36 #[.int .i64 me, .int .i64 (m + j : Nat)] ∧ Kp [] w wr ∧ wr.ownsMap Try.prog 9 R6 b (4 * j) D ∧ Asked D ss me m j)
      case atStart => exact ⟨0, _, by omega, rfl, Nat.zero_le _, a5, hkw5, o5, fun t h1 h2 => by omega⟩
      case round =>
        obtain ⟨j, D, hgk, rfl, hj, har, hkr, hom, hask⟩ := hrel
        clear a5 hkw5 o5
        have HASK := Lib.hid hask
        clear hask
        by_cases hlt : j < 5 * r
        · have b2 : (j : Int) < 5 * (r : Int) := by omega
          have hLr := hL.kp hkr (by simp)
          have hn0 : 0 < n := by have := HR.out; omega
          have hgl := har.lt
          have hbl := hom.lt
          go_wp2_with (at_builtin; go_must (refine wpl_copy_str wr rfl _ _ rfl A n c ss rfl rfl hLr (by omega) ?_); intro v3 w3 hown3 hk3; obtain ⟨A3, c3, rfl, hL3, hb3, hc3, hm3⟩ := own_open hown3)
          have a3 := har.kp hk3 (by simp)
          have o3 := om_kp hom hk3 (by simp)
          refine (htick_any g me (m + j) A3 n c3 ss w3 a3 (by omega) (by omega) hL3 (fun _ ad e e2 => by have := hb3 ad e; omega) hc3 (by omega)).mono ?_
          rintro e w4 ⟨A4, k4, c4, rfl, hkc4, hcm4, hL4, a4, hk4⟩
          have o4 := om_kp o3 hk4 (by simp; omega)
          have hkw4 : Kp [] w w4 := (hkr.trans hk3).then hk4 (by simp; have := HG.out; omega)
          have hk4l : k4 = (tickL (m + j) ss).length := by have := hL4.1; simpa using this.symm
          have hk40 : 0 < k4 := by rw [hk4l]; exact tickL_pos (by rw [HLN.out]; exact hn0)
          have hk44 : k4 ≤ 4 := by rw [hk4l]; exact tickL_len _ _
          obtain ⟨p, hp⟩ : ∃ p, (me + 1 + (m + j) % 5) % 6 = p := ⟨_, rfl⟩
          have hto : tickTo me (m + j) ss = (p : Int) := by
            have hne : ss ≠ [] := fun e => by have := HLN.out; rw [e] at this; simp at this; omega
            unfold tickTo
            rw [if_neg hne, hp]
          have hp6 : p < 6 := by omega
          have hpme : ((p : Int) == (me : Int)) = false := by rw [beq_eq_false_iff_ne]; omega
          rw [hto]
          have HP := Lib.hid hp
          have HK4 := Lib.hid hk4l
          have hx4 : ∀ ad, A4 = some ad → ad.block ≠ b := ls_ne_map o4 hL4 hk40
          clear hp hto hk4l a3 o3 hL3 hown3 hk3 hk4 har hom hLr hgl hbl hkr
          go_wp2_with fail
          go_loopg [93] k4 (fun gk i wr => ∃ (x : Nat) (D : DataW Unit), k4 - x ≤ gk ∧ i = .int .i64 x ∧ x ≤ k4 ∧ At wr g 36 #[.int .i64 me, .int .i64 (m + j + 1 : Nat)] ∧ Kp [] w wr ∧ Ls wr A4 k4 ((tickL (m + j) ss).map Value.string) ∧ wr.ownsMap Try.prog 9 R6 b (4 * j + x) D ∧ Asked D ss me m j ∧ ∀ i s, i < x → (tickL (m + j) ss)[i]? = some s → askedBy D s p)
          case atStart => exact ⟨0, D, by omega, rfl, Nat.zero_le _, a4, hkw4, hL4, o4, HASK.out, fun i s h => by omega⟩
          case round =>
            obtain ⟨x, D, hgk2, rfl, hx, har, hkr, hLr, hom, hask, hpre⟩ := hrel
            clear a4 hkw4 hL4 o4 HASK
            have HASK := Lib.hid hask
            have HPRE := Lib.hid hpre
            clear hask hpre
            by_cases hlx : x < k4
            · have b3 : (x : Int) < (k4 : Int) := by omega
              obtain ⟨ad, s, rfl, hs, hcs⟩ := hLr.str_at hlx
              have hss : s.size ≤ maxLen := HSZ.out s (by
                have h1 := List.mem_of_getElem? hs
                unfold tickL at h1
                exact List.mem_of_mem_drop (List.mem_of_mem_take h1))
              obtain ⟨v, ps, hrun0, hv⟩ := hom.lookup (t := 32) (e := 33) skey Try.underlying32 (zero6 wr) (R6_b6 no6) (skey_of hss)
              obtain ⟨f, rfl, hf⟩ := R6_inv hv
              have hrun : (Instr.lookup 32 (.map (some b)) (.string s) false).run Try.prog wr = .ok (.agg #[.bool (f 0), .bool (f 1), .bool (f 2), .bool (f 3), .bool (f 4), .bool (f 5)]) wr := hrun0
              have HF := Lib.hid hf
              have HS := Lib.hid hs
              clear hrun0 hv hf hs
              go_wp2_with (at_mapUpdate; go_must (refine wpList_mapUpdate_own _ rfl _ _ _ 32 rfl 9 33 skey Try.underlying32 R6 b (4 * j + x) D rfl (hom.alloc _) (by unfold maxLen; omega) _ _ (kl s) rfl rfl (skey_of hss) (d6 (up f p)) [] (set6R f hp6) ?_); intro w7 o7 hg7)
              have k67 := Kp.of_grown (S := [b]) hg7 (fun k hk _ => by injection hk with hk; simp [hk])
              have k7 : Kp [b] wr w7 := ((Kp.rfl_ [b] wr).alloc _).trans k67
              have a7 := har.kp k7 (by simp; omega)
              have hkw7 : Kp [] w w7 := hkr.then k7 (by simp; omega)
              have L7 := hLr.kp k7 (fun _ ad' e hm => hx4 ad' e (by simpa using hm))
              go_roundg (k4 - (x + 1))
              case measure => omega
              case rel => exact ⟨x + 1, _, by omega, by go_num, by omega, a7, hkw7, L7, o7, HASK.out.put hom.isMap HF.out, fun i s' hi hs' => by
                rcases Nat.lt_or_ge i x with h | h
                · exact asked_put_mono hom.isMap HF.out hp6 (HPRE.out i s' h hs')
                · obtain rfl : i = x := by omega
                  have hss' := HS.out.symm.trans hs'
                  injection hss' with hss'
                  rw [← hss']
                  exact asked_put_same hom.isMap s f p⟩
            · go_wp2_with fail
              go_roundg (5 * r - (j + 1))
              case measure => omega
              case rel => exact ⟨j + 1, D, by omega, by go_num, by omega, har, hkr, hom.mono (by omega), fun t h1 h2 s hs => by
                rcases Nat.lt_or_ge t (m + j) with h | h
                · exact HASK.out t h1 h s hs
                · obtain rfl : t = m + j := by omega
                  obtain ⟨i, hi⟩ := List.mem_iff_getElem?.1 hs
                  have hil := (List.getElem?_eq_some_iff.1 hi).1
                  rw [HP.out]
                  exact HPRE.out i s (by have := HK4.out; omega) hi⟩
        · obtain rfl : j = 5 * r := by omega
          clear har
          go_wp2_with fail
          go_loopg [109] n (fun gk i wr => ∃ x : Nat, n - x ≤ gk ∧ i = .int .i64 x ∧ x ≤ n ∧ Kp [] w wr ∧ wr.ownsMap Try.prog 9 R6 b (4 * (5 * r)) D)
          case atStart => exact ⟨0, by omega, rfl, Nat.zero_le _, hkr, hom⟩
          case round =>
            obtain ⟨x, hgk2, rfl, hx, hkr2, hom2⟩ := hrel
            clear hkr hom
            by_cases hlx : x < n
            · have b3 : (x : Int) < (n : Int) := by omega
              have hLr := hL.kp hkr2 (by simp)
              have HL := Lib.hid hL
              clear hL
              obtain ⟨ad, s, rfl, hs, hcs⟩ := hLr.str_at hlx
              have hss : s.size ≤ maxLen := HSZ.out s (List.mem_of_getElem? hs)
              obtain ⟨v, ps, hrun0, hv⟩ := hom2.lookup (t := 32) (e := 33) skey Try.underlying32 (zero6 wr) (R6_b6 no6) (skey_of hss)
              obtain ⟨f, rfl, hf⟩ := R6_inv hv
              have hrun : (Instr.lookup 32 (.map (some b)) (.string s) false).run Try.prog wr = .ok (.agg #[.bool (f 0), .bool (f 1), .bool (f 2), .bool (f 3), .bool (f 4), .bool (f 5)]) wr := hrun0
              have HFA : Hid (∀ q, q < 6 → q ≠ me → f q = true) := Lib.hid fun q hq hqm => by
                obtain ⟨g', hg', hgt⟩ := Asked.all (by rw [HLN.out, HR.out]; exact HASK.out) (by omega) hs hq hqm
                rw [d6_inj (hf.symm.trans hg') hq]
                exact hgt
              have k8 : Kp [] wr (wr.alloc (.cells (c6 f) 33)) := (Kp.rfl_ [] wr).alloc _
              have a8 : At (wr.alloc (.cells (c6 f) 33)) wr.heap.size 33 (c6 f) := At.new wr _ _
              have hkw8 := hkr2.trans k8
              have o8 := om_kp hom2 k8 (by simp)
              obtain ⟨gw, hgw⟩ : ∃ gw, wr.heap.size = gw := ⟨_, rfl⟩
              rw [hgw] at a8
              unfold c6 at a8 hkw8 o8
              clear hrun0 hv hf hs k8 hkr2
              go_wp2_with fail
              generalize wr.alloc (.cells #[.bool (f 0), .bool (f 1), .bool (f 2), .bool (f 3), .bool (f 4), .bool (f 5)] 33) = w8 at *
              go_loopg [116] 6 (fun gk i wr => ∃ q : Nat, 6 - q ≤ gk ∧ i = .int .i64 q ∧ q ≤ 6 ∧ w8 = wr)
              case atStart => exact ⟨0, by omega, rfl, by omega, rfl⟩
              case round =>
                obtain ⟨q, hgk3, rfl, hq, rfl⟩ := hrel
                by_cases hq6 : q < 6
                · have b4 : (q : Int) < 6 := by omega
                  have hcq : w8.cell? ⟨gw, q, none⟩ = some (.bool (f q)) := (a8.cell q).trans (c6_get f hq6)
                  by_cases hqm : q = me
                  · have hqe : ((q : Int) == (me : Int)) = true := by rw [beq_iff_eq]; omega
                    have hqe2 : ((q : Int) != (me : Int)) = false := by rw [bne, hqe]; rfl
                    go_wp2_with fail
                    go_roundg (6 - (q + 1))
                    case measure => omega
                    case rel => exact ⟨q + 1, by omega, by go_num, by omega, rfl⟩
                  · have hqe : ((q : Int) == (me : Int)) = false := by rw [beq_eq_false_iff_ne]; omega
                    have hqe2 : ((q : Int) != (me : Int)) = true := by rw [bne, hqe]; rfl
                    rw [HFA.out q hq6 hqm] at hcq
                    go_wp2_with fail
                    go_roundg (6 - (q + 1))
                    case measure => omega
                    case rel => exact ⟨q + 1, by omega, by go_num, by omega, rfl⟩
                · go_wp2_with fail
                  go_roundg (n - (x + 1))
                  case measure => omega
                  case rel => exact ⟨x + 1, by omega, by go_num, by omega, hkw8, o8⟩
            · go_wp2_with fail
              go_ret
              exact ⟨rfl, hkr2⟩
end Go.Proofs.Ytbhhenhabhahdaa
