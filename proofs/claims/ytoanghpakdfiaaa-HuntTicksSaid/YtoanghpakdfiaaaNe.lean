/- The document's Tick (hunt). -/
import Derived.Test.YtoanghpakdfiaaaNd
namespace Go.Proofs.Ytoanghpakdfiaaa
set_option maxRecDepth 100000
open Go.RowKit
set_option linter.unusedVariables false

theorem own_at {w : World} {base g n c size : Nat} {e : TypeId} {xs : List Value} (h : w.ownsRow base e size (.slice (some ⟨g, 0, none⟩) n c) n xs) : ∃ cur, At w g e cur := by
  rcases h.2 with ⟨h2, _⟩ | ⟨g', cap, cur, hv, hb, hg, _⟩
  · cases h2
  · injection hv with e1
    injection e1 with e1
    injection e1 with e1
    subst e1
    exact ⟨cur, hg⟩
theorem RW.v8 {base : Nat} {w : World} {v8 lv : Value} {es : List (Value × List ByteArray)} {ll : List ByteArray} (h : RW base w v8 es lv ll) : ∃ g8 c8, v8 = .slice (some ⟨g8, 0, none⟩) (es.length + 1) c8 := by
  rcases own_cases h.own8 with ⟨_, h1, _⟩ | ⟨g, c, h1, _⟩
  · omega
  · exact ⟨g, c, h1⟩
theorem RW.cell {base : Nat} {w : World} {g8 c8 : Nat} {lv : Value} {es : List (Value × List ByteArray)} {ll : List ByteArray} (h : RW base w (.slice (some ⟨g8, 0, none⟩) (es.length + 1) c8) es lv ll) {i : Nat} (hi : i < es.length + 1) : w.cell? ⟨g8, i, none⟩ = (es.map Prod.fst ++ [lv])[i]? := World.ownsRow.cellAt h.own8 i (by omega)
theorem RW.last {base : Nat} {w : World} {g8 c8 : Nat} {lv : Value} {es : List (Value × List ByteArray)} {ll : List ByteArray} (h : RW base w (.slice (some ⟨g8, 0, none⟩) (es.length + 1) c8) es lv ll) : w.cell? ⟨g8, es.length, none⟩ = some lv := by
  rw [h.cell (by omega), List.getElem?_append_right (by simp)]
  simp
theorem RW.at_ {base n : Nat} {w : World} {g8 c8 : Nat} {lv : Value} {ss : List ByteArray} {es : List (Value × List ByteArray)} {ll : List ByteArray} (h : RW base w (.slice (some ⟨g8, 0, none⟩) (es.length + 1) c8) es lv ll) (hs : Spc ss n es ll) (hn : ss.length = n) (h4 : ll.length ≤ 4) {i : Nat} (hi : i ≤ es.length) :
    ∃ A' k c', w.cell? ⟨g8, i, none⟩ = some (.slice A' k c') ∧ k ≤ c' ∧ c' ≤ maxLen ∧ Ls w A' k (((ss.drop (i * 4)).take 4).map Value.string) := by
  rw [h.cell (by omega)]
  rcases Nat.lt_or_ge i es.length with hlt | hge
  · obtain ⟨p, hp⟩ : ∃ p, es[i]? = some p := ⟨_, List.getElem?_eq_getElem hlt⟩
    obtain ⟨A, c, h1, h2, h3, hL, _⟩ := h.each p (List.mem_of_getElem? hp)
    refine ⟨A, p.2.length, c, ?_, h2, h3, ?_⟩
    · rw [List.getElem?_append_left (by simpa using hlt), List.getElem?_map, hp, ← h1]
      rfl
    · rw [← hs.1 i p hp]
      exact hL
  · obtain rfl : i = es.length := by omega
    obtain ⟨A, c, hlv, hL, hb, hc, hm⟩ := own_open h.ownl
    refine ⟨A, ll.length, c, ?_, hc, hm, ?_⟩
    · rw [List.getElem?_append_right (by simp), ← hlv]
      simp
    · have h3 := hs.2.2
      rw [show (ss.drop (es.length * 4)).take 4 = ll by rw [hs.2.1, List.take_of_length_le (l := ss) (by omega), List.take_of_length_le (by simp; omega)]]
      exact hL
def RTicked (w : World) (me t : Nat) (ss : List ByteArray) (e : Ending) (w' : World) : Prop :=
  ∃ A' k c', e = .returned (.tuple #[.int .i64 (tickTo me t ss), .slice A' k c']) ∧ k ≤ c' ∧ c' ≤ maxLen ∧ Ls w' A' k ((tickL t ss).map Value.string) ∧ Kp [] w w'
theorem RTicked.ret {w : World} {me t : Nat} {ss : List ByteArray} (e : Ending) (w' : World) (h : RTicked w me t ss e w') : ∃ v, e = .returned v := by
  obtain ⟨_, _, _, h, _⟩ := h
  exact ⟨_, h⟩
set_option maxHeartbeats 16000000 in
theorem rtick_any (me t : Nat) (A : Option Addr) (n c : Nat) (ss : List ByteArray) (w : World) (hme : me ≤ 5) (ht : t ≤ 1000000)
    (hL : Ls w A n (ss.map Value.string)) (hn : n ≤ 1000000) :
    Calls Try.prog 9 #[.int .i64 me, .int .i64 t, .slice A n c] w (RTicked w me t ss) := by
  have hlen : ss.length = n := by have := hL.1; simpa using this
  have HLN := Lib.hid hlen
  go_enter Try.func9, Try.ntmps9
  by_cases h0 : n = 0
  · subst h0
    have hss : ss = [] := List.eq_nil_of_length_eq_zero hlen
    go_wp2_with fail
    go_ret2
    refine ⟨none, 0, 0, by rw [hss]; rfl, Nat.le_refl _, by unfold maxLen; omega, by rw [hss, show tickL t [] = [] by unfold tickL; simp]; exact Ls.nil_, Kp.rfl_ _ _⟩
  clear hlen
  have hn0 : ((n : Int) == 0) = false := by simp; omega
  go_wp2_with fail
  go_loopg [8, 9] n (fun gk v i wr => ∃ m : Nat, n - m ≤ gk ∧ i = .int .i64 m ∧ m ≤ n ∧ Kp [] w wr ∧ ((m = 0 ∧ v = .slice none 0 0) ∨ ∃ es lv ll, RW w.heap.size wr v es lv ll ∧ Spc ss m es ll ∧ 1 ≤ ll.length ∧ ll.length ≤ 4))
  case atStart => exact ⟨0, by omega, rfl, Nat.zero_le _, Kp.rfl_ _ _, .inl ⟨rfl, rfl⟩⟩
  case round =>
    obtain ⟨m, hgk, rfl, hm, hkr, hst⟩ := hrel
    by_cases hlt : m < n
    · have b2 : (m : Int) < (n : Int) := by omega
      by_cases h4 : m % 4 = 0
      · have hmod : ((m : Int).tmod 4 == 0) = true := by rw [Int.tmod_eq_emod_of_nonneg (by omega)]; simp; omega
        rcases hst with ⟨hm0, rfl⟩ | ⟨es0, lv0, ll0, hR0, hS0, hl1, hl4⟩
        · have HM0 := Lib.hid hm0
          clear hm0
          obtain ⟨q, hq⟩ : ∃ q, 0 = q := ⟨_, rfl⟩
          have HQa : Hid (([] : List (Value × List ByteArray)).length = q) := Lib.hid hq
          clear hq
          go_wp2_with (at_builtin; go_must (refine wpl_one info_strs Try.underlying22 rfl (by omega) wr w.heap.size rfl _ _ rfl (.slice none 0 0) 0 [] (.slice none 0 0) rfl (own_none _ _ _) rfl rfl hkr.size (by omega) ?_); intro v8 w2 h8 hk8 hv8; have hR := RW.begin h8; obtain ⟨g8, c8, hv8s⟩ := hR.v8; rw [HQa.out] at hv8s; subst hv8s)
          have hS : Spc ss m [] [] := by rw [HM0.out]; exact Spc.zero ss
          clear HM0
          have hkw : Kp [] w w2 := hkr.then hk8 (by simp [Value.ownBlock])
          have hl3 : ([] : List ByteArray).length ≤ 3 := by simp
          obtain ⟨es, hes⟩ : ∃ es, ([] : List (Value × List ByteArray)) = es := ⟨_, rfl⟩
          obtain ⟨ll, hll⟩ : ∃ ll, ([] : List ByteArray) = ll := ⟨_, rfl⟩
          obtain ⟨lv, hlv⟩ : ∃ lv, Value.slice none 0 0 = lv := ⟨_, rfl⟩
          have hq := HQa.out
          rw [hes] at hq
          rw [hes, hll, hlv] at hR
          rw [hes] at hS
          rw [hll] at hS hl3
          skip
          clear hes hll hlv HQa
          rw [← hq] at hR
          have hd : Kp [] w2 w2.drew := (Kp.rfl_ [] w2).drew
          have hR2 := hR.kp hd
          have hkd := hkw.trans hd
          have hL2 := hL.kp hkd (by simp)
          obtain ⟨ad, z, rfl, hz, hcz⟩ := hL2.str_at hlt
          obtain ⟨cur, hat⟩ := own_at hR2.own8
          have c8l := hR2.last
          have hown := hR2.ownl
          have hg8b := own_block_lt hR2.own8 (g := g8) rfl
          obtain ⟨Al, cl, rfl, _⟩ := own_open hR2.ownl
          have hapl : ∀ x, (Value.slice Al ll.length cl).ownBlock = some x → x ≠ g8 := fun x hx e => hR2.apl x hx (by rw [e]; rfl)
          have HQ := Lib.hid hq
          obtain ⟨l, hl⟩ : ∃ l, ll.length = l := ⟨_, rfl⟩
          have HLL := Lib.hid hl
          have hql : q ≤ 1000000 := by have := hS.2.2; omega
          rw [hl] at hR2 hown hapl c8l hl3
          rw [hq] at c8l
          have HR := Lib.hid hR2
          have HS := Lib.hid hS
          have HZ := Lib.hid hz
          clear hR hR2 hS hq hl hz
          refine region_sq_l (by kernel_rfl) (by kernel_rfl) (calm_of (fun _ _ _ h => h.2) (fun _ _ h => h) RTicked.ret) ?_
          go_wp2_with (at_builtin; go_must (refine wpl_one info_string Try.underlying28 rfl (by omega) w2.drew w.heap.size rfl _ _ rfl (.slice Al l cl) l (ll.map Value.string) (.string z) rfl hown rfl rfl hkd.size (by omega) ?_); intro v6 w6 hown6 hk6 hv6; have hat6 := hat.kp hk6 (fun hm => hapl g8 (by simpa using hm) rfl); have f6 := hat6.frozen q; have e6 : w6.cell? ⟨g8, q, none⟩ = some (.slice Al l cl) := cell_kpS c8l hk6 (fun hm => hapl g8 (by simpa using hm) rfl); have hG := RW.grow HR.out (by rw [HLL.out]; exact hown6) hk6 hv6; have hkf : Kp [] w (w6.setCell ⟨g8, q, none⟩ v6) := (hkd.then hk6 (fun x hx hlt => by have := (own_block_lt hown (g := x) (by simpa using hx)).1; omega)).set (by simp; omega) _; rw [HQ.out] at hG; obtain ⟨A6, c6, rfl, _⟩ := own_open hown6)
          refine sqQ_end (by rfl) ?_
          go_wp2_with fail
          go_roundg (n - (m + 1))
          case measure => omega
          case rel => exact ⟨m + 1, by omega, by go_num, by omega, hkf, .inr ⟨es, _, _, hG, HS.out.grow HZ.out, by simp, by simp; have := HLL.out; omega⟩⟩
        · have hll0 : ll0.length = 4 := by have := hS0.2.2; omega
          have hes0 : es0.length ≤ 1000000 := by have := hS0.2.2; omega
          obtain ⟨g0, c0, rfl⟩ := hR0.v8
          have h80 := hR0.own8
          obtain ⟨q0, hq0⟩ : ∃ q, es0.length = q := ⟨_, rfl⟩
          have HQ0 := Lib.hid hq0
          rw [hq0] at h80 hes0 ⊢
          have HR0 := Lib.hid hR0
          have HS0 := Lib.hid hS0
          clear hR0 hS0 hq0
          obtain ⟨q, hq⟩ : ∃ q, q0 + 1 = q := ⟨_, rfl⟩
          have HQa : Hid ((es0 ++ [(lv0, ll0)]).length = q) := Lib.hid (by rw [List.length_append, HQ0.out]; exact hq)
          clear hq
          go_wp2_with (at_builtin; go_must (refine wpl_one info_strs Try.underlying22 rfl (by omega) wr w.heap.size rfl _ _ rfl (.slice (some ⟨g0, 0, none⟩) (q0 + 1) c0) (q0 + 1) (es0.map Prod.fst ++ [lv0]) (.slice none 0 0) rfl h80 rfl rfl hkr.size (by omega) ?_); intro v8 w2 h8 hk8 hv8; have hR := HR0.out.next (v8' := v8) (by rw [HQ0.out]; exact h8) (by rw [HQ0.out]; exact hk8) (by rw [HQ0.out]; exact hv8); obtain ⟨g8, c8, hv8s⟩ := hR.v8; rw [HQa.out] at hv8s; subst hv8s)
          have hS := HS0.out.next lv0 hll0
          have hkw : Kp [] w w2 := hkr.then hk8 (fun x hx hlt => by have := (own_block_lt h80 (g := x) (by simpa using hx)).1; omega)
          have hl3 : ([] : List ByteArray).length ≤ 3 := by simp
          obtain ⟨es, hes⟩ : ∃ es, (es0 ++ [(lv0, ll0)] : List (Value × List ByteArray)) = es := ⟨_, rfl⟩
          obtain ⟨ll, hll⟩ : ∃ ll, ([] : List ByteArray) = ll := ⟨_, rfl⟩
          obtain ⟨lv, hlv⟩ : ∃ lv, Value.slice none 0 0 = lv := ⟨_, rfl⟩
          have hq := HQa.out
          rw [hes] at hq
          rw [hes, hll, hlv] at hR
          rw [hes] at hS
          rw [hll] at hS hl3
          skip
          clear hes hll hlv HQa
          rw [← hq] at hR
          have hd : Kp [] w2 w2.drew := (Kp.rfl_ [] w2).drew
          have hR2 := hR.kp hd
          have hkd := hkw.trans hd
          have hL2 := hL.kp hkd (by simp)
          obtain ⟨ad, z, rfl, hz, hcz⟩ := hL2.str_at hlt
          obtain ⟨cur, hat⟩ := own_at hR2.own8
          have c8l := hR2.last
          have hown := hR2.ownl
          have hg8b := own_block_lt hR2.own8 (g := g8) rfl
          obtain ⟨Al, cl, rfl, _⟩ := own_open hR2.ownl
          have hapl : ∀ x, (Value.slice Al ll.length cl).ownBlock = some x → x ≠ g8 := fun x hx e => hR2.apl x hx (by rw [e]; rfl)
          have HQ := Lib.hid hq
          obtain ⟨l, hl⟩ : ∃ l, ll.length = l := ⟨_, rfl⟩
          have HLL := Lib.hid hl
          have hql : q ≤ 1000000 := by have := hS.2.2; omega
          rw [hl] at hR2 hown hapl c8l hl3
          rw [hq] at c8l
          have HR := Lib.hid hR2
          have HS := Lib.hid hS
          have HZ := Lib.hid hz
          clear hR hR2 hS hq hl hz
          refine region_sq_l (by kernel_rfl) (by kernel_rfl) (calm_of (fun _ _ _ h => h.2) (fun _ _ h => h) RTicked.ret) ?_
          go_wp2_with (at_builtin; go_must (refine wpl_one info_string Try.underlying28 rfl (by omega) w2.drew w.heap.size rfl _ _ rfl (.slice Al l cl) l (ll.map Value.string) (.string z) rfl hown rfl rfl hkd.size (by omega) ?_); intro v6 w6 hown6 hk6 hv6; have hat6 := hat.kp hk6 (fun hm => hapl g8 (by simpa using hm) rfl); have f6 := hat6.frozen q; have e6 : w6.cell? ⟨g8, q, none⟩ = some (.slice Al l cl) := cell_kpS c8l hk6 (fun hm => hapl g8 (by simpa using hm) rfl); have hG := RW.grow HR.out (by rw [HLL.out]; exact hown6) hk6 hv6; have hkf : Kp [] w (w6.setCell ⟨g8, q, none⟩ v6) := (hkd.then hk6 (fun x hx hlt => by have := (own_block_lt hown (g := x) (by simpa using hx)).1; omega)).set (by simp; omega) _; rw [HQ.out] at hG; obtain ⟨A6, c6, rfl, _⟩ := own_open hown6)
          refine sqQ_end (by rfl) ?_
          go_wp2_with fail
          go_roundg (n - (m + 1))
          case measure => omega
          case rel => exact ⟨m + 1, by omega, by go_num, by omega, hkf, .inr ⟨es, _, _, hG, HS.out.grow HZ.out, by simp, by simp; have := HLL.out; omega⟩⟩
      · have hmod : ((m : Int).tmod 4 == 0) = false := by rw [Int.tmod_eq_emod_of_nonneg (by omega)]; simp; omega
        rcases hst with ⟨hm0, rfl⟩ | ⟨es, lv, ll, hR, hS, hl1, hl4⟩
        · omega
        have hl3 : ll.length ≤ 3 := by have := hS.2.2; omega
        have hkw := hkr
        clear hl1 hl4
        obtain ⟨g8, c8, rfl⟩ := hR.v8
        go_wp2_with fail
        have hd : Kp [] wr wr.drew := (Kp.rfl_ [] wr).drew
        have hR2 := hR.kp hd
        have hkd := hkw.trans hd
        have hL2 := hL.kp hkd (by simp)
        obtain ⟨ad, z, rfl, hz, hcz⟩ := hL2.str_at hlt
        obtain ⟨cur, hat⟩ := own_at hR2.own8
        have c8l := hR2.last
        have hown := hR2.ownl
        have hg8b := own_block_lt hR2.own8 (g := g8) rfl
        obtain ⟨Al, cl, rfl, _⟩ := own_open hR2.ownl
        have hapl : ∀ x, (Value.slice Al ll.length cl).ownBlock = some x → x ≠ g8 := fun x hx e => hR2.apl x hx (by rw [e]; rfl)
        obtain ⟨q, hq⟩ : ∃ q, es.length = q := ⟨_, rfl⟩
        have HQ := Lib.hid hq
        obtain ⟨l, hl⟩ : ∃ l, ll.length = l := ⟨_, rfl⟩
        have HLL := Lib.hid hl
        have hql : q ≤ 1000000 := by have := hS.2.2; omega
        rw [hl] at hR2 hown hapl c8l hl3
        rw [hq] at c8l
        have HR := Lib.hid hR2
        have HS := Lib.hid hS
        have HZ := Lib.hid hz
        rw [hq]
        clear hR hR2 hS hq hl hz
        refine region_sq_l (by kernel_rfl) (by kernel_rfl) (calm_of (fun _ _ _ h => h.2) (fun _ _ h => h) RTicked.ret) ?_
        go_wp2_with (at_builtin; go_must (refine wpl_one info_string Try.underlying28 rfl (by omega) wr.drew w.heap.size rfl _ _ rfl (.slice Al l cl) l (ll.map Value.string) (.string z) rfl hown rfl rfl hkd.size (by omega) ?_); intro v6 w6 hown6 hk6 hv6; have hat6 := hat.kp hk6 (fun hm => hapl g8 (by simpa using hm) rfl); have f6 := hat6.frozen q; have e6 : w6.cell? ⟨g8, q, none⟩ = some (.slice Al l cl) := cell_kpS c8l hk6 (fun hm => hapl g8 (by simpa using hm) rfl); have hG := RW.grow HR.out (by rw [HLL.out]; exact hown6) hk6 hv6; have hkf : Kp [] w (w6.setCell ⟨g8, q, none⟩ v6) := (hkd.then hk6 (fun x hx hlt => by have := (own_block_lt hown (g := x) (by simpa using hx)).1; omega)).set (by simp; omega) _; rw [HQ.out] at hG; obtain ⟨A6, c6, rfl, _⟩ := own_open hown6)
        refine sqQ_end (by rfl) ?_
        go_wp2_with fail
        go_roundg (n - (m + 1))
        case measure => omega
        case rel => exact ⟨m + 1, by omega, by go_num, by omega, hkf, .inr ⟨es, _, _, hG, HS.out.grow HZ.out, by simp, by simp; have := HLL.out; omega⟩⟩
    · obtain rfl : m = n := by omega
      rcases hst with ⟨hm0, _⟩ | ⟨es, lv, ll, hR, hS, hl1, hl4⟩
      · exact absurd hm0 h0
      obtain ⟨g8, c8, rfl⟩ := hR.v8
      have h3 := hS.2.2
      have hd : Kp [] wr wr.drew := (Kp.rfl_ [] wr).drew
      have hR2 := hR.kp hd
      obtain ⟨q, hq⟩ : ∃ q, es.length = q := ⟨_, rfl⟩
      have HQ := Lib.hid hq
      obtain ⟨x, hx⟩ : ∃ x, t / 5 = x := ⟨_, rfl⟩
      obtain ⟨y, hy⟩ : ∃ y, x % (q + 1) = y := ⟨_, rfl⟩
      obtain ⟨d, hd5⟩ : ∃ d, t % 5 = d := ⟨_, rfl⟩
      obtain ⟨p, hp⟩ : ∃ p, (me + 1 + d) % 6 = p := ⟨_, rfl⟩
      have hyq : y < q + 1 := by rw [← hy]; exact Nat.mod_lt _ (by omega)
      have hrows : (m + 3) / 4 = q + 1 := by omega
      have hql : q ≤ 1000000 := by omega
      have hxl : x ≤ 1000000 := by omega
      have hdl : d < 5 := by omega
      have f2 : (t : Int).tdiv 5 = (x : Int) := by rw [Int.tdiv_eq_ediv_of_nonneg (by omega)]; omega
      have f3 : (x : Int).tmod ((q : Int) + 1) = (y : Int) := by rw [Int.tmod_eq_emod_of_nonneg (by omega), ← hy]; push_cast; rfl
      have f4 : (t : Int).tmod 5 = (d : Int) := by rw [Int.tmod_eq_emod_of_nonneg (by omega)]; omega
      have f5 : ((me : Int) + 1 + (d : Int)).tmod 6 = (p : Int) := by rw [Int.tmod_eq_emod_of_nonneg (by omega)]; omega
      have HT : Hid (tickTo me t ss = (p : Int)) := Lib.hid (by
        have hne : ss ≠ [] := fun e => by have := HLN.out; rw [e] at this; simp at this; omega
        unfold tickTo
        rw [if_neg hne, hd5, hp])
      have HT2 : Hid (tickL t ss = (ss.drop (y * 4)).take 4) := Lib.hid (by unfold tickL; rw [HLN.out, hrows, hx, hy])
      obtain ⟨A', k, c', hcell, hkc, hcm, hLs⟩ := hR2.at_ hS HLN.out hl4 (i := y) (by omega)
      rw [hq]
      clear hR hR2 hS h3 hq hx hy hd5 hp hrows hl1 hl4
      go_wp2_with fail
      refine region_sq_l (by kernel_rfl) (by kernel_rfl) (calm_of (fun _ _ _ h => h.2) (fun _ _ h => h) RTicked.ret) ?_
      go_wp2_with fail
      refine sqQ_end (by rfl) ?_
      go_wp2_with fail
      go_ret2
      exact ⟨A', k, c', by rw [HT.out]; rfl, hkc, hcm, by rw [HT2.out]; exact hLs, hkr.trans hd⟩
end Go.Proofs.Ytoanghpakdfiaaa
