/- Package post: PostApart. -/
import Derived.Test.YtencpplopdogmaaQr
namespace Go.Proofs.Ytencpplopdogmaa
set_option maxRecDepth 100000
open Go.RowKit
set_option linter.unusedVariables false

def Copied2 (w : World) (T : TypeId) (most : Int) (ls : List Ltr) (e : Ending) (w' : World) : Prop := ∃ g' v', e = .returned (.pointer (some ⟨g', 0, none⟩)) ∧ w.heap.size ≤ g' ∧ Pst w' g' T v' most ls ∧ Kp [] w w' ∧ ∀ x, v'.ownBlock = some x → w.heap.size ≤ x
set_option maxHeartbeats 4000000 in
theorem pcopy_any2 (g : Nat) (T : TypeId) (vk : Value) (most : Int) (ls : List Ltr) (w : World) (h : Pst w g T vk most ls) (hl : ls.length ≤ 1000000) :
    Calls Try.prog 16 #[.pointer (some ⟨g, 0, none⟩)] w (Copied2 w 58 most ls) := by
  have c0 : w.drew.cell? ⟨g, 0, none⟩ = some vk := h.1.cell 0
  have c1 : w.drew.cell? ⟨g, 1, none⟩ = some (.int .i64 most) := h.1.cell 1
  have hd : Kp [] w w.drew := (Kp.rfl_ [] w).drew
  obtain ⟨A, c, rfl⟩ := h.2.slice
  go_enter Try.func16, Try.ntmps16
  go_wp2_with fail
  refine region_plan [.row [0, 1, 2, 3, 4, 6, 7, 8, 9, 10], .kept 5, .row [11, 12, 13, 14]] (by kernel_rfl) (by kernel_rfl) (calm_of (fun _ _ _ h => h.2) (fun _ _ h => h) (fun e w' ⟨g', v', h, _⟩ => ⟨_, h⟩)) ?_
  simp only [wpPlan, pickL, List.filterMap_cons, List.filterMap_nil, List.getElem?_cons_zero, List.getElem?_cons_succ]
  go_wp2_with fail
  refine (lclone_any 0 (.slice A ls.length c) ls w.drew (h.2.1.kp hd (by simp)) hl).mono ?_
  rintro e w1 ⟨v', rfl, hrow, hk1⟩
  obtain ⟨A1, c1', rfl⟩ := hrow.slice
  go_wp2_with fail
  refine ⟨hk1.kept, ?_⟩
  go_wp2_with fail
  refine sqQ_end (by rfl) ?_
  go_wp2_with fail
  go_ret
  have k2 : Kp [] w1 (w1.alloc (.cells #[.slice A1 ls.length c1', .int .i64 most] 58)) := (Kp.rfl_ [] w1).alloc _
  refine ⟨_, _, rfl, hk1.size, ⟨At.new w1 _ _, (hrow.kp k2 (by simp)).lower (Nat.zero_le _), fun e => by have := (own_block_ltn hrow e).2; omega⟩, (hd.trans hk1).trans k2, fun x hx => (own_block_ltn hrow hx).1⟩
/-- append of a row of letters, nil or not. -/
theorem wpl_lapps_any {ops : Array Oper} {rest : List Oper} {o : Oper} {a : Act} {w : World} {Q : Exit → Act → World → Prop} (base : Nat) (hgd : o.guard = none) (s x : Operand)
    (ho : o.op = .call { callee := .builtin .append, args := #[s, x], argTypes := #[40, 40] }) (hty : o.type = 40)
    (v : Value) (ls ms : List Ltr) (hs : a.eval s = v) (hown : LR base w v ls) (b2 : Nat) (vs : Value) (hx : a.eval x = vs) (hsrc : LR b2 w vs ms) (hb : base ≤ w.heap.size) (hl : ls.length + ms.length ≤ 1000000)
    (h : ∀ v' w', LR base w' v' (ls ++ ms) → Kp v.ownBlock.toList w w' → (v'.ownBlock = v.ownBlock ∨ v'.ownBlock = some w.heap.size) → wpList Try.prog ops Q rest (a.put o.dst v') w') :
    wpList Try.prog ops Q (o :: rest) a w := by
  rcases hsrc.shape with ⟨rfl, rfl⟩ | ⟨g, c, rfl, _⟩
  · obtain ⟨i, hi, hz, h1, h2⟩ := info_parts3 info_letter
    refine wpList_plain hgd fun K hK => ?_
    have hrun := run_append_owned_none (P := Try.prog) (w := w) base 40 40 33 i 3 Try.underlying40 hi v ls.length (lcs ls) hown
    unfold Oper.wp execOp
    simp only [ho, hty, resolve, invoke, builtin, Sem.run_bind, Sem.run_pure, Result.andThen_ok, List.map_toArray, List.map_cons, List.map_nil, hs, hx, hrun]
    exact hK _ _ (h v w (by rw [List.append_nil]; exact hown) (Kp.rfl_ _ _) (.inl rfl))
  · exact wpl_lapps base hgd s x ho hty v ls ms hs hown g ms.length c b2 hx rfl hsrc hb hl h
set_option maxHeartbeats 16000000 in
theorem papart_walk (v0 v1 v2 : Value) (w : World) (i0 : InS w 3 v0) (i1 : InS w 22 v1) (i2 : InS w 22 v2) : Calls Try.prog 5 #[v0, v1, v2] w (Yes w) := by
  obtain ⟨most, rfl, _⟩ := in_int Try.underlying3 i0.in_
  obtain ⟨A, n, c, os, rfl, hn, hc, hos, hrow⟩ := in_opvs i1
  have hrow : RowO w A os := hrow
  obtain ⟨B, m, d, ps, rfl, hm', hd, hps, hrow2⟩ := in_opvs i2
  have hrow2 : RowO w B ps := hrow2
  have hnm : n ≤ maxLen := Nat.le_trans hn hc
  have hmm : m ≤ maxLen := Nat.le_trans hm' hd
  have HOS := Lib.hid hos
  have HPS := Lib.hid hps
  unfold maxLen at hc hd
  clear hos hps i0 i1 i2
  go_enter Try.func5, Try.ntmps5
  go_wp2_with fail
  refine (pnew_any most w).mono ?_
  rintro e w1 (⟨hm, rfl, hp, hk⟩ | ⟨h, rfl, rfl⟩)
  rotate_left
  · go_wp2_with fail
    refine (rpnew_any most w).mono ?_
    rintro e w1 (⟨hm, _⟩ | ⟨_, rfl, rfl⟩)
    · exact absurd hm h
    go_wp2_with fail
    refine (awake_any w).mono ?_
    rintro e w2 ⟨rfl, hk2⟩
    go_wp2_with fail
    refine (awake_any w2).mono ?_
    rintro e w3 ⟨rfl, hk3⟩
    go_wp2_with fail
    go_ret
    exact ⟨rfl, hk2.trans hk3⟩
  have h1 : PF w w1 w.heap.size 58 (.slice none 0 0) most [] := ⟨hp, hk, Nat.le_refl _, by simp [Value.ownBlock]⟩
  have hg1 := hp.1.lt
  obtain ⟨g1, hg⟩ : ∃ g, w.heap.size = g := ⟨_, rfl⟩
  have HG := Lib.hid hg
  rw [hg] at h1 hg1 ⊢
  clear hp hg
  go_wp2_with fail
  refine (rpnew_any most w1).mono ?_
  rintro e w2 (⟨_, rfl, hp2, hk2⟩ | ⟨h, _⟩)
  rotate_left
  · exact absurd hm h
  have h2 : Two w w2 g1 (.slice none 0 0) w1.heap.size (.slice none 0 0) most [] [] := ⟨h1.kp hk2, ⟨hp2, hk.trans hk2, hk.size, by simp [Value.ownBlock]⟩, by omega, by simp [Value.ownBlock], by simp [Value.ownBlock], by simp [Value.ownBlock]⟩
  obtain ⟨g2, hg2⟩ : ∃ g, w1.heap.size = g := ⟨_, rfl⟩
  rw [hg2] at h2 ⊢
  clear h1 hp2 hk hg2 hk2
  go_wp2_with fail
  refine (awake_any w2).mono ?_
  rintro e w3 ⟨rfl, hk3⟩
  go_wp2_with fail
  refine (great_any A n c os w3 HOS.out hnm (hrow.kp (h2.p.2.1.trans hk3))).mono ?_
  rintro e w4 ⟨⟨b, rfl⟩, hk4⟩
  have h4 := (h2.kp hk3).kp hk4
  cases b
  rotate_left
  · go_wp2_with fail
    refine (awake_any w4).mono ?_
    rintro e w5 ⟨rfl, hk5⟩
    go_wp2_with fail
    go_ret
    exact ⟨rfl, h4.p.2.1.trans hk5⟩
  clear h2
  go_wp2_with fail
  refine (great_any B m d ps w4 HPS.out hmm (hrow2.kp h4.p.2.1)).mono ?_
  rintro e w5 ⟨⟨b, rfl⟩, hk5⟩
  have h5 := h4.kp hk5
  cases b
  rotate_left
  · go_wp2_with fail
    refine (awake_any w5).mono ?_
    rintro e w6 ⟨rfl, hk6⟩
    go_wp2_with fail
    go_ret
    exact ⟨rfl, h5.p.2.1.trans hk6⟩
  clear h4
  go_wp2_with fail
  go_loopg [44] n (fun gk i wr => ∃ (j : Nat) (v1 v2 : Value) (ls : List Ltr), n - j ≤ gk ∧ i = .int .i64 j ∧ j ≤ n ∧ Two w wr g1 v1 g2 v2 most ls ls ∧ Okl most ls)
  case atStart => exact ⟨0, _, _, [], by omega, rfl, Nat.zero_le _, h5, by simp; omega, by omega, by simp⟩
  case round =>
    obtain ⟨j, v1, v2, ls, hgk, rfl, hjn, hinv, hok⟩ := hrel
    by_cases hlt : j < n
    · obtain ⟨o, ho⟩ : ∃ o, os[j]? = some o := ⟨_, List.getElem?_eq_getElem (by have := HOS.out; omega)⟩
      have HO := Lib.hid (hrow j o ho).1
      obtain ⟨ad, p, rfl, hp, c0, c1, c2, c3, c4, c5⟩ := (hrow.kp hinv.p.2.1).cells ho
      have b2 : (j : Int) < (n : Int) := by omega
      have hka : Kp [] wr (wr.alloc (.cells (oc o).toArray 36)) := (Kp.rfl_ [] wr).alloc _
      have hb6 : At (wr.alloc (.cells (oc o).toArray 36)) wr.heap.size 36 (oc o).toArray := At.new wr _ _
      have h6 := hinv.kp hka
      obtain ⟨gv, hgv⟩ : ∃ gv, wr.heap.size = gv := ⟨_, rfl⟩
      rw [hgv] at hb6
      obtain ⟨kd, k, l, oA, on, oc', zs⟩ := o
      unfold oc at hb6 h6
      clear ho hinv hka
      go_wp2_with fail
      generalize wr.alloc (.cells #[.int .i64 kd, .int .i64 k, .int .i64 l.f, .int .i64 l.t, .string l.d, .slice oA on oc'] 36) = w6 at *
      have d0 := hb6.cell 0
      have d1 := hb6.cell 1
      have d2 := hb6.cell 2
      have d3 := hb6.cell 3
      have d4 := hb6.cell 4
      have d5 := hb6.cell 5
      go_wp2_with fail
      refine (done_any w w6 g1 g2 v1 v2 most ls kd k l oA on oc' zs h6 hok HO.out).mono ?_
      rintro e w7 ⟨rfl, v1', v2', ls', h7, hok7⟩
      go_wp2_with fail
      go_roundg (n - (j + 1))
      case measure => omega
      case rel => exact ⟨j + 1, v1', v2', ls', by omega, by go_num, by omega, h7, hok7⟩
    · obtain rfl : j = n := by omega
      clear h5 hk3 hk4 hk5
      have hlen := hok.len
      go_wp2_with fail
      refine (pcopy_any2 g1 _ v1 most ls wr hinv.p.1 hlen).mono ?_
      rintro e w8 ⟨g3, v3, rfl, hg3, hp3, hk8, hv3⟩
      have h8 := hinv.kp hk8
      have hd8 : Kp [] w8 w8.drew := (Kp.rfl_ [] w8).drew
      have h9 := h8.kp hd8
      have hp9 := hp3.kp hd8 (by simp) (by simp)
      have hk9 := hk8.trans hd8
      have hg3l := hp9.1.lt
      have hv3l : ∀ x, v3.ownBlock = some x → x < w8.drew.heap.size := fun x hx => (hp9.2.ob hx).2
      go_wp2_with fail
      obtain ⟨w9, hw9⟩ : ∃ w9, w8.drew = w9 := ⟨_, rfl⟩
      rw [hw9] at h9 hp9 hk9 hg3l hv3l
      have e0 := h9.q.1.1.cell 0
      have e1 := h9.q.1.1.cell 1
      have hsh := h9.q.1.1.shape
      have hg2l := h9.q.1.1.lt
      have hnT : g2 ∉ [w9.heap.size] := by simp; omega
      have hka : Kp [] w9 (w9.alloc (.cells #[] 33)) := (Kp.rfl_ [] w9).alloc _
      have he : LR w9.heap.size (w9.alloc (.cells #[] 33)) (.slice (some ⟨w9.heap.size, 0, none⟩) 0 0) [] := ⟨rfl, .inr ⟨w9.heap.size, 0, #[], rfl, Nat.le_refl _, heap_alloc_new w9 _, Nat.le_refl _, Nat.zero_le _, rfl, rfl⟩⟩
      have HE := Lib.hid he
      have HR := Lib.hid (h9.q.1.2.1.kp hka (by simp))
      clear he
      refine region_planT [w9.heap.size] [.row [1, 2, 3], .ld 4, .row [6, 7, 8], .ld 9, .kept 0, .kept 5, .row [10, 11, 12]] (by kernel_rfl) (by kernel_rfl) (calm_of (fun _ _ _ h => h.2) (fun _ _ h => h) (fun e w' (h : Yes w e w') => ⟨_, h.1⟩)) ?_
      simp only [wpPlan, pickL, List.filterMap_cons, List.filterMap_nil, List.getElem?_cons_zero, List.getElem?_cons_succ]
      rw [hw9]
      clear hw9
      go_wp2_with fail
      refine ⟨by first | exact ld_at rfl rfl hnT hsh | exact ld_at rfl rfl hnT hsh _ rfl, ?_⟩
      go_wp2_with fail
      refine ⟨by first | exact ld_at rfl rfl hnT hsh | exact ld_at rfl rfl hnT hsh _ rfl, ?_⟩
      go_wp2_with fail
      refine ⟨(hka.mono (T := [w9.heap.size]) (by simp)).kept, ?_⟩
      refine wpl_lapps_any w9.heap.size rfl _ _ rfl rfl (.slice (some ⟨w9.heap.size, 0, none⟩) 0 0) [] ls rfl HE.out 0 v2 rfl HR.out hka.size (by simpa using hlen) ?_
      intro v4 w10 hrow4 hk10 hv4
      refine wpList_nil (And.intro (hk10.mono (T := [w9.heap.size]) (fun x _ hx => by simpa [Value.ownBlock] using hx)).kept ?_)
      have hk10' : Kp [] w9 w10 := hka.then hk10 (by simp [Value.ownBlock])
      obtain ⟨A4, c4, rfl⟩ := hrow4.slice
      have hrow5 : LR w9.heap.size w10 (.slice A4 ls.length c4) ls := hrow4
      have k11 : Kp [] w10 (w10.alloc (.cells #[.slice A4 ls.length c4, .int .i64 most] 48)) := (Kp.rfl_ [] w10).alloc _
      have y11 : At (w10.alloc (.cells #[.slice A4 ls.length c4, .int .i64 most] 48)) w10.heap.size 48 #[.slice A4 ls.length c4, .int .i64 most] := At.new w10 _ _
      have ob4 : ∀ x, (Value.slice A4 ls.length c4).ownBlock = some x → w9.heap.size ≤ x ∧ x < w10.heap.size := fun x hx => own_block_ltn hrow5 hx
      have k9 := hk10'.trans k11
      have hsz := hk10'.size
      have hwr := hk9.size
      have h11 : Two wr (w10.alloc (.cells #[.slice A4 ls.length c4, .int .i64 most] 48)) g3 v3 w10.heap.size (.slice A4 ls.length c4) most ls ls :=
        ⟨⟨hp9.kp k9 (by simp) (by simp), hk9.trans k9, hg3, hv3⟩,
         ⟨⟨y11, (hrow5.kp k11 (by simp)).lower (Nat.zero_le _), fun e => by have := (ob4 _ e).2; omega⟩, hk9.trans k9, by omega, fun x hx => by have := (ob4 x hx).1; omega⟩,
         by omega, fun e => by have := hv3l _ e; omega, fun e => by have := (ob4 _ e).1; omega, fun x hx e => by have := hv3l _ hx; have := (ob4 _ e).1; omega⟩
      have HN4 : Hid ((([] : List Ltr) ++ ls).length = ls.length) := Lib.hid rfl
      clear HE HR hrow4 hrow5 y11 k11 hk10 hk10' ob4 h9 hp9 h8 hp3 hka
      go_wp2_with fail
      refine sqQ_end (by rfl) ?_
      go_wp2_with fail
      have hkb : Kp [] w wr := hinv.p.2.1
      have hrowb := hrow2.kp hkb
      simp only [List.nil_append] at *
      generalize w10.alloc (.cells #[.slice A4 ls.length c4, .int .i64 most] 48) = w11 at *
      obtain ⟨g4, hg4⟩ : ∃ g, w10.heap.size = g := ⟨_, rfl⟩
      rw [hg4] at h11 ⊢
      obtain ⟨wb, hwb⟩ : ∃ wb, wr = wb := ⟨_, rfl⟩
      rw [hwb] at hinv h11 hkb hrowb
      have HB := Lib.hid hrowb
      clear hwb hg4 hsz hwr e0 e1 hsh hg2l hnT hg3l hv3l hk8 hd8 hk9 k9 hv4
      go_loopg [69] m (fun gk i wr => ∃ (j : Nat) (v3 v4 : Value) (ms : List Ltr), m - j ≤ gk ∧ i = .int .i64 j ∧ j ≤ m ∧ Two wb wr g3 v3 g4 v4 most ms ms ∧ Okl most ms)
      case atStart => exact ⟨0, _, _, ls, by omega, rfl, Nat.zero_le _, h11, hok⟩
      case round =>
        obtain ⟨j, v5, v6, ms, hgk, rfl, hjm, hinv5, hok5⟩ := hrel
        by_cases hlt5 : j < m
        · obtain ⟨o, ho⟩ : ∃ o, ps[j]? = some o := ⟨_, List.getElem?_eq_getElem (by have := HPS.out; omega)⟩
          have HO := Lib.hid (HB.out j o ho).1
          obtain ⟨ad, p, rfl, hp, c0, c1, c2, c3, c4, c5⟩ := (HB.out.kp hinv5.p.2.1).cells ho
          have b2 : (j : Int) < (m : Int) := by omega
          have hka : Kp [] wr (wr.alloc (.cells (oc o).toArray 36)) := (Kp.rfl_ [] wr).alloc _
          have hb6 : At (wr.alloc (.cells (oc o).toArray 36)) wr.heap.size 36 (oc o).toArray := At.new wr _ _
          have h6 := hinv5.kp hka
          obtain ⟨gv, hgv⟩ : ∃ gv, wr.heap.size = gv := ⟨_, rfl⟩
          rw [hgv] at hb6
          obtain ⟨kd, k, l, oA, on, oc', zs⟩ := o
          unfold oc at hb6 h6
          clear ho hinv5 hka
          go_wp2_with fail
          generalize wr.alloc (.cells #[.int .i64 kd, .int .i64 k, .int .i64 l.f, .int .i64 l.t, .string l.d, .slice oA on oc'] 36) = w6 at *
          have d0 := hb6.cell 0
          have d1 := hb6.cell 1
          have d2 := hb6.cell 2
          have d3 := hb6.cell 3
          have d4 := hb6.cell 4
          have d5 := hb6.cell 5
          go_wp2_with fail
          refine (done_any wb w6 g3 g4 v5 v6 most ms kd k l oA on oc' zs h6 hok5 HO.out).mono ?_
          rintro e w7 ⟨rfl, v1', v2', ls', h7, hok7⟩
          go_wp2_with fail
          go_roundg (m - (j + 1))
          case measure => omega
          case rel => exact ⟨j + 1, v1', v2', ls', by omega, by go_num, by omega, h7, hok7⟩
        · go_wp2_with fail
          refine (alike_any w wr g1 g2 v1 v2 most ls (hinv.kp hinv5.p.2.1) hok).mono ?_
          rintro e w6 ⟨rfl, hk6⟩
          go_wp2_with fail
          refine (alike_any wb w6 g3 g4 v5 v6 most ms (hinv5.kp hk6) hok5).mono ?_
          rintro e w7 ⟨rfl, hk7⟩
          go_wp2_with fail
          go_ret
          exact ⟨rfl, ((hkb.trans hinv5.p.2.1).trans hk6).trans hk7⟩
end Go.Proofs.Ytencpplopdogmaa
