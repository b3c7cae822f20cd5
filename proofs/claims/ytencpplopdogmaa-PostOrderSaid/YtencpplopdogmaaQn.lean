/- Package post: PostOrder. -/
import Derived.Test.YtencpplopdogmaaQm
namespace Go.Proofs.Ytencpplopdogmaa
set_option maxRecDepth 100000
open Go.RowKit
set_option linter.unusedVariables false

/-- A post and a row of letters beside it, both made since w. -/
structure PR1 (w wi : World) (g : Nat) (v r : Value) (most : Int) (ls rs : List Ltr) : Prop where
  p : PF w wi g 58 v most ls
  row : LR w.heap.size wi r rs
  ne : r.ownBlock ≠ some g
  ap : ∀ x, r.ownBlock = some x → v.ownBlock ≠ some x
theorem PR1.moved {w wi w' : World} {g : Nat} {v r : Value} {most : Int} {ls ls' rs : List Ltr} (h : PR1 w wi g v r most ls rs) (hm : Moved wi g 58 v most ls' w') : ∃ v', PR1 w w' g v' r most ls' rs := by
  obtain ⟨v', h1, h2, h3⟩ := hm
  obtain ⟨_, hp⟩ := h.p.moved ⟨v', h1, h2, h3⟩
  have hp : PF w w' g 58 v' most ls' := ⟨h1, hp.2.1, hp.2.2.1, fun x hx => by
    rcases h3 x hx with h4 | h4
    · exact h.p.2.2.2 x h4
    · exact Nat.le_trans h.p.2.1.size h4⟩
  refine ⟨v', hp, h.row.kp h2 fun x hx hm => ?_, h.ne, fun x hx e => ?_⟩
  · rcases List.mem_cons.1 hm with rfl | hm
    · exact h.ne hx
    · exact h.ap x hx (by simpa using hm)
  · rcases h3 x e with h4 | h4
    · exact h.ap x hx h4
    · have := (own_block_ltn h.row hx).2; omega
theorem PR1.grown {w wi w' : World} {g : Nat} {v r r' : Value} {most : Int} {ls rs rs' : List Ltr} (h : PR1 w wi g v r most ls rs) (hr : LR w.heap.size w' r' rs') (hk : Kp r.ownBlock.toList wi w') (hv : r'.ownBlock = r.ownBlock ∨ ∃ x, r'.ownBlock = some x ∧ wi.heap.size ≤ x) : PR1 w w' g v r' most ls rs' := by
  have h1 : g ∉ r.ownBlock.toList := by simp; exact fun e => h.ne e
  have h2 : ∀ x, v.ownBlock = some x → x ∉ r.ownBlock.toList := fun x hx hm => h.ap x (by simpa using hm) hx
  refine ⟨⟨h.p.1.kp hk h1 h2, h.p.2.1.then hk fun x hx hlt => ?_, h.p.2.2⟩, hr, fun e => ?_, fun x hx e => ?_⟩
  · have := (own_block_ltn h.row (by simpa using hx)).1; omega
  · rcases hv with hv | ⟨x, hx, hle⟩
    · exact h.ne (hv ▸ e)
    · rw [e] at hx; injection hx with hx; have := h.p.1.1.lt; omega
  · rcases hv with hv | ⟨y, hy, hle⟩
    · exact h.ap x (hv ▸ hx) e
    · rw [hx] at hy; injection hy with hy; have := (h.p.1.2.ob e).2; omega
theorem PR1.kp {w wi w' : World} {g : Nat} {v r : Value} {most : Int} {ls rs : List Ltr} (h : PR1 w wi g v r most ls rs) (k : Kp [] wi w') : PR1 w w' g v r most ls rs := ⟨h.p.kp k, h.row.kp k (by simp), h.ne, h.ap⟩
theorem sent_cases {w w' : World} {g : Nat} {T : TypeId} {vk : Value} {most : Int} {ls : List Ltr} {l : Ltr} {e : Ending} (h : Sent w g T vk most ls l e w') :
    ((ls.length : Int) < most ∧ e = .returned (.int .i64 0) ∧ Moved w g T vk most (ls ++ [l]) w') ∨ ∃ r : Int, e = .returned (.int .i64 r) ∧ ((r == 0) = false) ∧ Moved w g T vk most ls w' := by
  rcases h with ⟨_, h1, h2⟩ | ⟨_, ⟨h0, h1, h2⟩ | ⟨_, h1, h2⟩⟩
  · exact .inr ⟨1, h1, rfl, h2⟩
  · exact .inl ⟨h0, h1, h2⟩
  · exact .inr ⟨52, h1, rfl, h2⟩
theorem outL_drop (ls : List Ltr) (j : Nat) : outL (ls.drop j) 0 = ls.drop (j + 1) := by
  unfold outL
  simp [List.drop_drop]
theorem AtL_drop {ls : List Ltr} {j : Nat} {l : Ltr} (h : ls[j]? = some l) : AtL (ls.drop j) 0 = (l, true) := AtL_yes (k := 0) (by simpa using h)
set_option maxHeartbeats 8000000 in
theorem porder_walk (v0 v1 : Value) (w : World) (i0 : In w 3 v0) (i1 : In w 40 v1) : Calls Try.prog 4 #[v0, v1] w (Yes w) := by
  obtain ⟨most, rfl, _⟩ := in_int Try.underlying3 i0
  obtain ⟨A, n, c, ls0, rfl, hn, hc, hln, hrow⟩ := in_letters i1
  unfold maxLen at hc
  have HLN := Lib.hid hln
  clear hln i0 i1
  go_enter Try.func4, Try.ntmps4
  go_wp2_with fail
  refine (pnew_any most w).mono ?_
  rintro e w1 (⟨hm, rfl, hp, hk⟩ | ⟨h, rfl, rfl⟩)
  rotate_left
  · go_wp2_with fail
    refine (awake_any w).mono ?_
    rintro e w2 ⟨rfl, hk2⟩
    go_wp2_with fail
    refine (awake_any w2).mono ?_
    rintro e w3 ⟨rfl, hk3⟩
    go_wp2_with fail
    go_ret
    exact ⟨rfl, hk2.trans hk3⟩
  have h0 : PF w w1 w.heap.size 58 (.slice none 0 0) most [] := ⟨hp, hk, Nat.le_refl _, by simp [Value.ownBlock]⟩
  obtain ⟨g, hg⟩ : ∃ g, w.heap.size = g := ⟨_, rfl⟩
  have HG := Lib.hid hg
  rw [hg] at h0 ⊢
  clear hp hk hg
  go_wp2_with fail
  refine (awake_any w1).mono ?_
  rintro e w2 ⟨rfl, hk2⟩
  have h2 := h0.kp hk2
  clear h0
  by_cases hbig : (1000 : Int) < (n : Int)
  · go_wp2_with fail
    refine (awake_any w2).mono ?_
    rintro e w3 ⟨rfl, hk3⟩
    go_wp2_with fail
    go_ret
    exact ⟨rfl, h2.2.1.trans hk3⟩
  go_wp2_with fail
  go_loopg [7, 35] n (fun gk r i wr => ∃ (m : Nat) (v : Value) (ls : List Ltr), n - m ≤ gk ∧ i = .int .i64 m ∧ m ≤ n ∧ PR1 w wr g v r most ls ls ∧ (ls.length : Int) ≤ most)
  case atStart => exact ⟨0, _, [], by omega, rfl, Nat.zero_le _, ⟨h2, LR.nil_ _ _, by simp [Value.ownBlock], by simp [Value.ownBlock]⟩, by simp; omega⟩
  case round =>
    obtain ⟨m, v, ls, hgk, rfl, hmn, hinv, hlm⟩ := hrel
    by_cases hlt : m < n
    · obtain ⟨l, hl⟩ : ∃ l, ls0[m]? = some l := ⟨_, List.getElem?_eq_getElem (by have := HLN.out; omega)⟩
      obtain ⟨ad, rfl, _, hcell⟩ := hrow m l hl
      obtain ⟨p, hp⟩ : ∃ p, ad.add (m * 3) = p := ⟨_, rfl⟩
      have c0 : wr.cell? p = some (.int .i64 l.f) := cell_kpL (by rw [← hp]; exact hcell 0 _ rfl) hinv.p.2.1 (by simp)
      have c1 : wr.cell? ⟨p.block, p.off + 1, none⟩ = some (.int .i64 l.t) := cell_kpL (by rw [← hp, ← add_lit _ _ _ (by omega)]; exact hcell 1 _ rfl) hinv.p.2.1 (by simp)
      have c2 : wr.cell? ⟨p.block, p.off + 2, none⟩ = some (.string l.d) := cell_kpL (by rw [← hp, ← add_lit _ _ _ (by omega)]; exact hcell 2 _ rfl) hinv.p.2.1 (by simp)
      have b2 : (m : Int) < (n : Int) := by omega
      have hka : Kp [] wr (wr.alloc (.cells #[.int .i64 l.f, .int .i64 l.t, .string l.d] 33)) := (Kp.rfl_ [] wr).alloc _
      have hb6 : At (wr.alloc (.cells #[.int .i64 l.f, .int .i64 l.t, .string l.d] 33)) wr.heap.size 33 #[.int .i64 l.f, .int .i64 l.t, .string l.d] := At.new wr _ _
      have h3 := hinv.kp hka
      obtain ⟨gv, hgv⟩ : ∃ gv, wr.heap.size = gv := ⟨_, rfl⟩
      rw [hgv] at hb6
      have hv1 : ∀ x, v.ownBlock = some x → x < gv := fun x hx => by rw [← hgv]; exact (hinv.p.1.2.ob hx).2
      have hg1 : g < gv := by rw [← hgv]; exact hinv.p.1.1.lt
      have HI := Lib.hid hinv
      clear hl hinv hcell
      go_wp2_with fail
      generalize wr.alloc (.cells #[.int .i64 l.f, .int .i64 l.t, .string l.d] 33) = w3 at *
      have d0 := hb6.cell 0
      have d1 := hb6.cell 1
      have d2 := hb6.cell 2
      go_wp2_with fail
      refine (psend_any g _ v most ls l w3 h3.p.1 (by omega)).mono ?_
      intro e w4 hs4
      rcases sent_cases hs4 with ⟨hlt4, rfl, hm4⟩ | ⟨r4, rfl, hr4, hm4⟩
      · have hb7 := hb6.kp hm4.keeps (by simp; exact ⟨by omega, fun e => by have := hv1 _ e; omega⟩)
        obtain ⟨v4, h4⟩ := h3.moved hm4
        have e0 := hb7.cell 0
        have e1 := hb7.cell 1
        have e2 := hb7.cell 2
        go_wp2_with (at_builtin; go_must (refine wpl_lapp w.heap.size rfl _ _ rfl rfl u7 ls l rfl h4.row rfl h4.p.2.1.size (by omega) ?_); intro v6 w6 hrow6 hk6 hv6)
        go_roundg (n - (m + 1))
        case measure => omega
        case rel => exact ⟨m + 1, v4, ls ++ [l], by omega, by go_num, by omega, h4.grown hrow6 hk6 hv6, by simp; omega⟩
      · obtain ⟨v4, h4⟩ := h3.moved hm4
        go_wp2_with fail
        go_roundg (n - (m + 1))
        case measure => omega
        case rel => exact ⟨m + 1, v4, ls, by omega, by go_num, by omega, h4, hlm⟩
    · obtain ⟨A7, c7, rfl⟩ := hinv.row.slice
      obtain ⟨q, hq⟩ : ∃ q, ls.length = q := ⟨_, rfl⟩
      have HQ := Lib.hid hq
      rw [hq] at hinv hlm ⊢
      clear hq hrow
      go_wp2_with fail
      go_loopg [50] q (fun gk i wr => ∃ (j : Nat) (v : Value), q - j ≤ gk ∧ i = .int .i64 j ∧ j ≤ q ∧ PR1 w wr g v (.slice A7 q c7) most (ls.drop j) ls)
      case atStart => exact ⟨0, v, by omega, rfl, Nat.zero_le _, by simpa using hinv⟩
      case round =>
        obtain ⟨j, v5, hgk5, rfl, hj, h5⟩ := hrel
        by_cases hlt5 : j < q
        · obtain ⟨l, hl⟩ : ∃ l, ls[j]? = some l := ⟨_, List.getElem?_eq_getElem (by have := HQ.out; omega)⟩
          obtain ⟨g7, rfl, r0, r1, r2⟩ := h5.row.at_ hl
          have hat := AtL_drop hl
          have b3 : (j : Int) < (q : Int) := by omega
          have hka : Kp [] wr (wr.alloc (.cells #[.int .i64 l.f, .int .i64 l.t, .string l.d] 33)) := (Kp.rfl_ [] wr).alloc _
          have hb6 : At (wr.alloc (.cells #[.int .i64 l.f, .int .i64 l.t, .string l.d] 33)) wr.heap.size 33 #[.int .i64 l.f, .int .i64 l.t, .string l.d] := At.new wr _ _
          have h6 := h5.kp hka
          obtain ⟨gv, hgv⟩ : ∃ gv, wr.heap.size = gv := ⟨_, rfl⟩
          rw [hgv] at hb6
          have hv1 : ∀ x, v5.ownBlock = some x → x < gv := fun x hx => by rw [← hgv]; exact (h5.p.1.2.ob hx).2
          have hg1 : g < gv := by rw [← hgv]; exact h5.p.1.1.lt
          have HAT := Lib.hid hat
          have hld : (ls.drop j).length ≤ 1000000 := by have := HQ.out; simp; omega
          clear hl h5 hat
          go_wp2_with fail
          generalize wr.alloc (.cells #[.int .i64 l.f, .int .i64 l.t, .string l.d] 33) = w3 at *
          refine (ptake_any g _ v5 most 0 (ls.drop j) w3 h6.p.1 hld).mono ?_
          rintro e w4 (⟨h, _⟩ | ⟨l4, hl4, rfl, hm4⟩)
          · rw [HAT.out] at h; cases h
          have : l4 = l := by have := HAT.out.symm.trans hl4; exact (congrArg Prod.fst this).symm
          subst this
          rw [outL_drop] at hm4
          have hb7 := hb6.kp hm4.keeps (by simp; exact ⟨by omega, fun e => by have := hv1 _ e; omega⟩)
          obtain ⟨v6, h7⟩ := h6.moved hm4
          have k8 : Kp [] w4 (w4.alloc (.cells #[.int .i64 l4.f, .int .i64 l4.t, .string l4.d] 33)) := (Kp.rfl_ [] w4).alloc _
          have hb8 := hb7.kp k8 (by simp)
          have h8 := h7.kp k8
          have hc8 : At (w4.alloc (.cells #[.int .i64 l4.f, .int .i64 l4.t, .string l4.d] 33)) w4.heap.size 33 #[.int .i64 l4.f, .int .i64 l4.t, .string l4.d] := At.new w4 _ _
          have e0 := hb8.cell 0
          have e1 := hb8.cell 1
          have e2 := hb8.cell 2
          have e3 := hc8.cell 0
          have e4 := hc8.cell 1
          have e5 := hc8.cell 2
          clear hl4 hm4 h7
          unfold lv
          go_wp2_with fail
          go_roundg (q - (j + 1))
          case measure => omega
          case rel => exact ⟨j + 1, v6, by omega, by go_num, by omega, h8⟩
        · obtain rfl : j = q := by omega
          have hd : ls.drop j = [] := by rw [List.drop_eq_nil_iff]; have := HQ.out; omega
          rw [hd] at h5
          go_wp2_with fail
          refine (ptake_any g _ v5 most 0 [] wr h5.p.1 (by simp)).mono ?_
          rintro e w4 (⟨_, rfl, hm4⟩ | ⟨l4, hl4, _⟩)
          rotate_left
          · cases hl4
          obtain ⟨v6, h7⟩ := h5.moved hm4
          have h8 := h7.kp ((Kp.rfl_ [] w4).alloc (.cells #[.int .i64 0, .int .i64 0, .string ⟨#[]⟩] 33))
          unfold lv zeroL
          go_wp2_with fail
          refine (plen_any g _ _ most _ _ h8.p.1).mono ?_
          rintro e w8 ⟨rfl, rfl⟩
          go_wp2_with fail
          go_ret
          exact ⟨rfl, h8.p.2.1⟩
end Go.Proofs.Ytencpplopdogmaa
