/- Package post: done. -/
import Derived.Test.YtencpplopdogmaaQo
namespace Go.Proofs.Ytencpplopdogmaa
set_option maxRecDepth 100000
open Go.RowKit
set_option linter.unusedVariables false

theorem ld_at {T : List Nat} {o0 : Oper} {t : TypeId} {x : Operand} {a : Act} {w : World} {ad : Addr} (ho : o0.op = .load t x) (hx : a.eval x = .pointer (some ad)) (hb : ad.block ∉ T) (hsh : (w.shape? ad.block).isSome = true) : ∀ o, some o0 = some o → ldOK T o a w := by
  rintro o ⟨rfl⟩
  unfold ldOK
  rw [ho]
  intro ad' h
  rw [hx] at h
  injection h with h
  injection h with h
  subst h
  exact ⟨hb, hsh⟩
/-- What a call of both leaves. -/
def DonePost (w : World) (g1 g2 : Nat) (most : Int) (e : Ending) (w' : World) : Prop := e = .returned (.bool true) ∧ ∃ v1 v2 ls, Two w w' g1 v1 g2 v2 most ls ls ∧ Okl most ls
theorem DonePost.ret {w : World} {g1 g2 : Nat} {most : Int} (e : Ending) (w' : World) (h : DonePost w g1 g2 most e w') : ∃ v, e = .returned v := ⟨_, h.1⟩
theorem Two.n1 {w wi : World} {g1 g2 : Nat} {v1 v2 : Value} {most : Int} {l1 l2 : List Ltr} (h : Two w wi g1 v1 g2 v2 most l1 l2) {gb : Nat} (hb : wi.heap.size ≤ gb) : gb ∉ g1 :: v1.ownBlock.toList := by
  intro hm
  rcases List.mem_cons.1 hm with rfl | hm
  · have := h.p.1.1.lt; omega
  · have := (h.p.1.2.ob (x := gb) (by simpa using hm)).2; omega
theorem Two.n2 {w wi : World} {g1 g2 : Nat} {v1 v2 : Value} {most : Int} {l1 l2 : List Ltr} (h : Two w wi g1 v1 g2 v2 most l1 l2) {gb : Nat} (hb : wi.heap.size ≤ gb) : gb ∉ g2 :: v2.ownBlock.toList := by
  intro hm
  rcases List.mem_cons.1 hm with rfl | hm
  · have := h.q.1.1.lt; omega
  · have := (h.q.1.2.ob (x := gb) (by simpa using hm)).2; omega
theorem wpl_copy_int2 {ops : Array Oper} {rest : List Oper} {o : Oper} {a : Act} {Q : Exit → Act → World → Prop} (w0 : World) (hw : Region.wanted o (yielded ops a.tmps) = true) (s x : Operand)
    (ho : o.op = .call { callee := .builtin .append, args := #[s, x], argTypes := #[34, 34] }) (A : Option Addr) (n c : Nat) (zs : List Int)
    (hs : a.eval s = .slice (some ⟨w0.heap.size, 0, none⟩) 0 0) (hx : a.eval x = .slice A n c) (hr : Ls w0 A n (zs.map (Value.int .i64))) (hn : n * 8 ≤ 140737488355328)
    (h : ∀ A' c' w', n ≤ c' → Ls w' A' n (zs.map (Value.int .i64)) → (∀ ad, A' = some ad → w0.heap.size ≤ ad.block) → Kp [] w0 w' → Kp [w0.heap.size] (w0.alloc (.cells #[] 3)) w' → wpList Try.prog ops Q rest (a.put o.dst (.slice A' n c')) w') :
    wpList Try.prog ops Q (o :: rest) a (w0.alloc (.cells #[] 3)) := by
  obtain ⟨i0, hi, hz, h1, h2⟩ := info_parts info_int
  refine wpl_app_g _ hw s x 34 ho w0.heap.size 3 i0 _ 8 Try.underlying34 hi hz h1 h2 rfl _ 0 [] hs (own_empty w0 _) A n c _ hx
    (hr.kp ((Kp.rfl_ [] w0).alloc _) (by simp)) oneCell_map_int (by unfold maxLen; omega) (by omega) (by simp) ?_
  intro v' w' hown hg _
  obtain ⟨A', c', rfl, hL, hb, hc, _⟩ := own_open hown
  rw [Nat.zero_add] at hL hc ⊢
  have hk : Kp [w0.heap.size] (w0.alloc (.cells #[] 3)) w' := Kp.of_grown (S := [w0.heap.size]) hg (by
    intro k hk _
    simp [Value.ownBlock] at hk
    simp [hk])
  exact h A' c' w' hc hL hb (((Kp.rfl_ [] w0).alloc _).then hk (by simp)) hk
set_option maxHeartbeats 16000000 in
theorem done_any (w wi : World) (g1 g2 : Nat) (v1 v2 : Value) (most : Int) (ls : List Ltr) (kd k : Int) (l : Ltr) (A : Option Addr) (n c : Nat) (zs : List Int) (h : Two w wi g1 v1 g2 v2 most ls ls) (hk : Okl most ls) (ho : OpOK w ⟨kd, k, l, A, n, c, zs⟩) :
    Calls Try.prog 11 #[.pointer (some ⟨g1, 0, none⟩), .pointer (some ⟨g2, 0, none⟩), .agg #[.int .i64 kd, .int .i64 k, .int .i64 l.f, .int .i64 l.t, .string l.d, .slice A n c]] wi (DonePost w g1 g2 most) := by
  have b1 : At (wi.alloc (.cells #[.int .i64 kd, .int .i64 k, .int .i64 l.f, .int .i64 l.t, .string l.d, .slice A n c] 36)) wi.heap.size 36 #[.int .i64 kd, .int .i64 k, .int .i64 l.f, .int .i64 l.t, .string l.d, .slice A n c] := At.new wi _ _
  have h1 := h.kp ((Kp.rfl_ [] wi).alloc (.cells #[.int .i64 kd, .int .i64 k, .int .i64 l.f, .int .i64 l.t, .string l.d, .slice A n c] 36))
  have hm1 := h.n1 (gb := wi.heap.size) (Nat.le_refl _)
  have hm2 := h.n2 (gb := wi.heap.size) (Nat.le_refl _)
  have hk1 : -9223372036854775808 ≤ k := ho.k.1
  have hk2 : k ≤ 9223372036854775807 := ho.k.2
  have hlen := hk.len
  obtain ⟨gb, hgb⟩ : ∃ gb, wi.heap.size = gb := ⟨_, rfl⟩
  rw [hgb] at b1 hm1 hm2
  have hkd : ((kd == 1) = true) ∨ ((kd == 1) = false ∧ (kd == 2) = true) ∨ ((kd == 1) = false ∧ (kd == 2) = false ∧ (kd == 3) = true) ∨ ((kd == 1) = false ∧ (kd == 2) = false ∧ (kd == 3) = false ∧ (kd == 4) = true) ∨ ((kd == 1) = false ∧ (kd == 2) = false ∧ (kd == 3) = false ∧ (kd == 4) = false) := by
    cases (kd == 1) <;> cases (kd == 2) <;> cases (kd == 3) <;> cases (kd == 4) <;> simp
  have d0 := b1.cell 0
  have d1 := b1.cell 1
  rcases hkd with n1 | ⟨n1, n2⟩ | ⟨n1, n2, n3⟩ | ⟨n1, n2, n3, n4⟩ | ⟨n1, n2, n3, n4⟩
  all_goals
    go_enter Try.func11, Try.ntmps11
    go_wp2_with fail
    generalize wi.alloc (.cells #[.int .i64 kd, .int .i64 k, .int .i64 l.f, .int .i64 l.t, .string l.d, .slice A n c] 36) = w1 at *
    clear h hgb
  · have hd : Kp [] w1 w1.drew := (Kp.rfl_ [] w1).drew
    have h2 := h1.kp hd
    have b2 := b1.kp hd (by simp)
    have d2 := b2.cell 2
    have d3 := b2.cell 3
    have d4 := b2.cell 4
    have hsh := b2.shape
    refine region_planT (g1 :: v1.ownBlock.toList) [.row [0, 1], .ld 2, .row [4, 5], .ld 6, .kept 3, .row [7, 8]] (by kernel_rfl) (by kernel_rfl) (calm_of (fun _ _ _ h => h.2) (fun _ _ h => h) DonePost.ret) ?_
    simp only [wpPlan, pickL, List.filterMap_cons, List.filterMap_nil, List.getElem?_cons_zero, List.getElem?_cons_succ]
    go_wp2_with fail
    refine ⟨ld_at rfl rfl hm1 hsh, ?_⟩
    go_wp2_with fail
    refine ⟨ld_at rfl rfl hm1 hsh, ?_⟩
    go_wp2_with fail
    refine (psend_any g1 _ v1 most ls l _ h2.p.1 hlen).mono ?_
    intro e w4 hs4
    obtain ⟨rfl, hm4⟩ := hs4.det
    obtain ⟨v1', h4⟩ := h2.left hm4
    have b4 := b2.kp hm4.keeps hm1
    go_wp2_with fail
    refine ⟨hm4.keeps.kept, ?_⟩
    go_wp2_with fail
    refine (rpsend_any g2 _ v2 most ls l w4 h4.q.1 hlen).mono ?_
    intro e w9 hs5
    obtain ⟨rfl, hm5⟩ := hs5.det
    obtain ⟨v2', h7⟩ := h4.right hm5
    have b7 := b4.kp hm5.keeps hm2
    have hk7 := hk.sent l
    generalize sentR most ls l = R at *
    obtain ⟨r, ls'⟩ := R
    go_wp2_with fail
    refine sqQ_end (by rfl) ?_
    have e1 := b7.cell 1
    go_wp2_with fail
    have hlen7 := hk7.len
    refine (pat_any g1 _ v1' most k ls' w9 h7.p.1 hk1 hk2).mono ?_
    rintro e w10 ⟨he, hk10⟩
    obtain ⟨⟨la, ba⟩, hA⟩ : ∃ x, AtL ls' k = x := ⟨_, rfl⟩
    rw [hA] at he
    subst he
    have k11 : Kp [] w10 (w10.alloc (.cells #[.int .i64 la.f, .int .i64 la.t, .string la.d] 33)) := (Kp.rfl_ [] w10).alloc _
    have y11 : At (w10.alloc (.cells #[.int .i64 la.f, .int .i64 la.t, .string la.d] 33)) w10.heap.size 33 #[.int .i64 la.f, .int .i64 la.t, .string la.d] := At.new w10 _ _
    have h11 := (h7.kp hk10).kp k11
    have b11 := (b7.kp hk10 (by simp)).kp k11 (by simp)
    obtain ⟨g11, hg11⟩ : ∃ g, w10.heap.size = g := ⟨_, rfl⟩
    rw [hg11] at y11
    have f1 := b11.cell 1
    unfold lv
    go_wp2_with fail
    generalize w10.alloc (.cells #[.int .i64 la.f, .int .i64 la.t, .string la.d] 33) = w11 at *
    refine (rat_any g2 _ v2' most k ls' w11 h11.q.1 hlen7).mono ?_
    rintro e w12 ⟨he, hk12⟩
    rw [hA] at he
    subst he
    have k13 : Kp [] w12 (w12.alloc (.cells #[.int .i64 la.f, .int .i64 la.t, .string la.d] 33)) := (Kp.rfl_ [] w12).alloc _
    have y13 : At (w12.alloc (.cells #[.int .i64 la.f, .int .i64 la.t, .string la.d] 33)) w12.heap.size 33 #[.int .i64 la.f, .int .i64 la.t, .string la.d] := At.new w12 _ _
    have h13 := (h11.kp hk12).kp k13
    have z13 := (y11.kp hk12 (by simp)).kp k13 (by simp)
    obtain ⟨g13, hg13⟩ : ∃ g, w12.heap.size = g := ⟨_, rfl⟩
    rw [hg13] at y13
    unfold lv
    go_wp2_with fail
    generalize w12.alloc (.cells #[.int .i64 la.f, .int .i64 la.t, .string la.d] 33) = w13 at *
    have hd13 : Kp [] w13 w13.drew := (Kp.rfl_ [] w13).drew
    have h14 := h13.kp hd13
    have y14 := y13.kp hd13 (by simp)
    have z14 := z13.kp hd13 (by simp)
    obtain ⟨A2, c2, rfl⟩ := h14.q.1.2.slice
    have a0 := y14.cell 0
    have a1 := y14.cell 1
    have a2 := y14.cell 2
    have a3 := z14.cell 0
    have a4 := z14.cell 1
    have a5 := z14.cell 2
    have a6 := h14.q.1.1.cell 0
    refine region_plan [.row [0, 1, 2, 3, 4, 5, 6, 7, 8, 9, 11, 12, 13, 14, 15], .kept 10, .row [16, 17, 18]] (by kernel_rfl) (by kernel_rfl) (calm_of (fun _ _ _ h => h.2) (fun _ _ h => h) DonePost.ret) ?_
    simp only [wpPlan, pickL, List.filterMap_cons, List.filterMap_nil, List.getElem?_cons_zero, List.getElem?_cons_succ]
    go_wp2_with fail
    refine (plen_any g1 _ v1' most ls' _ h14.p.1).mono ?_
    rintro e w15 ⟨rfl, rfl⟩
    go_wp2_with fail
    refine ⟨KeptT.rfl_ _ _, ?_⟩
    go_wp2_with fail
    refine sqQ_end (by rfl) ?_
    go_wp2_with fail
    go_ret
    exact ⟨rfl, v1', .slice A2 ls'.length c2, ls', h14, hk7⟩
  · have hk7 := hk.take k
    obtain ⟨⟨⟨l2, r⟩, ls'⟩, hR⟩ : ∃ R, takeR ls k = R := ⟨_, rfl⟩
    refine (ptake_any g1 _ v1 most k ls w1 h1.p.1 hlen).mono ?_
    intro e w2 hs2
    obtain ⟨rfl, hm2'⟩ := hs2.det
    rw [hR] at hm2' hk7 ⊢
    obtain ⟨v1', h2⟩ := h1.left hm2'
    have b2 := b1.kp hm2'.keeps hm1
    have k3 : Kp [] w2 (w2.alloc (.cells #[.int .i64 l2.f, .int .i64 l2.t, .string l2.d] 33)) := (Kp.rfl_ [] w2).alloc _
    have x3 : At (w2.alloc (.cells #[.int .i64 l2.f, .int .i64 l2.t, .string l2.d] 33)) w2.heap.size 33 #[.int .i64 l2.f, .int .i64 l2.t, .string l2.d] := At.new w2 _ _
    have hx3 := h2.n2 (gb := w2.heap.size) (Nat.le_refl _)
    obtain ⟨g3, hg3⟩ : ∃ g, w2.heap.size = g := ⟨_, rfl⟩
    rw [hg3] at x3 hx3
    have h3 := h2.kp k3
    have b3 := b2.kp k3 (by simp)
    have d1 := b3.cell 1
    unfold lv
    go_wp2_with fail
    generalize w2.alloc (.cells #[.int .i64 l2.f, .int .i64 l2.t, .string l2.d] 33) = w3 at *
    refine (rtake_any g2 _ v2 most k ls w3 h3.q.1 hlen).mono ?_
    intro e w4 hs4
    obtain ⟨rfl, hm4⟩ := hs4.det
    rw [hR] at hm4 ⊢
    obtain ⟨v2', h4⟩ := h3.right hm4
    have b4 := b3.kp hm4.keeps hm2
    have x4 := x3.kp hm4.keeps hx3
    have k5 : Kp [] w4 (w4.alloc (.cells #[.int .i64 l2.f, .int .i64 l2.t, .string l2.d] 33)) := (Kp.rfl_ [] w4).alloc _
    have x5 : At (w4.alloc (.cells #[.int .i64 l2.f, .int .i64 l2.t, .string l2.d] 33)) w4.heap.size 33 #[.int .i64 l2.f, .int .i64 l2.t, .string l2.d] := At.new w4 _ _
    have h7 := h4.kp k5
    have b7 := b4.kp k5 (by simp)
    have x6 := x4.kp k5 (by simp)
    have e1 := b7.cell 1
    have y0 := x5.cell 0
    have y1 := x5.cell 1
    have y2 := x5.cell 2
    have z0 := x6.cell 0
    have z1 := x6.cell 1
    have z2 := x6.cell 2
    unfold lv
    go_wp2_with fail
    generalize w4.alloc (.cells #[.int .i64 l2.f, .int .i64 l2.t, .string l2.d] 33) = w9 at *
    have hlen7 := hk7.len
    refine (pat_any g1 _ v1' most k ls' w9 h7.p.1 hk1 hk2).mono ?_
    rintro e w10 ⟨he, hk10⟩
    obtain ⟨⟨la, ba⟩, hA⟩ : ∃ x, AtL ls' k = x := ⟨_, rfl⟩
    rw [hA] at he
    subst he
    have k11 : Kp [] w10 (w10.alloc (.cells #[.int .i64 la.f, .int .i64 la.t, .string la.d] 33)) := (Kp.rfl_ [] w10).alloc _
    have y11 : At (w10.alloc (.cells #[.int .i64 la.f, .int .i64 la.t, .string la.d] 33)) w10.heap.size 33 #[.int .i64 la.f, .int .i64 la.t, .string la.d] := At.new w10 _ _
    have h11 := (h7.kp hk10).kp k11
    have b11 := (b7.kp hk10 (by simp)).kp k11 (by simp)
    obtain ⟨g11, hg11⟩ : ∃ g, w10.heap.size = g := ⟨_, rfl⟩
    rw [hg11] at y11
    have f1 := b11.cell 1
    unfold lv
    go_wp2_with fail
    generalize w10.alloc (.cells #[.int .i64 la.f, .int .i64 la.t, .string la.d] 33) = w11 at *
    refine (rat_any g2 _ v2' most k ls' w11 h11.q.1 hlen7).mono ?_
    rintro e w12 ⟨he, hk12⟩
    rw [hA] at he
    subst he
    have k13 : Kp [] w12 (w12.alloc (.cells #[.int .i64 la.f, .int .i64 la.t, .string la.d] 33)) := (Kp.rfl_ [] w12).alloc _
    have y13 : At (w12.alloc (.cells #[.int .i64 la.f, .int .i64 la.t, .string la.d] 33)) w12.heap.size 33 #[.int .i64 la.f, .int .i64 la.t, .string la.d] := At.new w12 _ _
    have h13 := (h11.kp hk12).kp k13
    have z13 := (y11.kp hk12 (by simp)).kp k13 (by simp)
    obtain ⟨g13, hg13⟩ : ∃ g, w12.heap.size = g := ⟨_, rfl⟩
    rw [hg13] at y13
    unfold lv
    go_wp2_with fail
    generalize w12.alloc (.cells #[.int .i64 la.f, .int .i64 la.t, .string la.d] 33) = w13 at *
    have hd13 : Kp [] w13 w13.drew := (Kp.rfl_ [] w13).drew
    have h14 := h13.kp hd13
    have y14 := y13.kp hd13 (by simp)
    have z14 := z13.kp hd13 (by simp)
    obtain ⟨A2, c2, rfl⟩ := h14.q.1.2.slice
    have a0 := y14.cell 0
    have a1 := y14.cell 1
    have a2 := y14.cell 2
    have a3 := z14.cell 0
    have a4 := z14.cell 1
    have a5 := z14.cell 2
    have a6 := h14.q.1.1.cell 0
    refine region_plan [.row [0, 1, 2, 3, 4, 5, 6, 7, 8, 9, 11, 12, 13, 14, 15], .kept 10, .row [16, 17, 18]] (by kernel_rfl) (by kernel_rfl) (calm_of (fun _ _ _ h => h.2) (fun _ _ h => h) DonePost.ret) ?_
    simp only [wpPlan, pickL, List.filterMap_cons, List.filterMap_nil, List.getElem?_cons_zero, List.getElem?_cons_succ]
    go_wp2_with fail
    refine (plen_any g1 _ v1' most ls' _ h14.p.1).mono ?_
    rintro e w15 ⟨rfl, rfl⟩
    go_wp2_with fail
    refine ⟨KeptT.rfl_ _ _, ?_⟩
    go_wp2_with fail
    refine sqQ_end (by rfl) ?_
    go_wp2_with fail
    go_ret
    exact ⟨rfl, v1', .slice A2 ls'.length c2, ls', h14, hk7⟩
  · have d1 := b1.cell 1
    have hd : Kp [] w1 w1.drew := (Kp.rfl_ [] w1).drew
    have h2 := h1.kp hd
    have b2 := b1.kp hd (by simp)
    have d2 := b2.cell 1
    have hsh := b2.shape
    refine region_planT (g1 :: v1.ownBlock.toList) [.row [0, 1], .ld 2, .row [4, 5], .ld 6, .kept 3, .row [7, 8]] (by kernel_rfl) (by kernel_rfl) (calm_of (fun _ _ _ h => h.2) (fun _ _ h => h) DonePost.ret) ?_
    simp only [wpPlan, pickL, List.filterMap_cons, List.filterMap_nil, List.getElem?_cons_zero, List.getElem?_cons_succ]
    go_wp2_with fail
    refine ⟨ld_at rfl rfl hm1 hsh, ?_⟩
    go_wp2_with fail
    refine ⟨ld_at rfl rfl hm1 hsh, ?_⟩
    go_wp2_with fail
    refine (ptwin_any g1 _ v1 most k ls _ h2.p.1 hlen).mono ?_
    intro e w4 hs4
    obtain ⟨rfl, hm4⟩ := hs4.det
    obtain ⟨v1', h4⟩ := h2.left hm4
    have b4 := b2.kp hm4.keeps hm1
    go_wp2_with fail
    refine ⟨hm4.keeps.kept, ?_⟩
    go_wp2_with fail
    refine (rtwin_any g2 _ v2 most k ls w4 h4.q.1 hlen hk.2.2).mono ?_
    intro e w9 hs5
    obtain ⟨rfl, hm5⟩ := hs5.det
    obtain ⟨v2', h7⟩ := h4.right hm5
    have b7 := b4.kp hm5.keeps hm2
    have hk7 := hk.twin k
    generalize twinR most ls k = R at *
    obtain ⟨r, ls'⟩ := R
    go_wp2_with fail
    refine sqQ_end (by rfl) ?_
    have e1 := b7.cell 1
    go_wp2_with fail
    have hlen7 := hk7.len
    refine (pat_any g1 _ v1' most k ls' w9 h7.p.1 hk1 hk2).mono ?_
    rintro e w10 ⟨he, hk10⟩
    obtain ⟨⟨la, ba⟩, hA⟩ : ∃ x, AtL ls' k = x := ⟨_, rfl⟩
    rw [hA] at he
    subst he
    have k11 : Kp [] w10 (w10.alloc (.cells #[.int .i64 la.f, .int .i64 la.t, .string la.d] 33)) := (Kp.rfl_ [] w10).alloc _
    have y11 : At (w10.alloc (.cells #[.int .i64 la.f, .int .i64 la.t, .string la.d] 33)) w10.heap.size 33 #[.int .i64 la.f, .int .i64 la.t, .string la.d] := At.new w10 _ _
    have h11 := (h7.kp hk10).kp k11
    have b11 := (b7.kp hk10 (by simp)).kp k11 (by simp)
    obtain ⟨g11, hg11⟩ : ∃ g, w10.heap.size = g := ⟨_, rfl⟩
    rw [hg11] at y11
    have f1 := b11.cell 1
    unfold lv
    go_wp2_with fail
    generalize w10.alloc (.cells #[.int .i64 la.f, .int .i64 la.t, .string la.d] 33) = w11 at *
    refine (rat_any g2 _ v2' most k ls' w11 h11.q.1 hlen7).mono ?_
    rintro e w12 ⟨he, hk12⟩
    rw [hA] at he
    subst he
    have k13 : Kp [] w12 (w12.alloc (.cells #[.int .i64 la.f, .int .i64 la.t, .string la.d] 33)) := (Kp.rfl_ [] w12).alloc _
    have y13 : At (w12.alloc (.cells #[.int .i64 la.f, .int .i64 la.t, .string la.d] 33)) w12.heap.size 33 #[.int .i64 la.f, .int .i64 la.t, .string la.d] := At.new w12 _ _
    have h13 := (h11.kp hk12).kp k13
    have z13 := (y11.kp hk12 (by simp)).kp k13 (by simp)
    obtain ⟨g13, hg13⟩ : ∃ g, w12.heap.size = g := ⟨_, rfl⟩
    rw [hg13] at y13
    unfold lv
    go_wp2_with fail
    generalize w12.alloc (.cells #[.int .i64 la.f, .int .i64 la.t, .string la.d] 33) = w13 at *
    have hd13 : Kp [] w13 w13.drew := (Kp.rfl_ [] w13).drew
    have h14 := h13.kp hd13
    have y14 := y13.kp hd13 (by simp)
    have z14 := z13.kp hd13 (by simp)
    obtain ⟨A2, c2, rfl⟩ := h14.q.1.2.slice
    have a0 := y14.cell 0
    have a1 := y14.cell 1
    have a2 := y14.cell 2
    have a3 := z14.cell 0
    have a4 := z14.cell 1
    have a5 := z14.cell 2
    have a6 := h14.q.1.1.cell 0
    refine region_plan [.row [0, 1, 2, 3, 4, 5, 6, 7, 8, 9, 11, 12, 13, 14, 15], .kept 10, .row [16, 17, 18]] (by kernel_rfl) (by kernel_rfl) (calm_of (fun _ _ _ h => h.2) (fun _ _ h => h) DonePost.ret) ?_
    simp only [wpPlan, pickL, List.filterMap_cons, List.filterMap_nil, List.getElem?_cons_zero, List.getElem?_cons_succ]
    go_wp2_with fail
    refine (plen_any g1 _ v1' most ls' _ h14.p.1).mono ?_
    rintro e w15 ⟨rfl, rfl⟩
    go_wp2_with fail
    refine ⟨KeptT.rfl_ _ _, ?_⟩
    go_wp2_with fail
    refine sqQ_end (by rfl) ?_
    go_wp2_with fail
    go_ret
    exact ⟨rfl, v1', .slice A2 ls'.length c2, ls', h14, hk7⟩
  · have hd : Kp [] w1 w1.drew := (Kp.rfl_ [] w1).drew
    have h2 := h1.kp hd
    have b2 := b1.kp hd (by simp)
    have d5 := b2.cell 5
    have hsh := b2.shape
    have hgbl := b2.lt
    obtain ⟨w2, hw2⟩ : ∃ w2, w1.drew = w2 := ⟨_, rfl⟩
    have hmT : gb ∉ w2.heap.size :: g1 :: v1.ownBlock.toList := by
      intro hm
      rcases List.mem_cons.1 hm with e | hm
      · rw [hw2] at hgbl; omega
      · exact hm1 hm
    rw [hw2] at h2 b2 d5 hsh
    have hka : Kp [] w2 (w2.alloc (.cells #[] 3)) := (Kp.rfl_ [] w2).alloc _
    have hls2 := ho.ls.kp h2.p.2.1 (by simp)
    have hsz := ho.sz
    have hnc := ho.n
    have hcm := ho.c
    unfold reachBytes at hsz
    refine region_planT (w2.heap.size :: g1 :: v1.ownBlock.toList) [.row [0, 2], .ld 3, .row [6, 7], .ld 8, .kept 1, .kept 4, .kept 5, .row [9, 10]] (by kernel_rfl) (by kernel_rfl) (calm_of (fun _ _ _ h => h.2) (fun _ _ h => h) DonePost.ret) ?_
    simp only [wpPlan, pickL, List.filterMap_cons, List.filterMap_nil, List.getElem?_cons_zero, List.getElem?_cons_succ]
    rw [hw2]
    clear hw2
    go_wp2_with fail
    refine ⟨by first | exact ld_at rfl rfl hmT hsh | exact ld_at rfl rfl hmT hsh _ rfl, ?_⟩
    go_wp2_with fail
    refine ⟨by first | exact ld_at rfl rfl hmT hsh | exact ld_at rfl rfl hmT hsh _ rfl, ?_⟩
    go_wp2_with fail
    refine ⟨(hka.mono (T := w2.heap.size :: g1 :: v1.ownBlock.toList) (by simp)).kept, ?_⟩
    refine wpl_copy_int2 w2 rfl _ _ rfl A n c zs rfl rfl hls2 (by omega) ?_
    intro A' c' w3 hc' hls3 hA' hk3 hk3'
    refine wpList_nil (And.intro (hk3'.mono (T := w2.heap.size :: g1 :: v1.ownBlock.toList) (fun x _ hx => by rw [List.mem_singleton.1 hx]; exact List.mem_cons_self)).kept ?_)
    have h3 := h2.kp hk3
    have b3 := b2.kp hk3 (by simp)
    go_wp2_with fail
    refine (ppurge_any A' n c' zs g1 _ v1 most ls w3 h3.p.1 hls3 (by omega) hlen (fun h0 ad e hx => by have := hA' ad e; have := (h2.p.1.2.ob hx).2; omega)).mono ?_
    rintro e w4 ⟨rfl, hm4⟩
    obtain ⟨v1', h4⟩ := h3.left hm4
    have b4 := b3.kp hm4.keeps hm1
    go_wp2_with fail
    refine ⟨(hm4.keeps.mono (T := w2.heap.size :: g1 :: v1.ownBlock.toList) (fun x _ hx => List.mem_cons_of_mem _ hx)).kept, ?_⟩
    go_wp2_with fail
    refine (rpurge_any A n c zs g2 _ v2 most ls w4 h4.q.1 (ho.ls.kp h4.q.2.1 (by simp)) (by omega) hlen).mono ?_
    rintro e w9 ⟨rfl, hm5⟩
    obtain ⟨v2', h7⟩ := h4.right hm5
    have b7 := b4.kp hm5.keeps hm2
    have hk7 := hk.keep zs
    generalize (ls.length : Int) - ((keepL zs ls).length : Int) = r at *
    generalize keepL zs ls = ls' at *
    go_wp2_with fail
    refine sqQ_end (by rfl) ?_
    have e1 := b7.cell 1
    go_wp2_with fail
    have hlen7 := hk7.len
    refine (pat_any g1 _ v1' most k ls' w9 h7.p.1 hk1 hk2).mono ?_
    rintro e w10 ⟨he, hk10⟩
    obtain ⟨⟨la, ba⟩, hA⟩ : ∃ x, AtL ls' k = x := ⟨_, rfl⟩
    rw [hA] at he
    subst he
    have k11 : Kp [] w10 (w10.alloc (.cells #[.int .i64 la.f, .int .i64 la.t, .string la.d] 33)) := (Kp.rfl_ [] w10).alloc _
    have y11 : At (w10.alloc (.cells #[.int .i64 la.f, .int .i64 la.t, .string la.d] 33)) w10.heap.size 33 #[.int .i64 la.f, .int .i64 la.t, .string la.d] := At.new w10 _ _
    have h11 := (h7.kp hk10).kp k11
    have b11 := (b7.kp hk10 (by simp)).kp k11 (by simp)
    obtain ⟨g11, hg11⟩ : ∃ g, w10.heap.size = g := ⟨_, rfl⟩
    rw [hg11] at y11
    have f1 := b11.cell 1
    unfold lv
    go_wp2_with fail
    generalize w10.alloc (.cells #[.int .i64 la.f, .int .i64 la.t, .string la.d] 33) = w11 at *
    refine (rat_any g2 _ v2' most k ls' w11 h11.q.1 hlen7).mono ?_
    rintro e w12 ⟨he, hk12⟩
    rw [hA] at he
    subst he
    have k13 : Kp [] w12 (w12.alloc (.cells #[.int .i64 la.f, .int .i64 la.t, .string la.d] 33)) := (Kp.rfl_ [] w12).alloc _
    have y13 : At (w12.alloc (.cells #[.int .i64 la.f, .int .i64 la.t, .string la.d] 33)) w12.heap.size 33 #[.int .i64 la.f, .int .i64 la.t, .string la.d] := At.new w12 _ _
    have h13 := (h11.kp hk12).kp k13
    have z13 := (y11.kp hk12 (by simp)).kp k13 (by simp)
    obtain ⟨g13, hg13⟩ : ∃ g, w12.heap.size = g := ⟨_, rfl⟩
    rw [hg13] at y13
    unfold lv
    go_wp2_with fail
    generalize w12.alloc (.cells #[.int .i64 la.f, .int .i64 la.t, .string la.d] 33) = w13 at *
    have hd13 : Kp [] w13 w13.drew := (Kp.rfl_ [] w13).drew
    have h14 := h13.kp hd13
    have y14 := y13.kp hd13 (by simp)
    have z14 := z13.kp hd13 (by simp)
    obtain ⟨A2, c2, rfl⟩ := h14.q.1.2.slice
    have a0 := y14.cell 0
    have a1 := y14.cell 1
    have a2 := y14.cell 2
    have a3 := z14.cell 0
    have a4 := z14.cell 1
    have a5 := z14.cell 2
    have a6 := h14.q.1.1.cell 0
    refine region_plan [.row [0, 1, 2, 3, 4, 5, 6, 7, 8, 9, 11, 12, 13, 14, 15], .kept 10, .row [16, 17, 18]] (by kernel_rfl) (by kernel_rfl) (calm_of (fun _ _ _ h => h.2) (fun _ _ h => h) DonePost.ret) ?_
    simp only [wpPlan, pickL, List.filterMap_cons, List.filterMap_nil, List.getElem?_cons_zero, List.getElem?_cons_succ]
    go_wp2_with fail
    refine (plen_any g1 _ v1' most ls' _ h14.p.1).mono ?_
    rintro e w15 ⟨rfl, rfl⟩
    go_wp2_with fail
    refine ⟨KeptT.rfl_ _ _, ?_⟩
    go_wp2_with fail
    refine sqQ_end (by rfl) ?_
    go_wp2_with fail
    go_ret
    exact ⟨rfl, v1', .slice A2 ls'.length c2, ls', h14, hk7⟩
  · have h7 := h1
    have b7 := b1
    have hk7 := hk
    obtain ⟨v1', hv1'⟩ : ∃ v, v = v1 := ⟨_, rfl⟩
    obtain ⟨v2', hv2'⟩ : ∃ v, v = v2 := ⟨_, rfl⟩
    obtain ⟨ls', hls'⟩ : ∃ l, l = ls := ⟨_, rfl⟩
    rw [← hv1', ← hv2', ← hls'] at h7
    rw [← hls'] at hk7
    generalize w1 = w9 at *
    have hlen7 := hk7.len
    refine (pat_any g1 _ v1' most k ls' w9 h7.p.1 hk1 hk2).mono ?_
    rintro e w10 ⟨he, hk10⟩
    obtain ⟨⟨la, ba⟩, hA⟩ : ∃ x, AtL ls' k = x := ⟨_, rfl⟩
    rw [hA] at he
    subst he
    have k11 : Kp [] w10 (w10.alloc (.cells #[.int .i64 la.f, .int .i64 la.t, .string la.d] 33)) := (Kp.rfl_ [] w10).alloc _
    have y11 : At (w10.alloc (.cells #[.int .i64 la.f, .int .i64 la.t, .string la.d] 33)) w10.heap.size 33 #[.int .i64 la.f, .int .i64 la.t, .string la.d] := At.new w10 _ _
    have h11 := (h7.kp hk10).kp k11
    have b11 := (b7.kp hk10 (by simp)).kp k11 (by simp)
    obtain ⟨g11, hg11⟩ : ∃ g, w10.heap.size = g := ⟨_, rfl⟩
    rw [hg11] at y11
    have f1 := b11.cell 1
    unfold lv
    go_wp2_with fail
    generalize w10.alloc (.cells #[.int .i64 la.f, .int .i64 la.t, .string la.d] 33) = w11 at *
    refine (rat_any g2 _ v2' most k ls' w11 h11.q.1 hlen7).mono ?_
    rintro e w12 ⟨he, hk12⟩
    rw [hA] at he
    subst he
    have k13 : Kp [] w12 (w12.alloc (.cells #[.int .i64 la.f, .int .i64 la.t, .string la.d] 33)) := (Kp.rfl_ [] w12).alloc _
    have y13 : At (w12.alloc (.cells #[.int .i64 la.f, .int .i64 la.t, .string la.d] 33)) w12.heap.size 33 #[.int .i64 la.f, .int .i64 la.t, .string la.d] := At.new w12 _ _
    have h13 := (h11.kp hk12).kp k13
    have z13 := (y11.kp hk12 (by simp)).kp k13 (by simp)
    obtain ⟨g13, hg13⟩ : ∃ g, w12.heap.size = g := ⟨_, rfl⟩
    rw [hg13] at y13
    unfold lv
    go_wp2_with fail
    generalize w12.alloc (.cells #[.int .i64 la.f, .int .i64 la.t, .string la.d] 33) = w13 at *
    have hd13 : Kp [] w13 w13.drew := (Kp.rfl_ [] w13).drew
    have h14 := h13.kp hd13
    have y14 := y13.kp hd13 (by simp)
    have z14 := z13.kp hd13 (by simp)
    obtain ⟨A2, c2, rfl⟩ := h14.q.1.2.slice
    have a0 := y14.cell 0
    have a1 := y14.cell 1
    have a2 := y14.cell 2
    have a3 := z14.cell 0
    have a4 := z14.cell 1
    have a5 := z14.cell 2
    have a6 := h14.q.1.1.cell 0
    refine region_plan [.row [0, 1, 2, 3, 4, 5, 6, 7, 8, 9, 11, 12, 13, 14, 15], .kept 10, .row [16, 17, 18]] (by kernel_rfl) (by kernel_rfl) (calm_of (fun _ _ _ h => h.2) (fun _ _ h => h) DonePost.ret) ?_
    simp only [wpPlan, pickL, List.filterMap_cons, List.filterMap_nil, List.getElem?_cons_zero, List.getElem?_cons_succ]
    go_wp2_with fail
    refine (plen_any g1 _ v1' most ls' _ h14.p.1).mono ?_
    rintro e w15 ⟨rfl, rfl⟩
    go_wp2_with fail
    refine ⟨KeptT.rfl_ _ _, ?_⟩
    go_wp2_with fail
    refine sqQ_end (by rfl) ?_
    go_wp2_with fail
    go_ret
    exact ⟨rfl, v1', .slice A2 ls'.length c2, ls', h14, hk7⟩
end Go.Proofs.Ytencpplopdogmaa
