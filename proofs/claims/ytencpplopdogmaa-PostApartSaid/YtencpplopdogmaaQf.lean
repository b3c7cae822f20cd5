/- slices.DeleteFunc over letters, with the closure of Purge. -/
import Derived.Test.YtencpplopdogmaaQe
namespace Go.Proofs.Ytencpplopdogmaa
set_option maxRecDepth 100000
open Go.RowKit
set_option linter.unusedVariables false

theorem own_set1 {w : World} {base g n c o : Nat} {e : TypeId} {size : Nat} {xs : List Value} (h : w.ownsRow base e size (.slice (some ⟨g, 0, none⟩) n c) n xs) (u : Value) (ho : o < n * size) :
    (w.setCell ⟨g, o, none⟩ u).ownsRow base e size (.slice (some ⟨g, 0, none⟩) n c) n (xs.set o u) := by
  obtain ⟨h1, h2⟩ := h
  refine ⟨by simpa using h1, ?_⟩
  rcases h2 with ⟨h2, _⟩ | ⟨g', cap, cur, hv, hb, hg, hn, hm, hs, ht⟩
  · cases h2
  · injection hv with e1 e2 e3
    injection e1 with e1
    injection e1 with e1
    subst e1 e3
    refine .inr ⟨g, c, cur.setIfInBounds o u, rfl, hb, ?_, hn, hm, by simpa using hs, ?_⟩
    · simp [World.setCell, Array.getElem?_modify, hg]
    · rw [Array.toList_setIfInBounds, List.take_set, ht]
theorem lcs_set : ∀ (ls : List Ltr) (i : Nat) (l : Ltr), (((lcs ls).set (i * 3) (.int .i64 l.f)).set (i * 3 + 1) (.int .i64 l.t)).set (i * 3 + 2) (.string l.d) = lcs (ls.set i l) ∨ ls.length ≤ i
  | [], i, l => .inr (Nat.zero_le _)
  | x :: ls, 0, l => .inl rfl
  | x :: ls, i + 1, l => by
    rcases lcs_set ls i l with h | h
    · refine .inl ?_
      have e : (i + 1) * 3 = i * 3 + 1 + 1 + 1 := by omega
      show (((lc x ++ lcs ls).set _ _).set _ _).set _ _ = lc x ++ lcs (ls.set i l)
      rw [← h, e]
      rfl
    · exact .inr (by simpa using h)
theorem LR.set_ {base : Nat} {w : World} {g n c i : Nat} {ls : List Ltr} (h : LR base w (.slice (some ⟨g, 0, none⟩) n c) ls) (hn : ls.length = n) (l : Ltr) (hi : i < n) :
    LR base (((w.setCell ⟨g, i * 3, none⟩ (.int .i64 l.f)).setCell ⟨g, i * 3 + 1, none⟩ (.int .i64 l.t)).setCell ⟨g, i * 3 + 2, none⟩ (.string l.d)) (.slice (some ⟨g, 0, none⟩) n c) (ls.set i l) := by
  unfold LR at h ⊢
  rw [hn] at h
  rw [List.length_set, hn]
  have h1 : i * 3 < n * 3 := by omega
  have h2 : i * 3 + 1 < n * 3 := by omega
  have h4 : i * 3 + 2 < n * 3 := by omega
  have h3 := own_set1 (own_set1 (own_set1 h (.int .i64 l.f) h1) (.int .i64 l.t) h2) (.string l.d) h4
  rcases lcs_set ls i l with h4 | h4
  · rw [h4] at h3
    exact h3
  · omega
def keepL (zs : List Int) (ls : List Ltr) : List Ltr := ls.filter fun l => !hitL zs l
theorem keepL_len (zs : List Int) (ls : List Ltr) : (keepL zs ls).length ≤ ls.length := List.length_filter_le _ _
theorem keepL_no {zs : List Int} {ls : List Ltr} (h : ∀ l ∈ ls, hitL zs l = false) : keepL zs ls = ls := by
  unfold keepL
  rw [List.filter_eq_self]
  intro l hl
  simp [h l hl]
/-- Where the letters stand while those that stay are moved forward: i that stay, anything, those not looked at. -/
structure Mid (zs : List Int) (ls cur : List Ltr) (i j : Nat) : Prop where
  len : cur.length = ls.length
  front : cur.take i = keepL zs (ls.take j)
  n : i = (keepL zs (ls.take j)).length
  back : cur.drop j = ls.drop j
  lt : i < j
theorem Mid.at_ {zs : List Int} {ls cur : List Ltr} {i j : Nat} (h : Mid zs ls cur i j) : cur[j]? = ls[j]? := by
  have := congrArg (·[0]?) h.back
  simpa using this
theorem Mid.skip {zs : List Int} {ls cur : List Ltr} {i j : Nat} {l : Ltr} (h : Mid zs ls cur i j) (hl : ls[j]? = some l) (hh : hitL zs l = true) : Mid zs ls cur i (j + 1) := by
  have e : keepL zs (ls.take (j + 1)) = keepL zs (ls.take j) := by
    unfold keepL
    rw [List.take_add_one, hl]
    simp [hh]
  refine ⟨h.len, by rw [e]; exact h.front, by rw [e]; exact h.n, ?_, by have := h.lt; omega⟩
  rw [← List.drop_drop, ← List.drop_drop, h.back]
theorem Mid.keep {zs : List Int} {ls cur : List Ltr} {i j : Nat} {l : Ltr} (h : Mid zs ls cur i j) (hl : ls[j]? = some l) (hh : hitL zs l = false) : Mid zs ls (cur.set i l) (i + 1) (j + 1) := by
  have hj := (List.getElem?_eq_some_iff.1 hl).1
  have e : keepL zs (ls.take (j + 1)) = keepL zs (ls.take j) ++ [l] := by
    unfold keepL
    rw [List.take_add_one, hl, List.filter_append]
    simp [hh]
  have hi := h.lt
  have hlen := h.len
  refine ⟨by simpa using hlen, ?_, by rw [e]; simp; exact h.n, ?_, by omega⟩
  · rw [e, ← h.front, List.take_add_one, List.take_set_of_le (Nat.le_refl _)]
    congr 1
    rw [List.getElem?_set_self (by omega)]
    rfl
  · rw [List.drop_set_of_lt (by omega), ← List.drop_drop, ← List.drop_drop, h.back]
theorem Mid.start {zs : List Int} {ls : List Ltr} {k : Nat} {l : Ltr} (hl : ls[k]? = some l) (hh : hitL zs l = true) (hno : ∀ x ∈ ls.take k, hitL zs x = false) : Mid zs ls ls k (k + 1) := by
  have hk := (List.getElem?_eq_some_iff.1 hl).1
  have e : keepL zs (ls.take (k + 1)) = ls.take k := by
    rw [← keepL_no hno]
    unfold keepL
    rw [List.take_add_one, hl]
    simp [hh]
  exact ⟨rfl, e.symm, by rw [e]; simp; omega, rfl, by omega⟩
theorem LR.frozen {base : Nat} {w : World} {g n c o : Nat} {ls : List Ltr} (h : LR base w (.slice (some ⟨g, 0, none⟩) n c) ls) : w.frozen? ⟨g, o, none⟩ = false := by
  rcases h.2 with ⟨h2, _⟩ | ⟨g', cap, cur, hv, hb, hg, hn, hm, hs, ht⟩
  · cases h2
  · injection hv with e1 e2 e3
    injection e1 with e1
    injection e1 with e1
    subst e1
    simp [World.frozen?, hg]
set_option maxHeartbeats 4000000 in
theorem delf_any (gb : Nat) (A : Option Addr) (n0 c0 : Nat) (zs : List Int) (base : Nat) (vk : Value) (ls : List Ltr) (w : World) (h : NB w gb A n0 c0 zs) (hr : LR base w vk ls) (hl : ls.length ≤ 1000000)
    (hgb : vk.ownBlock ≠ some gb) (hA : 0 < n0 → ∀ ad, A = some ad → vk.ownBlock ≠ some ad.block) :
    Calls Try.prog 33 #[vk, FnP gb] w fun e w' => ∃ v', e = .returned v' ∧ LR base w' v' (keepL zs ls) ∧ Kp vk.ownBlock.toList w w' ∧ v'.ownBlock = vk.ownBlock := by
  obtain ⟨B, c, rfl⟩ := hr.slice
  obtain ⟨n, hn⟩ : ∃ n, ls.length = n := ⟨_, rfl⟩
  have HN := Lib.hid hn
  rw [hn] at hr hgb hA hl ⊢
  clear hn
  go_enter Try.func33, Try.ntmps33
  go_wp2_with fail
  refine (idxf_any gb A n0 c0 zs base B n c ls w HN.out h hr hl).mono ?_
  rintro e w1 ⟨⟨r, rfl, hi⟩, hk1⟩
  rcases hi with ⟨rfl, hno⟩ | ⟨k, l, rfl, hkl, hhit, hno⟩
  · go_wp2_with fail
    go_ret
    refine ⟨_, rfl, ?_, hk1.mono (by simp), rfl⟩
    rw [keepL_no hno]
    exact hr.kp hk1 (by simp)
  · have hkn := (List.getElem?_eq_some_iff.1 hkl).1
    rw [HN.out] at hkn
    have HM := Lib.hid (Mid.start hkl hhit hno)
    have hk0 : ((k : Int) == -1) = false := by rw [beq_eq_false_iff_ne]; omega
    obtain ⟨g, rfl, -⟩ := hr.at_ hkl
    have hrg := own_block_ltn hr (g := g) rfl
    have hgb' : gb ≠ g := fun e => hgb (by rw [e]; rfl)
    have hA' : 0 < n0 → ∀ ad, A = some ad → ad.block ≠ g := fun h0 ad e1 e2 => hA h0 ad e1 (by rw [e2]; rfl)
    have hcc : n ≤ c ∧ c ≤ maxLen := by
      rcases hr.shape with ⟨h3, _⟩ | ⟨_, c', h3, h4, h5, _⟩
      · cases h3
      · injection h3 with _ h6 h3
        subst h3
        exact ⟨by rw [HN.out] at h4; exact h4, h5⟩
    clear hno hhit hkl hgb hA
    have hwr : IntKind.i64.wrap ((k : Int) + 1) = (k : Int) + 1 := by rw [IntKind.wrap_i64]; omega
    go_wp2_with fail
    go_loopg [5, 6] n (fun gk i j wr => ∃ (a b : Nat) (cur : List Ltr), n - b ≤ gk ∧ i = .int .i64 a ∧ j = .int .i64 b ∧ b ≤ n ∧ Mid zs ls cur a b ∧ LR base wr (.slice (some ⟨g, 0, none⟩) n c) cur ∧ Kp [g] w wr)
    case atStart => exact ⟨k, k + 1, ls, by omega, rfl, by go_num, by omega, HM.out, hr.kp hk1 (by simp), hk1.mono (by simp)⟩
    case round =>
      obtain ⟨a, b, cur, hgk, rfl, rfl, hb, hmid, hrow, hkr⟩ := hrel
      have hcl : cur.length = n := by rw [hmid.len, HN.out]
      have hab := hmid.lt
      by_cases hlt : b < n
      · obtain ⟨l2, hl2⟩ : ∃ l2, ls[b]? = some l2 := ⟨_, List.getElem?_eq_getElem (by have := HN.out; omega)⟩
        obtain ⟨l3, hl3⟩ : ∃ l3, cur[a]? = some l3 := ⟨_, List.getElem?_eq_getElem (by omega)⟩
        have hcb : cur[b]? = some l2 := hmid.at_.trans hl2
        have HL := Lib.hid hl2
        have HMD := Lib.hid hmid
        have HC := Lib.hid hcl
        have hka : Kp [] wr (wr.alloc (.cells #[.int .i64 l2.f, .int .i64 l2.t, .string l2.d] 33)) := (Kp.rfl_ [] wr).alloc _
        have hb6 : At (wr.alloc (.cells #[.int .i64 l2.f, .int .i64 l2.t, .string l2.d] 33)) wr.heap.size 33 #[.int .i64 l2.f, .int .i64 l2.t, .string l2.d] := At.new wr _ _
        obtain ⟨_, e0, r0, r1, r2⟩ := hrow.at_ hcb
        injection e0 with e0
        injection e0 with e0
        subst e0
        have hrow2 := hrow.kp hka (by simp)
        obtain ⟨gv, hgv⟩ : ∃ gv, wr.heap.size = gv := ⟨_, rfl⟩
        have hgg : g < gv := by rw [← hgv]; exact Nat.lt_of_lt_of_le hrg.2 hkr.size
        rw [hgv] at hb6
        have d0 := hb6.cell 0
        have d1 := hb6.cell 1
        have d2 := hb6.cell 2
        have b2 : (b : Int) < (n : Int) := by omega
        have hNB : NB (wr.alloc (.cells #[.int .i64 l2.f, .int .i64 l2.t, .string l2.d] 33)) gb A n0 c0 zs := (h.kp hkr (by simpa using hgb') (fun h0 ad e => by simpa using hA' h0 ad e)).kp hka (by simp) (by simp)
        clear hl2 hcb hmid hcl
        unfold FnP
        go_wp2_with fail
        generalize wr.alloc (.cells #[.int .i64 l2.f, .int .i64 l2.t, .string l2.d] 33) = w3 at *
        refine (hit_any gb A n0 c0 zs l2 w3 hNB).mono ?_
        rintro e w4 ⟨rfl, hk4⟩
        obtain ⟨bb, hbb⟩ : ∃ bb, hitL zs l2 = bb := ⟨_, rfl⟩
        have HBB := Lib.hid hbb
        rw [hbb]
        clear hbb
        have hrow4 := hrow2.kp hk4 (by simp)
        have hk14 : Kp [g] w w4 := (hkr.then hka (by simp)).then hk4 (by simp)
        cases bb
        · obtain ⟨_, e0, s0, s1, s2⟩ := hrow4.at_ hl3
          injection e0 with e0
          injection e0 with e0
          subst e0
          have hb7 := hb6.kp hk4 (by simp)
          have q0 := hb7.cell 0
          have q1 := hb7.cell 1
          have q2 := hb7.cell 2
          have f0 := hrow4.frozen (o := a * 3)
          have f1 := hrow4.frozen (o := a * 3 + 1)
          have f2 := hrow4.frozen (o := a * 3 + 2)
          have b3 : (a : Int) < (n : Int) := by omega
          have HA := Lib.hid hrow4
          clear hl3 hab
          go_wp2_with fail
          go_roundg (n - (b + 1))
          case measure => omega
          case rel =>
            have hset := HA.out.set_ HC.out l2 (i := a) (by have := HMD.out.lt; omega)
            refine ⟨a + 1, b + 1, cur.set a l2, by omega, by go_num, by go_num, by omega, HMD.out.keep HL.out HBB.out, hset, hk14.then ((((Kp.rfl_ [g] w4).set (by simp) _).set (by simp) _).set (by simp) _) (by simp)⟩
        · clear hl3 hab
          have HA := Lib.hid hrow4
          go_wp2_with fail
          go_roundg (n - (b + 1))
          case measure => omega
          case rel => exact ⟨a, b + 1, cur, by omega, rfl, by go_num, by omega, HMD.out.skip HL.out HBB.out, HA.out, hk14⟩
      · obtain rfl : b = n := by omega
        have HMD := Lib.hid hmid
        have HC := Lib.hid hcl
        have ht : cur.take a = keepL zs ls := by rw [hmid.front, ← HN.out, List.take_length]
        have hrow2 := hrow.take_ a (by omega)
        rw [ht] at hrow2
        have hlk : (keepL zs ls).length = a := by rw [← ht]; simp; omega
        have hac : ¬ (c - a = 0) := by omega
        have haz : (a : Int) ≤ (b : Int) := by omega
        have hac2 : (a : Int) ≤ (c : Int) := by omega
        have hbc : (b : Int) ≤ (c : Int) := by omega
        obtain ⟨w5, hclr, hown5, hk5⟩ := hrow2.clear_ (b - a) (a * 3) (by omega) (by omega)
        have hkf := hkr.then hk5 (by simp)
        clear hmid hcl ht hlk
        go_wp2_with fail
        trace_state
        go_ret
        exact ⟨_, rfl, hown5, hkf, rfl⟩
end Go.Proofs.Ytencpplopdogmaa
