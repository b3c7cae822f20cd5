/- Package post: PostPlays. -/
import Derived.Test.YtencpplopdogmaaQr
namespace Go.Proofs.Ytencpplopdogmaa
set_option maxRecDepth 100000
open Go.RowKit
set_option linter.unusedVariables false

set_option maxHeartbeats 8000000 in
theorem pplays_walk (v0 v1 : Value) (w : World) (i0 : InS w 3 v0) (i1 : InS w 22 v1) : Calls Try.prog 3 #[v0, v1] w (Yes w) := by
  obtain ⟨most, rfl, _⟩ := in_int Try.underlying3 i0.in_
  obtain ⟨A, n, c, os, rfl, hn, hc, hos, hrow⟩ := in_opvs i1
  have hrow : RowO w A os := hrow
  have hnm : n ≤ maxLen := Nat.le_trans hn hc
  have HOS := Lib.hid hos
  unfold maxLen at hc
  clear hos i0 i1
  go_enter Try.func3, Try.ntmps3
  go_wp2_with fail
  refine (pnew_any most w).mono ?_
  rintro e w1 (⟨hm, rfl, hp, hk⟩ | ⟨h, rfl, rfl⟩)
  rotate_left
  · go_wp2_with fail
    refine (rpnew_any most w).mono ?_
    rintro e w1 (⟨hm, _⟩ | ⟨_, rfl, rfl⟩)
    · exact absurd hm h
    go_wp2_with fail
    refine (awake_any w).mono ?_
    rintro e w2 ⟨rfl, hk2⟩
    go_wp2_with fail
    go_ret
    exact ⟨rfl, hk2⟩
  have h1 : PF w w1 w.heap.size 58 (.slice none 0 0) most [] := ⟨hp, hk, Nat.le_refl _, by simp [Value.ownBlock]⟩
  have hg1 := hp.1.lt
  obtain ⟨g1, hg⟩ : ∃ g, w.heap.size = g := ⟨_, rfl⟩
  have HG := Lib.hid hg
  rw [hg] at h1 hg1 ⊢
  clear hp hg
  go_wp2_with fail
  refine (rpnew_any most w1).mono ?_
  rintro e w2 (⟨_, rfl, hp2, hk2⟩ | ⟨h, _⟩)
  rotate_left
  · exact absurd hm h
  have h2 : Two w w2 g1 (.slice none 0 0) w1.heap.size (.slice none 0 0) most [] [] := ⟨h1.kp hk2, ⟨hp2, hk.trans hk2, hk.size, by simp [Value.ownBlock]⟩, by omega, by simp [Value.ownBlock], by simp [Value.ownBlock], by simp [Value.ownBlock]⟩
  obtain ⟨g2, hg2⟩ : ∃ g, w1.heap.size = g := ⟨_, rfl⟩
  rw [hg2] at h2 ⊢
  clear h1 hp2 hk hg2 hk2
  go_wp2_with fail
  refine (awake_any w2).mono ?_
  rintro e w3 ⟨rfl, hk3⟩
  go_wp2_with fail
  refine (great_any A n c os w3 HOS.out hnm (hrow.kp (h2.p.2.1.trans hk3))).mono ?_
  rintro e w4 ⟨⟨b, rfl⟩, hk4⟩
  have h4 := (h2.kp hk3).kp hk4
  cases b
  rotate_left
  · go_wp2_with fail
    go_ret
    exact ⟨rfl, h4.p.2.1⟩
  clear h2
  go_wp2_with fail
  go_loopg [43] n (fun gk i wr => ∃ (m : Nat) (v1 v2 : Value) (ls : List Ltr), n - m ≤ gk ∧ i = .int .i64 m ∧ m ≤ n ∧ Two w wr g1 v1 g2 v2 most ls ls ∧ Okl most ls)
  case atStart => exact ⟨0, _, _, [], by omega, rfl, Nat.zero_le _, h4, by simp; omega, by omega, by simp⟩
  case round =>
    obtain ⟨m, v1, v2, ls, hgk, rfl, hmn, hinv, hok⟩ := hrel
    by_cases hlt : m < n
    · obtain ⟨o, ho⟩ : ∃ o, os[m]? = some o := ⟨_, List.getElem?_eq_getElem (by have := HOS.out; omega)⟩
      have HO := Lib.hid (hrow m o ho).1
      obtain ⟨ad, p, rfl, hp, c0, c1, c2, c3, c4, c5⟩ := (hrow.kp hinv.p.2.1).cells ho
      have b2 : (m : Int) < (n : Int) := by omega
      have hka : Kp [] wr (wr.alloc (.cells (oc o).toArray 36)) := (Kp.rfl_ [] wr).alloc _
      have hb6 : At (wr.alloc (.cells (oc o).toArray 36)) wr.heap.size 36 (oc o).toArray := At.new wr _ _
      have h5 := hinv.kp hka
      obtain ⟨gv, hgv⟩ : ∃ gv, wr.heap.size = gv := ⟨_, rfl⟩
      rw [hgv] at hb6
      obtain ⟨kd, k, l, oA, on, oc', zs⟩ := o
      unfold oc at hb6 h5
      clear ho hinv hka
      go_wp2_with fail
      generalize wr.alloc (.cells #[.int .i64 kd, .int .i64 k, .int .i64 l.f, .int .i64 l.t, .string l.d, .slice oA on oc'] 36) = w5 at *
      have d0 := hb6.cell 0
      have d1 := hb6.cell 1
      have d2 := hb6.cell 2
      have d3 := hb6.cell 3
      have d4 := hb6.cell 4
      have d5 := hb6.cell 5
      go_wp2_with fail
      refine (done_any w w5 g1 g2 v1 v2 most ls kd k l oA on oc' zs h5 hok HO.out).mono ?_
      rintro e w6 ⟨rfl, v1', v2', ls', h6, hok6⟩
      go_wp2_with fail
      go_roundg (n - (m + 1))
      case measure => omega
      case rel => exact ⟨m + 1, v1', v2', ls', by omega, by go_num, by omega, h6, hok6⟩
    · go_wp2_with fail
      refine (alike_any w wr g1 g2 v1 v2 most ls hinv hok).mono ?_
      rintro e w6 ⟨rfl, hk6⟩
      go_wp2_with fail
      go_ret
      exact ⟨rfl, hinv.p.2.1.trans hk6⟩
end Go.Proofs.Ytencpplopdogmaa
