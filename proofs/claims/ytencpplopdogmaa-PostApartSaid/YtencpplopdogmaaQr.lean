/- Package post: alike. -/
import Derived.Test.YtencpplopdogmaaQp
namespace Go.Proofs.Ytencpplopdogmaa
set_option maxRecDepth 100000
open Go.RowKit
set_option linter.unusedVariables false

def SaidYes (w : World) (e : Ending) (w' : World) : Prop := e = .returned (.bool true) ∧ Kp [] w w'
theorem SaidYes.ret {w : World} (e : Ending) (w' : World) (h : SaidYes w e w') : ∃ v, e = .returned v := ⟨_, h.1⟩
set_option maxHeartbeats 8000000 in
theorem alike_any (w wi : World) (g1 g2 : Nat) (v1 v2 : Value) (most : Int) (ls : List Ltr) (h : Two w wi g1 v1 g2 v2 most ls ls) (hk : Okl most ls) :
    Calls Try.prog 12 #[.pointer (some ⟨g1, 0, none⟩), .pointer (some ⟨g2, 0, none⟩)] wi (SaidYes wi) := by
  obtain ⟨A2, c2, rfl⟩ := h.q.1.2.slice
  have hlen := hk.len
  obtain ⟨n, hn⟩ : ∃ n, ls.length = n := ⟨_, rfl⟩
  have HN := Lib.hid hn
  rw [hn] at h hlen
  clear hn
  have c0 := h.q.1.1.cell 0
  go_enter Try.func12, Try.ntmps12
  go_wp2_with fail
  go_loopg [13] n (fun gk i wr => ∃ m : Nat, n - m ≤ gk ∧ i = .int .i64 m ∧ m ≤ n ∧ Kp [] wi wr)
  case atStart => exact ⟨0, by omega, rfl, Nat.zero_le _, Kp.rfl_ _ _⟩
  case round =>
    obtain ⟨m, hgk, rfl, hm, hkr⟩ := hrel
    have hr := h.kp hkr
    by_cases hlt : m < n
    · obtain ⟨l, hl⟩ : ∃ l, ls[m]? = some l := ⟨_, List.getElem?_eq_getElem (by have := HN.out; omega)⟩
      have HAT := Lib.hid (AtL_yes hl)
      have b2 : (m : Int) < (n : Int) := by omega
      have HL := Lib.hid hl
      clear hl
      go_wp2_with fail
      refine (pat_any g1 _ v1 most m ls wr hr.p.1 (by omega) (by omega)).mono ?_
      rintro e w2 ⟨he, hk2⟩
      rw [HAT.out] at he
      subst he
      have k3 : Kp [] w2 (w2.alloc (.cells #[.int .i64 l.f, .int .i64 l.t, .string l.d] 33)) := (Kp.rfl_ [] w2).alloc _
      have y3 : At (w2.alloc (.cells #[.int .i64 l.f, .int .i64 l.t, .string l.d] 33)) w2.heap.size 33 #[.int .i64 l.f, .int .i64 l.t, .string l.d] := At.new w2 _ _
      have h3 := (hr.kp hk2).kp k3
      have hk3 := (hkr.trans hk2).trans k3
      obtain ⟨g3, hg3⟩ : ∃ g, w2.heap.size = g := ⟨_, rfl⟩
      rw [hg3] at y3
      unfold lv
      go_wp2_with fail
      generalize w2.alloc (.cells #[.int .i64 l.f, .int .i64 l.t, .string l.d] 33) = w3 at *
      have hd : Kp [] w3 w3.drew := (Kp.rfl_ [] w3).drew
      have h4 := h3.kp hd
      have y4 := y3.kp hd (by simp)
      have d0 := h4.q.1.1.cell 0
      have a0 := y4.cell 0
      have a1 := y4.cell 1
      have a2 := y4.cell 2
      obtain ⟨g7, rfl, r0, r1, r2⟩ := h4.q.1.2.at_ HL.out
      refine region_sq_l (by kernel_rfl) (by kernel_rfl) (calm_of (fun _ _ _ h => h.2) (fun _ _ h => h) SaidYes.ret) ?_
      go_wp2_with fail
      refine sqQ_end (by rfl) ?_
      go_wp2_with fail
      go_roundg (n - (m + 1))
      case measure => omega
      case rel => exact ⟨m + 1, by omega, by go_num, by omega, hk3.trans hd⟩
    · obtain rfl : m = n := by omega
      have hd : Kp [] wr wr.drew := (Kp.rfl_ [] wr).drew
      have h4 := hr.kp hd
      have d0 := h4.q.1.1.cell 0
      go_wp2_with fail
      refine region_plan [.row [0, 2, 3, 4, 5], .kept 1, .row [6, 7, 8]] (by kernel_rfl) (by kernel_rfl) (calm_of (fun _ _ _ h => h.2) (fun _ _ h => h) SaidYes.ret) ?_
      simp only [wpPlan, pickL, List.filterMap_cons, List.filterMap_nil, List.getElem?_cons_zero, List.getElem?_cons_succ]
      go_wp2_with fail
      refine (plen_any g1 _ v1 most ls _ h4.p.1).mono ?_
      rintro e w15 ⟨rfl, rfl⟩
      go_wp2_with fail
      refine ⟨KeptT.rfl_ _ _, ?_⟩
      rw [HN.out]
      go_wp2_with fail
      refine sqQ_end (by rfl) ?_
      go_wp2_with fail
      go_ret
      exact ⟨rfl, hkr.trans hd⟩
end Go.Proofs.Ytencpplopdogmaa
