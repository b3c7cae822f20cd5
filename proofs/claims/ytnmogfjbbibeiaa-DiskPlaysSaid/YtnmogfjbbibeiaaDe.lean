/- Package disk: what lasts; Sync. -/
import Derived.Test.YtnmogfjbbibeiaaDd
namespace Go.Proofs.Ytnmogfjbbibeiaa
set_option maxRecDepth 100000
open Go.RowKit Go.Maps Go.WideMaps Go.WideElems Go.ChangeMaps
set_option linter.unusedVariables false

set_option maxHeartbeats 2000000 in
theorem settle_any (g : Nat) (l t : ByteArray) (y : Bool) (n : Int) (k : Nat) (w : World) (h : At w g 70 #[.string l, .string t, .bool y]) (hs : l.size + t.size ≤ 1099511627776)
    (hk : (n < 0 ∧ k = 0) ∨ (0 ≤ n ∧ n ≤ t.size ∧ n = k) ∨ ((t.size : Int) < n ∧ k = t.size)) :
    Calls Try.prog 40 #[.pointer (some ⟨g, 0, none⟩), .int .i64 n] w (Settled w g l t y k) := by
  have hd : Kp [] w w.drew := (Kp.rfl_ [] w).drew
  have h2 := h.kp hd (by simp)
  have c0 := h2.cell 0
  have c1 := h2.cell 1
  have f0 := h2.frozen 0
  rcases hk with ⟨hn, hk⟩ | ⟨hn1, hn2, hk⟩ | ⟨hn, hk⟩
  · subst hk
    have hL : l ++ t.extract 0 0 = l := by rw [show t.extract 0 0 = ⟨#[]⟩ from ByteArray.ext (by simp)]; exact ByteArray.append_empty
    have a1 : At (w.setCell ⟨g, 0, none⟩ (.string (l))).drew g 70 #[.string (l), .string t, .bool y] := (h.set 0 (.string (l))).drew
    have f1 := a1.frozen 1
    have q1 := a1.cell 1
    have a2 : At (((w.setCell ⟨g, 0, none⟩ (.string (l))).setCell ⟨g, 1, none⟩ (.string ⟨#[]⟩)).drew) g 70 #[.string (l), .string ⟨#[]⟩, .bool y] := ((h.set 0 (.string (l))).set 1 (.string ⟨#[]⟩)).drew
    have k2 : Kp [g] w (((w.setCell ⟨g, 0, none⟩ (.string (l))).setCell ⟨g, 1, none⟩ (.string ⟨#[]⟩)).drew) := (((Kp.rfl_ [g] w).set (by simp) _).set (by simp) _).drew
    have HL := Lib.hid hL
    have H2 := Lib.hid a2
    clear hL a1 a2
    go_enter Try.func40, Try.ntmps40
    go_wp2_with fail
    refine region_plan [.row [0, 1, 2, 3, 4, 5, 6, 7, 8, 10, 11, 12, 13, 14], .kept 9, .kept 15, .kept 16, .row [17, 18, 19, 20]] (by kernel_rfl) (by kernel_rfl) (calm_of (fun _ _ _ h => h.2) (fun _ _ h => h) Settled.ret) ?_
    simp only [wpPlan, pickL, List.filterMap_cons, List.filterMap_nil, List.getElem?_cons_zero, List.getElem?_cons_succ]
    go_wp2_with fail
    refine ⟨KeptT.rfl_ _ _, ?_⟩
    go_wp2_with fail
    refine ⟨KeptT.rfl_ _ _, ?_⟩
    go_wp2_with fail
    refine ⟨KeptT.rfl_ _ _, ?_⟩
    go_wp2_with fail
    refine sqQ_end (by rfl) ?_
    go_wp2_with fail
    go_end0
    exact ⟨rfl, by first | exact H2.out | (rw [HL.out]; exact H2.out), k2⟩
  · subst hk
    have hL : l ++ t.extract 0 k = l ++ t.extract 0 k := rfl
    have a1 : At (w.setCell ⟨g, 0, none⟩ (.string (l ++ t.extract 0 k))).drew g 70 #[.string (l ++ t.extract 0 k), .string t, .bool y] := (h.set 0 (.string (l ++ t.extract 0 k))).drew
    have f1 := a1.frozen 1
    have q1 := a1.cell 1
    have a2 : At (((w.setCell ⟨g, 0, none⟩ (.string (l ++ t.extract 0 k))).setCell ⟨g, 1, none⟩ (.string ⟨#[]⟩)).drew) g 70 #[.string (l ++ t.extract 0 k), .string ⟨#[]⟩, .bool y] := ((h.set 0 (.string (l ++ t.extract 0 k))).set 1 (.string ⟨#[]⟩)).drew
    have k2 : Kp [g] w (((w.setCell ⟨g, 0, none⟩ (.string (l ++ t.extract 0 k))).setCell ⟨g, 1, none⟩ (.string ⟨#[]⟩)).drew) := (((Kp.rfl_ [g] w).set (by simp) _).set (by simp) _).drew
    have HL := Lib.hid hL
    have H2 := Lib.hid a2
    clear hL a1 a2
    go_enter Try.func40, Try.ntmps40
    go_wp2_with fail
    refine region_plan [.row [0, 1, 2, 3, 4, 5, 6, 7, 8, 10, 11, 12, 13, 14], .kept 9, .kept 15, .kept 16, .row [17, 18, 19, 20]] (by kernel_rfl) (by kernel_rfl) (calm_of (fun _ _ _ h => h.2) (fun _ _ h => h) Settled.ret) ?_
    simp only [wpPlan, pickL, List.filterMap_cons, List.filterMap_nil, List.getElem?_cons_zero, List.getElem?_cons_succ]
    go_wp2_with fail
    refine ⟨KeptT.rfl_ _ _, ?_⟩
    go_wp2_with fail
    refine ⟨KeptT.rfl_ _ _, ?_⟩
    go_wp2_with fail
    refine ⟨KeptT.rfl_ _ _, ?_⟩
    go_wp2_with fail
    refine sqQ_end (by rfl) ?_
    go_wp2_with fail
    go_end0
    exact ⟨rfl, by first | exact H2.out | (rw [HL.out]; exact H2.out), k2⟩
  · subst hk
    have hL : l ++ t.extract 0 t.size = l ++ t := by rw [ByteArray.extract_zero_size]
    have a1 : At (w.setCell ⟨g, 0, none⟩ (.string (l ++ t))).drew g 70 #[.string (l ++ t), .string t, .bool y] := (h.set 0 (.string (l ++ t))).drew
    have f1 := a1.frozen 1
    have q1 := a1.cell 1
    have a2 : At (((w.setCell ⟨g, 0, none⟩ (.string (l ++ t))).setCell ⟨g, 1, none⟩ (.string ⟨#[]⟩)).drew) g 70 #[.string (l ++ t), .string ⟨#[]⟩, .bool y] := ((h.set 0 (.string (l ++ t))).set 1 (.string ⟨#[]⟩)).drew
    have k2 : Kp [g] w (((w.setCell ⟨g, 0, none⟩ (.string (l ++ t))).setCell ⟨g, 1, none⟩ (.string ⟨#[]⟩)).drew) := (((Kp.rfl_ [g] w).set (by simp) _).set (by simp) _).drew
    have HL := Lib.hid hL
    have H2 := Lib.hid a2
    clear hL a1 a2
    go_enter Try.func40, Try.ntmps40
    go_wp2_with fail
    refine region_plan [.row [0, 1, 2, 3, 4, 5, 6, 7, 8, 10, 11, 12, 13, 14], .kept 9, .kept 15, .kept 16, .row [17, 18, 19, 20]] (by kernel_rfl) (by kernel_rfl) (calm_of (fun _ _ _ h => h.2) (fun _ _ h => h) Settled.ret) ?_
    simp only [wpPlan, pickL, List.filterMap_cons, List.filterMap_nil, List.getElem?_cons_zero, List.getElem?_cons_succ]
    go_wp2_with fail
    refine ⟨KeptT.rfl_ _ _, ?_⟩
    go_wp2_with fail
    refine ⟨KeptT.rfl_ _ _, ?_⟩
    go_wp2_with fail
    refine ⟨KeptT.rfl_ _ _, ?_⟩
    go_wp2_with fail
    refine sqQ_end (by rfl) ?_
    go_wp2_with fail
    go_end0
    exact ⟨rfl, by first | exact H2.out | (rw [HL.out]; exact H2.out), k2⟩
end Go.Proofs.Ytnmogfjbbibeiaa
