/- Package post: PostNil. -/
import Derived.Test.YtencpplopdogmaaQl
import Derived.Test.YtencpplopdogmaaAppI
namespace Go.Proofs.Ytencpplopdogmaa
set_option maxRecDepth 100000
open Go.RowKit
set_option linter.unusedVariables false

set_option maxHeartbeats 8000000 in
theorem pnil_walk (v0 : Value) (w : World) (i0 : InS w 36 v0) : Calls Try.prog 6 #[v0] w (Yes w) := by
  obtain ⟨o, rfl, hok⟩ := in_opv i0
  obtain ⟨kd, k, ⟨lf, lt, ld⟩, A, n, c, zs⟩ := o
  have hk : Kp [] w (w.alloc (.cells #[.int .i64 kd, .int .i64 k, .int .i64 lf, .int .i64 lt, .string ld, .slice A n c] 36)) := (Kp.rfl_ [] w).alloc _
  have b1 : At (w.alloc (.cells #[.int .i64 kd, .int .i64 k, .int .i64 lf, .int .i64 lt, .string ld, .slice A n c] 36)) w.heap.size 36 #[.int .i64 kd, .int .i64 k, .int .i64 lf, .int .i64 lt, .string ld, .slice A n c] := At.new w _ _
  have hok1 := hok.kp hk
  obtain ⟨gb, hgb⟩ : ∃ gb, w.heap.size = gb := ⟨_, rfl⟩
  rw [hgb] at b1
  have hbl := b1.lt
  go_enter Try.func6, Try.ntmps6
  unfold oc
  go_wp2_with fail
  generalize w.alloc (.cells #[.int .i64 kd, .int .i64 k, .int .i64 lf, .int .i64 lt, .string ld, .slice A n c] 36) = w1 at *
  have c1 := b1.cell 1
  go_wp2_with fail
  refine (pat_nil k w1).mono ?_
  rintro e w2 ⟨rfl, hk2⟩
  have b2 := (b1.kp hk2 (by simp)).alloc (.cells #[.int .i64 0, .int .i64 0, .string ⟨#[]⟩] 33)
  have hk3 : Kp [] w2 (w2.alloc (.cells #[.int .i64 0, .int .i64 0, .string ⟨#[]⟩] 33)) := (Kp.rfl_ [] w2).alloc _
  have e1 : At (w2.alloc (.cells #[.int .i64 0, .int .i64 0, .string ⟨#[]⟩] 33)) w2.heap.size 33 #[.int .i64 0, .int .i64 0, .string ⟨#[]⟩] := At.new w2 _ _
  obtain ⟨g2, hg2⟩ : ∃ g, w2.heap.size = g := ⟨_, rfl⟩
  rw [hg2] at e1
  have c1 := b2.cell 1
  have hkA := hk.trans (hk2.trans hk3)
  go_wp2_with fail
  generalize w2.alloc (.cells #[.int .i64 0, .int .i64 0, .string ⟨#[]⟩] 33) = w3 at *
  refine (ptake_nil k w3).mono ?_
  rintro e w4 ⟨rfl, hk4⟩
  have b4 := b2.kp hk4 (by simp)
  have e4 := e1.kp hk4 (by simp)
  have hk5 : Kp [] w4 (w4.alloc (.cells #[.int .i64 0, .int .i64 0, .string ⟨#[]⟩] 33)) := (Kp.rfl_ [] w4).alloc _
  have f1 : At (w4.alloc (.cells #[.int .i64 0, .int .i64 0, .string ⟨#[]⟩] 33)) w4.heap.size 33 #[.int .i64 0, .int .i64 0, .string ⟨#[]⟩] := At.new w4 _ _
  obtain ⟨g4, hg4⟩ : ∃ g, w4.heap.size = g := ⟨_, rfl⟩
  rw [hg4] at f1
  have b5 := b4.kp hk5 (by simp)
  have e5 := e4.kp hk5 (by simp)
  have hkB := (hkA.trans hk4).trans hk5
  go_wp2_with fail
  generalize w4.alloc (.cells #[.int .i64 0, .int .i64 0, .string ⟨#[]⟩] 33) = w5 at *
  refine (awake_any w5).mono ?_
  rintro e w6 ⟨rfl, hk6⟩
  have b6 := b5.kp hk6 (by simp)
  have d0 := b6.cell 0
  have d1 := b6.cell 1
  have d2 := b6.cell 2
  have d3 := b6.cell 3
  have d4 := b6.cell 4
  have d5 := b6.cell 5
  have hk7 : Kp [] w6 (w6.alloc (.cells #[.int .i64 kd, .int .i64 k, .int .i64 lf, .int .i64 lt, .string ld, .slice A n c] 36)) := (Kp.rfl_ [] w6).alloc _
  have hkC := (hkB.trans hk6).trans hk7
  have r7 : At (w6.alloc (.cells #[.int .i64 kd, .int .i64 k, .int .i64 lf, .int .i64 lt, .string ld, .slice A n c] 36)) w6.heap.size 36 #[.int .i64 kd, .int .i64 k, .int .i64 lf, .int .i64 lt, .string ld, .slice A n c] := At.new w6 _ _
  have hro : RowO (w6.alloc (.cells #[.int .i64 kd, .int .i64 k, .int .i64 lf, .int .i64 lt, .string ld, .slice A n c] 36)) (some ⟨w6.heap.size, 0, none⟩) [⟨kd, k, ⟨lf, lt, ld⟩, A, n, c, zs⟩] := fun i o ho => by
    have hi := (List.getElem?_eq_some_iff.1 ho).1
    have hi0 : i = 0 := by simpa using hi
    subst hi0
    have : o = ⟨kd, k, ⟨lf, lt, ld⟩, A, n, c, zs⟩ := by simpa using ho.symm
    subst this
    refine ⟨hok.kp hkC, _, rfl, r7.lt, fun j u hu => ?_⟩
    rw [addr0, Nat.zero_mul, Nat.zero_add, r7.cell j]
    have : (oc ⟨kd, k, ⟨lf, lt, ld⟩, A, n, c, zs⟩).toArray[j]? = some u := by simpa using hu
    exact this
  go_wp2_with fail
  refine (great_any _ 1 1 _ _ rfl (by unfold maxLen; omega) hro).mono ?_
  rintro e w7 ⟨⟨b, rfl⟩, hk8⟩
  have hkD := hkC.trans hk8
  cases b
  rotate_left
  · go_wp2_with fail
    go_ret
    exact ⟨rfl, hkD⟩
  have hk78 := hk7.trans hk8
  have b7 := b6.kp hk78 (by simp)
  have e7 := (e5.kp hk6 (by simp)).kp hk78 (by simp)
  have f7 := (f1.kp hk6 (by simp)).kp hk78 (by simp)
  have d2 := b7.cell 2
  have d3 := b7.cell 3
  have d4 := b7.cell 4
  go_wp2_with fail
  refine (psend_nil ⟨lf, lt, ld⟩ w7).mono ?_
  rintro e w8 ⟨rfl, hk9⟩
  have b8 := b7.kp hk9 (by simp)
  have e8 := e7.kp hk9 (by simp)
  have f8 := f7.kp hk9 (by simp)
  have hkE := hkD.trans hk9
  have q0 := e8.cell 0
  have q1 := e8.cell 1
  have q2 := e8.cell 2
  have r0 := f8.cell 0
  have r1 := f8.cell 1
  have r2 := f8.cell 2
  have d1 := b8.cell 1
  have d5 := cell_alloc (b8.cell 5) (.cells #[] 3)
  go_wp2_with fail
  refine (ptwin_nil k w8).mono ?_
  rintro e w9 ⟨rfl, rfl⟩
  have hokE := hok.kp hkE
  have hsz := hokE.sz
  have hnc := hokE.n
  go_wp2_with (at_builtin; go_must (refine wpl_copy_int_g w8 (by rfl) _ _ rfl A n c zs rfl rfl hokE.ls (by unfold reachBytes at hsz; omega) ?_); intro A' c' w10 _ _ _ hk10)
  refine (ppurge_nil (.slice A' n c') ⟨_, _, _, rfl⟩ w10).mono ?_
  rintro e w11 ⟨rfl, hk11⟩
  go_wp2_with fail
  refine (plen_nil w11).mono ?_
  rintro e w12 ⟨rfl, rfl⟩
  go_wp2_with fail
  refine (pcopy_nil w11).mono ?_
  rintro e w12 ⟨rfl, rfl⟩
  go_wp2_with fail
  go_ret
  exact ⟨rfl, (hkE.trans hk10).trans hk11⟩
end Go.Proofs.Ytencpplopdogmaa
