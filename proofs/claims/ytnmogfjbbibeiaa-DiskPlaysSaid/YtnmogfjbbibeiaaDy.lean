/- Package disk: a call of a drive that is none; DiskNil. -/
import Derived.Test.YtnmogfjbbibeiaaDx
import Derived.Test.YtnmogfjbbibeiaaAppI
namespace Go.Proofs.Ytnmogfjbbibeiaa
set_option maxRecDepth 100000
open Go.RowKit
set_option linter.unusedVariables false

def nilE (k : Int) : Int := if k = 1 ∨ k = 2 ∨ k = 3 ∨ k = 6 then 2 else 0
def nilT (k : Int) : Bool := decide (k = 1 ∨ k = 2 ∨ k = 3 ∨ k = 6)
set_option maxHeartbeats 8000000 in
theorem did_nil (o : DOp) (w : World) (hok : DOpOK w o) :
    Calls Try.prog 13 #[.pointer none, .agg #[.int .i64 o.kind, .string o.name, .string o.data, .int .i64 o.k, .slice o.A o.n o.c]] w fun e w' => e = .returned (.tuple #[.pointer none, .int .i64 (nilE o.kind)]) ∧ Kp [] w w' := by
  have hk1 : Kp [] w (w.alloc (.cells #[.int .i64 o.kind, .string o.name, .string o.data, .int .i64 o.k, .slice o.A o.n o.c] 31)) := (Kp.rfl_ [] w).alloc _
  have hok1 := hok.kp hk1
  obtain ⟨kd, nm, dt, k, A, n, c, ks⟩ := o
  by_cases h1 : kd = 1
  · subst h1
    go_enter Try.func13, Try.ntmps13
    go_wp2_with fail
    refine (dappend_nil nm dt _).mono ?_
    rintro e w2 ⟨rfl, rfl⟩
    go_wp2_with fail
    go_ret2
    exact ⟨rfl, hk1⟩
  by_cases h2 : kd = 2
  · subst h2
    go_enter Try.func13, Try.ntmps13
    go_wp2_with fail
    refine (dsync_nil nm _).mono ?_
    rintro e w2 ⟨rfl, rfl⟩
    go_wp2_with fail
    go_ret2
    exact ⟨rfl, hk1⟩
  by_cases h3 : kd = 3
  · subst h3
    go_enter Try.func13, Try.ntmps13
    go_wp2_with fail
    refine (dremove_nil nm _).mono ?_
    rintro e w2 ⟨rfl, rfl⟩
    go_wp2_with fail
    go_ret2
    exact ⟨rfl, hk1⟩
  by_cases h4 : kd = 4
  · subst h4
    go_enter Try.func13, Try.ntmps13
    go_wp2_with fail
    refine (dfuse_nil k _).mono ?_
    rintro e w2 ⟨rfl, rfl⟩
    go_wp2_with fail
    go_ret2
    exact ⟨rfl, hk1⟩
  by_cases h5 : kd = 5
  · subst h5
    have hsz : c * 8 ≤ reachBytes := hok1.sz
    have hnc : n ≤ c := hok1.n
    have hls := hok1.ls
    go_enter Try.func13, Try.ntmps13
    go_wp2_with (at_builtin; go_must (refine wpl_copy_int (w.alloc (.cells #[.int .i64 5, .string nm, .string dt, .int .i64 k, .slice A n c] 31)) rfl _ _ rfl A n c ks (by rw [show (w.alloc (.cells #[.int .i64 5, .string nm, .string dt, .int .i64 k, .slice A n c] 31)).heap.size = w.heap.size + 1 from Array.size_push _]; rfl) rfl hok1.ls (by unfold reachBytes at hsz; omega) ?_); intro A2 c2 w2 hv1 hv2 hv3 hk2)
    refine (dcrash_nil (.slice A2 n c2) w2).mono ?_
    rintro e w3 ⟨rfl, rfl⟩
    go_wp2_with fail
    go_ret2
    exact ⟨rfl, hk1.trans hk2⟩
  by_cases h6 : kd = 6
  · subst h6
    go_enter Try.func13, Try.ntmps13
    go_wp2_with fail
    refine (dflip_nil nm k _).mono ?_
    rintro e w2 ⟨rfl, rfl⟩
    go_wp2_with fail
    go_ret2
    exact ⟨rfl, hk1⟩
  by_cases h7 : kd = 7
  · subst h7
    go_enter Try.func13, Try.ntmps13
    go_wp2_with fail
    refine (dcopy_nil _).mono ?_
    rintro e w2 ⟨rfl, rfl⟩
    go_wp2_with fail
    go_ret2
    exact ⟨rfl, hk1⟩
  have e1 : (kd == 1) = false := by simpa using h1
  have e2 : (kd == 2) = false := by simpa using h2
  have e3 : (kd == 3) = false := by simpa using h3
  have e4 : (kd == 4) = false := by simpa using h4
  have e5 : (kd == 5) = false := by simpa using h5
  have e6 : (kd == 6) = false := by simpa using h6
  have e7 : (kd == 7) = false := by simpa using h7
  have HE : Hid (nilE kd = 0) := Lib.hid (by unfold nilE; rw [if_neg (by omega)])
  clear h1 h2 h3 h4 h5 h6 h7
  go_enter Try.func13, Try.ntmps13
  go_wp2_with fail
  go_ret2
  exact ⟨by rw [HE.out]; rfl, hk1⟩
def errs (k : Int) : Bool := decide (1 ≤ k ∧ k ≤ 3 ∨ k = 6)
set_option maxHeartbeats 8000000 in
theorem dnil_walk (v0 v1 : Value) (w : World) (i0 : InS w 31 v0) (i1 : InS w 9 v1) : Calls Try.prog 8 #[v0, v1] w (Yes w) := by
  obtain ⟨o, rfl, hok⟩ := in_dop i0
  obtain ⟨pf, rfl, _⟩ := in_string Try.underlying9 i1.in_
  obtain ⟨kd, nm, dt, k, A, n, c, ks⟩ := o
  have hk : Kp [] w (w.alloc (.cells #[.int .i64 kd, .string nm, .string dt, .int .i64 k, .slice A n c] 31)) := (Kp.rfl_ [] w).alloc _
  have b1 : At (w.alloc (.cells #[.int .i64 kd, .string nm, .string dt, .int .i64 k, .slice A n c] 31)) w.heap.size 31 #[.int .i64 kd, .string nm, .string dt, .int .i64 k, .slice A n c] := At.new w _ _
  obtain ⟨gb, hgb⟩ : ∃ gb, w.heap.size = gb := ⟨_, rfl⟩
  rw [hgb] at b1
  clear i0 i1
  go_enter Try.func8, Try.ntmps8
  unfold doc
  go_wp2_with fail
  generalize w.alloc (.cells #[.int .i64 kd, .string nm, .string dt, .int .i64 k, .slice A n c] 31) = w1 at *
  refine (dawake_any w1).mono ?_
  rintro e w2 ⟨rfl, hk2⟩
  have b2 := b1.kp hk2 (by simp)
  have hkA := hk.trans hk2
  have d0 := b2.cell 0
  have d1 := b2.cell 1
  have d2 := b2.cell 2
  have d3 := b2.cell 3
  have d4 := b2.cell 4
  have hk3 : Kp [] w2 (w2.alloc (.cells #[.int .i64 kd, .string nm, .string dt, .int .i64 k, .slice A n c] 31)) := (Kp.rfl_ [] w2).alloc _
  have r3 : At (w2.alloc (.cells #[.int .i64 kd, .string nm, .string dt, .int .i64 k, .slice A n c] 31)) w2.heap.size 31 #[.int .i64 kd, .string nm, .string dt, .int .i64 k, .slice A n c] := At.new w2 _ _
  have hkB := hkA.trans hk3
  have hro : RowD (w2.alloc (.cells #[.int .i64 kd, .string nm, .string dt, .int .i64 k, .slice A n c] 31)) (some ⟨w2.heap.size, 0, none⟩) [⟨kd, nm, dt, k, A, n, c, ks⟩] := fun i o ho => by
    have hi := (List.getElem?_eq_some_iff.1 ho).1
    have hi0 : i = 0 := by simpa using hi
    subst hi0
    have : o = ⟨kd, nm, dt, k, A, n, c, ks⟩ := by simpa using ho.symm
    subst this
    refine ⟨hok.kp hkB, _, rfl, r3.lt, fun j u hu => ?_⟩
    rw [addr0, Nat.zero_mul, Nat.zero_add, r3.cell j]
    have : (doc ⟨kd, nm, dt, k, A, n, c, ks⟩).toArray[j]? = some u := by simpa using hu
    exact this
  clear hk b1 hk2
  go_wp2_with fail
  refine (dgreat_any _ 1 1 _ _ rfl (by unfold maxLen; omega) hro).mono ?_
  rintro e w4 ⟨⟨b, rfl, -⟩, hk4⟩
  have hkC := hkB.trans hk4
  have b4 := (b2.kp hk3 (by simp)).kp hk4 (by simp)
  clear hro r3 d0 d1 d2 d3 d4 hkB hk3 hk4
  cases b
  rotate_left
  · go_wp2_with fail
    refine (dawake_any w4).mono ?_
    rintro e w5 ⟨rfl, hk5⟩
    go_wp2_with fail
    go_ret
    exact ⟨rfl, hkC.trans hk5⟩
  have d0 := b4.cell 0
  have d1 := b4.cell 1
  have d2 := b4.cell 2
  have d3 := b4.cell 3
  have d4 := b4.cell 4
  go_wp2_with fail
  refine (did_nil ⟨kd, nm, dt, k, A, n, c, ks⟩ w4 (hok.kp hkC)).mono ?_
  rintro e w5 ⟨rfl, hk5⟩
  have hkD := hkC.trans hk5
  have b5 := b4.kp hk5 (by simp)
  have d0 := b5.cell 0
  have d1 := b5.cell 1
  obtain ⟨ne, hne⟩ : ∃ ne, nilE kd = ne := ⟨_, rfl⟩
  have HNE := Lib.hid hne
  rw [show nilE (DOp.kind ⟨kd, nm, dt, k, A, n, c, ks⟩) = ne from hne]
  clear hne hkC hk5 b4 d2 d3 d4
  rcases (show kd = 1 ∨ kd = 2 ∨ kd = 3 ∨ kd = 6 ∨ kd < 1 ∨ (3 < kd ∧ kd ≠ 6) by omega) with h | h | h | h | h | ⟨h, h6⟩
  · subst h
    have hne : ne = 2 := by rw [← HNE.out]; rfl
    subst hne
    go_wp2_with fail
    refine (dread_nil nm w5).mono ?_
    rintro e w6 ⟨rfl, rfl⟩
    go_wp2_with fail
    refine (dnames_nil pf w5).mono ?_
    rintro e w7 ⟨rfl, rfl⟩
    go_wp2_with fail
    refine (ddown_nil w5).mono ?_
    rintro e w8 ⟨rfl, rfl⟩
    go_wp2_with fail
    refine (dsteps_nil w5).mono ?_
    rintro e w9 ⟨rfl, rfl⟩
    go_wp2_with fail
    refine (dcopy_nil w5).mono ?_
    rintro e w10 ⟨rfl, rfl⟩
    go_wp2_with fail
    go_ret
    exact ⟨rfl, hkD⟩
  · subst h
    have hne : ne = 2 := by rw [← HNE.out]; rfl
    subst hne
    go_wp2_with fail
    refine (dread_nil nm w5).mono ?_
    rintro e w6 ⟨rfl, rfl⟩
    go_wp2_with fail
    refine (dnames_nil pf w5).mono ?_
    rintro e w7 ⟨rfl, rfl⟩
    go_wp2_with fail
    refine (ddown_nil w5).mono ?_
    rintro e w8 ⟨rfl, rfl⟩
    go_wp2_with fail
    refine (dsteps_nil w5).mono ?_
    rintro e w9 ⟨rfl, rfl⟩
    go_wp2_with fail
    refine (dcopy_nil w5).mono ?_
    rintro e w10 ⟨rfl, rfl⟩
    go_wp2_with fail
    go_ret
    exact ⟨rfl, hkD⟩
  · subst h
    have hne : ne = 2 := by rw [← HNE.out]; rfl
    subst hne
    go_wp2_with fail
    refine (dread_nil nm w5).mono ?_
    rintro e w6 ⟨rfl, rfl⟩
    go_wp2_with fail
    refine (dnames_nil pf w5).mono ?_
    rintro e w7 ⟨rfl, rfl⟩
    go_wp2_with fail
    refine (ddown_nil w5).mono ?_
    rintro e w8 ⟨rfl, rfl⟩
    go_wp2_with fail
    refine (dsteps_nil w5).mono ?_
    rintro e w9 ⟨rfl, rfl⟩
    go_wp2_with fail
    refine (dcopy_nil w5).mono ?_
    rintro e w10 ⟨rfl, rfl⟩
    go_wp2_with fail
    go_ret
    exact ⟨rfl, hkD⟩
  · subst h
    have hne : ne = 2 := by rw [← HNE.out]; rfl
    subst hne
    go_wp2_with fail
    refine (dread_nil nm w5).mono ?_
    rintro e w6 ⟨rfl, rfl⟩
    go_wp2_with fail
    refine (dnames_nil pf w5).mono ?_
    rintro e w7 ⟨rfl, rfl⟩
    go_wp2_with fail
    refine (ddown_nil w5).mono ?_
    rintro e w8 ⟨rfl, rfl⟩
    go_wp2_with fail
    refine (dsteps_nil w5).mono ?_
    rintro e w9 ⟨rfl, rfl⟩
    go_wp2_with fail
    refine (dcopy_nil w5).mono ?_
    rintro e w10 ⟨rfl, rfl⟩
    go_wp2_with fail
    go_ret
    exact ⟨rfl, hkD⟩
  · have hne : ne = 0 := by rw [← HNE.out]; unfold nilE; rw [if_neg (by omega)]
    subst hne
    have e1 : decide (1 ≤ kd) = false := decide_eq_false (by omega)
    have e6 : (kd == 6) = false := by rw [beq_eq_false_iff_ne]; omega
    go_wp2_with fail
    refine (dread_nil nm w5).mono ?_
    rintro e w6 ⟨rfl, rfl⟩
    go_wp2_with fail
    refine (dnames_nil pf w5).mono ?_
    rintro e w7 ⟨rfl, rfl⟩
    go_wp2_with fail
    refine (ddown_nil w5).mono ?_
    rintro e w8 ⟨rfl, rfl⟩
    go_wp2_with fail
    refine (dsteps_nil w5).mono ?_
    rintro e w9 ⟨rfl, rfl⟩
    go_wp2_with fail
    refine (dcopy_nil w5).mono ?_
    rintro e w10 ⟨rfl, rfl⟩
    go_wp2_with fail
    go_ret
    exact ⟨rfl, hkD⟩
  · have hne : ne = 0 := by rw [← HNE.out]; unfold nilE; rw [if_neg (by omega)]
    subst hne
    have e1 : decide (1 ≤ kd) = true := decide_eq_true (by omega)
    have e3 : decide (kd ≤ 3) = false := decide_eq_false (by omega)
    have e6 : (kd == 6) = false := by rw [beq_eq_false_iff_ne]; omega
    go_wp2_with fail
    refine (dread_nil nm w5).mono ?_
    rintro e w6 ⟨rfl, rfl⟩
    go_wp2_with fail
    refine (dnames_nil pf w5).mono ?_
    rintro e w7 ⟨rfl, rfl⟩
    go_wp2_with fail
    refine (ddown_nil w5).mono ?_
    rintro e w8 ⟨rfl, rfl⟩
    go_wp2_with fail
    refine (dsteps_nil w5).mono ?_
    rintro e w9 ⟨rfl, rfl⟩
    go_wp2_with fail
    refine (dcopy_nil w5).mono ?_
    rintro e w10 ⟨rfl, rfl⟩
    go_wp2_with fail
    go_ret
    exact ⟨rfl, hkD⟩
end Go.Proofs.Ytnmogfjbbibeiaa
