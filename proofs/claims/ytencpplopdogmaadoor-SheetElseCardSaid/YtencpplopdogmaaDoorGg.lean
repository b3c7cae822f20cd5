/- Package sheet: what is built of a sheet and chunks. · The document's own Build. · A sheet as bytes: the program's and the document's. -/
import Derived.Test.YtencpplopdogmaaDoorGf
import Derived.Test.YtencpplopdogmaaDoorGc
namespace Go.Proofs.YtencpplopdogmaaDoor
set_option maxRecDepth 100000
open Go.RowKit
set_option linter.unusedVariables false

section
variable {z : Int} {hs cs : List ByteArray}
theorem bld_form (h : ¬ Rt z hs) : bld z hs cs = (bs [], 3) := by unfold bld; rw [if_neg h]
theorem bld_arg (h : Rt z hs) (h1 : cs.length ≠ hs.length) : bld z hs cs = (bs [], 1) := by unfold bld; rw [if_pos h, if_neg h1]
theorem bld_bad (h : Rt z hs) (h1 : cs.length = hs.length) (h2 : cs.map dgs ≠ hs) : bld z hs cs = (bs [], 101) := by unfold bld; rw [if_pos h, if_pos h1, if_neg h2]
theorem bld_size (h : Rt z hs) (h1 : cs.length = hs.length) (h2 : cs.map dgs = hs) (h3 : ((flat cs).length : Int) ≠ z) : bld z hs cs = (bs [], 101) := by unfold bld; rw [if_pos h, if_pos h1, if_pos h2, if_neg h3]
theorem bld_ok (h : Rt z hs) (h1 : cs.length = hs.length) (h2 : cs.map dgs = hs) (h3 : ((flat cs).length : Int) = z) : bld z hs cs = (bs (flat cs), 0) := by unfold bld; rw [if_pos h, if_pos h1, if_pos h2, if_pos h3]
theorem bld_at {k : Nat} {c x : ByteArray} (hc : cs[k]? = some c) (hx : hs[k]? = some x) (h : dgs c ≠ x) : cs.map dgs ≠ hs := by
  intro e
  have := congrArg (fun l : List ByteArray => l[k]?) e
  simp only [List.getElem?_map, hc, hx, Option.map_some, Option.some.injEq] at this
  exact h this
end
def Blt (z : Int) (hs cs : List ByteArray) (w : World) (e : Ending) (w' : World) : Prop := e = .returned (.tuple #[.string (bld z hs cs).1, .int .i64 (bld z hs cs).2]) ∧ Kp [] w w'
theorem Blt.mk_ {z : Int} {hs cs : List ByteArray} {w w' : World} {e : Ending} {s : ByteArray} {n : Int} (h : bld z hs cs = (s, n)) (he : e = .returned (.tuple #[.string s, .int .i64 n])) (hk : Kp [] w w') : Blt z hs cs w e w' := ⟨by rw [he, h], hk⟩
theorem map_succ {hs cs : List ByteArray} {k : Nat} {c : ByteArray} (h : (cs.take k).map dgs = hs.take k) (hc : cs[k]? = some c) (hx : hs[k]? = some (dgs c)) : (cs.take (k + 1)).map dgs = hs.take (k + 1) := by
  rw [List.take_add_one, List.take_add_one, hc, hx, List.map_append, h]
  rfl
/-- Where the chunks lie: at the front of a block, or there are none. -/
def Front (B : Option Addr) (d : Nat) : Prop := (B = none ∧ d = 0) ∨ ∃ g, B = some ⟨g, 0, none⟩
theorem join_front (B : Option Addr) (m d : Nat) (cs : List ByteArray) (r : ByteArray) (w : World) (hf : Front B d) (hr : bs (flat cs) = r) (hL : Ls w B m (cs.map Value.string)) (hmd : m ≤ d) (hm : m ≤ 1000000) (hlen : (flat cs).length ≤ 1000000000) :
    Calls Tryd.prog 29 #[.slice B m d] w fun e w' => e = .returned (.string r) ∧ Kp [] w w' := by
  subst hr
  rcases hf with ⟨rfl, rfl⟩ | ⟨g, rfl⟩
  · obtain rfl : m = 0 := by omega
    have h0 := hL.1
    have : cs = [] := List.eq_nil_of_length_eq_zero (by simpa using h0)
    subst this
    exact join_none w
  · exact join_own g m d cs w hL hmd hm hlen

set_option maxRecDepth 100000 in
set_option maxHeartbeats 8000000 in
theorem build_any (z : Int) (A B : Option Addr) (n c m d : Nat) (hs cs : List ByteArray) (w : World) (ht : Tbk w) (hL : Ls w A n (hs.map Value.string)) (hC : Ls w B m (cs.map Value.string)) (hn : n ≤ 1000000) (hm : m ≤ 1000000) (hmd : m ≤ d)
    (hz : ∀ x ∈ cs, x.size ≤ maxLen) (hlen : (flat cs).length ≤ 1000000000) (hj : m = n → Front B d) (h1 : -9223372036854775808 ≤ z) (h2 : z ≤ 9223372036854775807) :
    Calls Tryd.prog 14 #[.agg #[.int .i64 z, .slice A n c], .slice B m d] w (Blt z hs cs w) := by
  have hhl : hs.length = n := by simpa using hL.1
  have hcl : cs.length = m := by simpa using hC.1
  have HH := Lib.hid hhl
  have HCL := Lib.hid hcl
  have HZ := Lib.hid hz
  have HLEN := Lib.hid hlen
  have HJ := Lib.hid hj
  have hroots := ht.1
  clear hhl hcl hz hlen hj
  go_enter Tryd.func14, Tryd.ntmps14
  go_wp2_with fail
  have hk1 : Kp [] w (w.alloc (.cells #[.int .i64 z, .slice A n c] 25)) := (Kp.rfl_ [] w).alloc _
  have a1 : At (w.alloc (.cells #[.int .i64 z, .slice A n c] 25)) w.heap.size 25 #[.int .i64 z, .slice A n c] := At.new w _ _
  generalize w.alloc (.cells #[.int .i64 z, .slice A n c] 25) = w1 at *
  refine (scheck_any z A n c hs _ (hL.kp hk1 (by simp)) (by omega) h1 h2).mono ?_
  rintro e w2 ⟨rfl, hk2⟩
  have hk02 := hk1.trans hk2
  have a2 := a1.kp hk2 (by simp)
  have L2 := hL.kp hk02 (by simp)
  have C2 := hC.kp hk02 (by simp)
  have t2 := ht.kp hk02 (by simp)
  clear hk1 hk2 a1
  by_cases hrt : Rt z hs
  rotate_left
  · rw [if_neg hrt]
    have HB := Lib.hid (bld_form (cs := cs) hrt)
    clear hrt
    go_wp2_with fail
    go_ret2
    exact .mk_ HB.out rfl hk02
  rw [if_pos hrt]
  have HR := Lib.hid hrt
  clear hrt
  have q1 : w2.cell? ⟨w.heap.size, 1, none⟩ = some (.slice A n c) := a2.cell 1
  by_cases hmn : m = n
  rotate_left
  · have HB := Lib.hid (bld_arg (cs := cs) HR.out (by rw [HH.out, HCL.out]; exact hmn))
    have hnb : ((m : Int) != (n : Int)) = true := by rw [bne_iff_ne]; omega
    clear hmn
    go_wp2_with fail
    go_ret2
    exact .mk_ HB.out rfl hk02
  subst hmn
  have HJ2 := Lib.hid (HJ.out rfl)
  clear HJ
  go_wp2_with fail
  go_loopg [23] m (fun gk i wr => ∃ (k : Nat), m - k ≤ gk ∧ i = .int .i64 k ∧ k ≤ m ∧ Kp [] w2 wr ∧ (cs.take k).map dgs = hs.take k)
  case atStart => exact ⟨0, by omega, rfl, Nat.zero_le _, Kp.rfl_ _ _, rfl⟩
  case round =>
    obtain ⟨k, hgk, rfl, hk, hkr, hall⟩ := hrel
    have HA := Lib.hid hall
    clear hall
    have ar := a2.kp hkr (by simp)
    have Lr := L2.kp hkr (by simp)
    have Cr := C2.kp hkr (by simp)
    have tr := t2.kp hkr (by simp)
    have hk0r := hk02.trans hkr
    have r1 : wr.cell? ⟨w.heap.size, 1, none⟩ = some (.slice A m c) := ar.cell 1
    have r0 : wr.cell? ⟨w.heap.size, 0, none⟩ = some (.int .i64 z) := ar.cell 0
    by_cases hlt : k < m
    · obtain ⟨bd, y, rfl, hyk, hcy⟩ := Cr.str_at hlt
      obtain ⟨ad, x, rfl, hxk, hcx⟩ := Lr.str_at hlt
      have HX := Lib.hid hxk
      have HY := Lib.hid hyk
      have hyz := HZ.out y (List.mem_of_getElem? hyk)
      have hltI : (k : Int) < (m : Int) := by omega
      obtain ⟨dd, hd⟩ : ∃ d, dgs y = d := ⟨_, rfl⟩
      have hdg : bs (shaW (flat [y])) = dd := by rw [← hd]; unfold dgs flat; simp
      have HDG := Lib.hid hdg
      have HD := Lib.hid hd
      have HF : Hid ((flat [y]).length ≤ maxLen) := Lib.hid (by simp [flat]; omega)
      have HZ1 : Hid (∀ z ∈ [y], z.size ≤ maxLen) := Lib.hid (by intro z hz; simp at hz; subst hz; omega)
      obtain ⟨b, hb⟩ : ∃ b, (dd.toList != x.toList) = b := ⟨_, rfl⟩
      have hbt : b = true → dgs y ≠ x := by
        intro h e
        rw [h, HD.out.symm, e] at hb
        simp at hb
      have hbf : b = false → dgs y = x := by
        intro h
        rw [h] at hb
        have : dd.toList = x.toList := by simpa using hb
        rw [toList_eq, toList_eq] at this
        rw [HD.out]
        exact bs_eq this
      have hb' : (dd.toList == x.toList) = !b := by rw [← hb]; simp [bne]
      have HBT := Lib.hid hbt
      have HBF := Lib.hid hbf
      clear hxk hyk hyz hdg hd hbt hbf
      go_wp2_with fail
      refine region_inv' (fun q v w' => match q with
        | 0 => v = .string y
        | 1 => ∃ h, v = .slice (some ⟨h, 0, none⟩) 1 1 ∧ Ls w' (some ⟨h, 0, none⟩) 1 [.string y]
        | 2 => v = .string dd
        | 3 => v = .pointer (some ⟨w.heap.size, 1, none⟩)
        | 4 => v = .slice (some ad) m c
        | 5 => v = .int .i64 k
        | 6 => v = .pointer (some (ad.add k))
        | 7 => v = .string x
        | _ => v = .bool b) (by kernel_rfl) _ rfl (by kernel_rfl) (by kernel_rfl) (by kernel_rfl) ?_ ?_ ?_
      · intro q v w1 w2 hF hK
        rcases q with _|_|_|_|_|_|_|_|q
        all_goals first | exact hF | (obtain ⟨h, e, hl⟩ := hF; exact ⟨h, e, hl.kp hK (by simp)⟩)
      · intro q o ho av wv K hS hk H hK
        have hf1 : av.eval (.tmp 2) = .pointer (some ⟨w.heap.size, 0, none⟩) := (hS.2.2 2 (nofill (by kernel_rfl))).trans rfl
        have hf7 : av.eval (.tmp 7) = .int .i64 k := (hS.2.2 7 (nofill (by kernel_rfl))).trans rfl
        have hf8 : av.eval (.tmp 8) = .string y := (hS.2.2 8 (nofill (by kernel_rfl))).trans rfl
        rcases q with _|_|_|_|_|_|_|_|_|q
        all_goals try (obtain rfl := Option.some.inj ho)
        · have e8 := gd hf8
          exact wpOp_value rfl rfl (v := .string y) (w' := wv) (by simp [execOp, go_sem, e8]) (hK _ _ (Kp.rfl_ _ _) rfl)
        · have e28 := gd (H 0 28 (by kernel_rfl) rfl)
          exact wpOp_value rfl rfl (v := .slice (some ⟨wv.heap.size, 0, none⟩) 1 1) (w' := wv.alloc (.cells #[.string y] 9)) (by simp [execOp, go_sem, e28]) (hK _ _ ((Kp.rfl_ _ _).alloc _) ⟨_, rfl, Ls.of_at (At.new wv 9 #[.string y])⟩)
        · obtain ⟨h, e29, hl29⟩ := H 1 29 (by kernel_rfl) rfl
          have e29 := gd e29
          refine wpOp_call rfl rfl (f := 25) (args := #[.slice (some ⟨h, 0, none⟩) 1 1]) (w1 := wv) (by simp [execOp, go_sem, e29]) ?_
          refine (sum_to (some ⟨h, 0, none⟩) 1 1 [y] dd wv HDG.out (tr.kp hk (by simp)) hl29 HZ1.out HF.out (by unfold maxLen; omega)).mono ?_
          rintro e w8 ⟨rfl, k8⟩
          exact ⟨_, rfl, hK _ _ k8 rfl⟩
        · have e2 := gd hf1
          exact wpOp_value rfl rfl (v := .pointer (some ⟨w.heap.size, 1, none⟩)) (w' := wv) (by simp [execOp, go_sem, e2]) (hK _ _ (Kp.rfl_ _ _) rfl)
        · have e31 := gd (H 3 31 (by kernel_rfl) rfl)
          have s1 := cell_kp r1 hk (by simp)
          exact wpOp_value rfl rfl (v := .slice (some ad) m c) (w' := wv) (by simp [execOp, go_sem, e31, s1]) (hK _ _ (Kp.rfl_ _ _) rfl)
        · have e7 := gd hf7
          exact wpOp_value rfl rfl (v := .int .i64 k) (w' := wv) (by simp [execOp, go_sem, e7]) (hK _ _ (Kp.rfl_ _ _) rfl)
        · have e32 := gd (H 4 32 (by kernel_rfl) rfl)
          have e33 := gd (H 5 33 (by kernel_rfl) rfl)
          exact wpOp_value rfl rfl (v := .pointer (some (ad.add k))) (w' := wv) (by simp [execOp, go_sem, e32, e33, hltI]) (hK _ _ (Kp.rfl_ _ _) rfl)
        · have e34 := gd (H 6 34 (by kernel_rfl) rfl)
          have s2 := cell_kp hcx hk (by simp)
          exact wpOp_value rfl rfl (v := .string x) (w' := wv) (by simp [execOp, go_sem, e34, s2]) (hK _ _ (Kp.rfl_ _ _) rfl)
        · have e30 := gd (H 2 30 (by kernel_rfl) rfl)
          have e35 := gd (H 7 35 (by kernel_rfl) rfl)
          exact wpOp_value rfl rfl (v := .bool b) (w' := wv) (by simp [execOp, go_sem, e30, e35, hb']) (hK _ _ (Kp.rfl_ _ _) rfl)
        · simp at ho
      · intro av wv hS hk H
        have h36 : av.tmps.getD 36 undef = .bool b := H 8 36 rfl
        rw [same_fold hS [28, 29, 30, 31, 32, 33, 34, 35, 36] (by kernel_rfl) (by kernel_rfl)]
        simp only [List.foldl]
        rw [h36]
        simp only [Act.put, List.setIfInBounds_toArray, List.set_cons_succ, List.set_cons_zero]
        generalize av.tmps.getD 28 undef = v28
        generalize av.tmps.getD 29 undef = v29
        generalize av.tmps.getD 30 undef = v30
        generalize av.tmps.getD 31 undef = v31
        generalize av.tmps.getD 32 undef = v32
        generalize av.tmps.getD 33 undef = v33
        generalize av.tmps.getD 34 undef = v34
        generalize av.tmps.getD 35 undef = v35
        have hk2v := hkr.trans hk
        clear hb hb'
        cases b
        · have heq := HBF.out rfl
          have HST := Lib.hid (map_succ HA.out HY.out (by rw [heq]; exact HX.out))
          clear heq
          go_wp2_with fail
          go_roundg (m - (k + 1))
          case measure => omega
          case rel => exact ⟨k + 1, by omega, by go_num, by omega, hk2v, HST.out⟩
        · have HB := Lib.hid (bld_bad HR.out (by rw [HH.out, HCL.out]) (bld_at HY.out HX.out (HBT.out rfl)))
          go_wp2_with fail
          go_ret2
          exact .mk_ HB.out rfl (hk02.trans hk2v)
    · obtain rfl : k = m := by omega
      have hall : cs.map dgs = hs := by
        have := HA.out
        rwa [List.take_of_length_le (by rw [HCL.out]; omega), List.take_of_length_le (by rw [HH.out]; omega)] at this
      have HALL := Lib.hid hall
      clear hall
      obtain ⟨r, hr⟩ : ∃ r, bs (flat cs) = r := ⟨_, rfl⟩
      have hrs : r.size = (flat cs).length := by rw [← hr, bs_size]
      have HRR := Lib.hid hr
      have HRS := Lib.hid hrs
      clear hr hrs
      go_wp2_with fail
      refine (join_front B k d cs r _ HJ2.out HRR.out Cr hmd hm HLEN.out).mono ?_
      rintro e w5 ⟨rfl, hk5⟩
      have s0 := cell_kp r0 hk5 (by simp)
      have hk05 := hk0r.trans hk5
      by_cases hrz : (r.size : Int) = z
      · have HB := Lib.hid (bld_ok HR.out (by rw [HH.out, HCL.out]) HALL.out (by rw [← HRS.out]; exact hrz))
        have hnb : ((r.size : Int) != z) = false := by simp [hrz]
        rw [HRR.out] at HB
        clear hrz
        go_wp2_with fail
        go_ret2
        exact .mk_ HB.out rfl hk05
      · have HB := Lib.hid (bld_size HR.out (by rw [HH.out, HCL.out]) HALL.out (by rw [← HRS.out]; exact hrz))
        have hnb : ((r.size : Int) != z) = true := by rw [bne_iff_ne]; exact hrz
        clear hrz
        go_wp2_with fail
        go_ret2
        exact .mk_ HB.out rfl hk05
end Go.Proofs.YtencpplopdogmaaDoor
namespace Go.Proofs.YtencpplopdogmaaDoor
set_option maxRecDepth 100000
open Go.RowKit
set_option linter.unusedVariables false

set_option maxRecDepth 100000 in
set_option maxHeartbeats 8000000 in
theorem rbuild_any (z : Int) (A B : Option Addr) (n c m d : Nat) (hs cs : List ByteArray) (w : World) (hL : Ls w A n (hs.map Value.string)) (hC : Ls w B m (cs.map Value.string)) (hn : n ≤ 1000000) (hm : m ≤ 1000000) (hmd : m ≤ d)
    (hz : ∀ x ∈ cs, x.size ≤ 1000000000) (hlen : (flat cs).length ≤ 1000000000) (h1 : -9223372036854775808 ≤ z) (h2 : z ≤ 9223372036854775807) :
    Calls Tryd.prog 16 #[.agg #[.int .i64 z, .slice A n c], .slice B m d] w (Blt z hs cs w) := by
  have hhl : hs.length = n := by simpa using hL.1
  have hcl : cs.length = m := by simpa using hC.1
  have HH := Lib.hid hhl
  have HCL := Lib.hid hcl
  have HZ := Lib.hid hz
  have HLEN := Lib.hid hlen
  clear hhl hcl hz hlen
  go_enter Tryd.func16, Tryd.ntmps16
  go_wp2_with fail
  have hk1 : Kp [] w (w.alloc (.cells #[.int .i64 z, .slice A n c] 25)) := (Kp.rfl_ [] w).alloc _
  have a1 : At (w.alloc (.cells #[.int .i64 z, .slice A n c] 25)) w.heap.size 25 #[.int .i64 z, .slice A n c] := At.new w _ _
  generalize w.alloc (.cells #[.int .i64 z, .slice A n c] 25) = w1 at *
  refine (sright_any z A n c hs _ (hL.kp hk1 (by simp)) (by omega) h1 h2).mono ?_
  rintro e w2 ⟨rfl, hk2⟩
  have hk02 := hk1.trans hk2
  have a2 := a1.kp hk2 (by simp)
  have L2 := hL.kp hk02 (by simp)
  have C2 := hC.kp hk02 (by simp)
  clear hk1 hk2 a1
  by_cases hrt : Rt z hs
  rotate_left
  · rw [decide_eq_false hrt]
    have HB := Lib.hid (bld_form (cs := cs) hrt)
    clear hrt
    go_wp2_with fail
    go_ret2
    exact .mk_ HB.out rfl hk02
  rw [decide_eq_true hrt]
  have HR := Lib.hid hrt
  clear hrt
  have q1 : w2.cell? ⟨w.heap.size, 1, none⟩ = some (.slice A n c) := a2.cell 1
  by_cases hmn : m = n
  rotate_left
  · have HB := Lib.hid (bld_arg (cs := cs) HR.out (by rw [HH.out, HCL.out]; exact hmn))
    have hnb : ((m : Int) != (n : Int)) = true := by rw [bne_iff_ne]; omega
    clear hmn
    go_wp2_with fail
    go_ret2
    exact .mk_ HB.out rfl hk02
  subst hmn
  go_wp2_with fail
  go_loopg [6] m (fun gk i wr => ∃ (k : Nat), m - k ≤ gk ∧ i = .int .i64 k ∧ k ≤ m ∧ Kp [] w2 wr ∧ (cs.take k).map dgs = hs.take k)
  case atStart => exact ⟨0, by omega, rfl, Nat.zero_le _, Kp.rfl_ _ _, rfl⟩
  case round =>
    obtain ⟨k, hgk, rfl, hk, hkr, hall⟩ := hrel
    have HA := Lib.hid hall
    clear hall
    have ar := a2.kp hkr (by simp)
    have Lr := L2.kp hkr (by simp)
    have Cr := C2.kp hkr (by simp)
    have hk0r := hk02.trans hkr
    have r1 : wr.cell? ⟨w.heap.size, 1, none⟩ = some (.slice A m c) := ar.cell 1
    have r0 : wr.cell? ⟨w.heap.size, 0, none⟩ = some (.int .i64 z) := ar.cell 0
    by_cases hlt : k < m
    · obtain ⟨bd, y, rfl, hyk, hcy⟩ := Cr.str_at hlt
      obtain ⟨ad, x, rfl, hxk, hcx⟩ := Lr.str_at hlt
      have HX := Lib.hid hxk
      have HY := Lib.hid hyk
      have hyz := HZ.out y (List.mem_of_getElem? hyk)
      have hy9 : y.size ≤ 1000000000 := hyz
      have hltI : (k : Int) < (m : Int) := by omega
      obtain ⟨dd, hd⟩ : ∃ d, dgs y = d := ⟨_, rfl⟩
      have HD := Lib.hid hd
      obtain ⟨b, hb⟩ : ∃ b, (dd.toList != x.toList) = b := ⟨_, rfl⟩
      have hbt : b = true → dgs y ≠ x := by
        intro h e
        rw [h, HD.out.symm, e] at hb
        simp at hb
      have hbf : b = false → dgs y = x := by
        intro h
        rw [h] at hb
        have : dd.toList = x.toList := by simpa using hb
        rw [toList_eq, toList_eq] at this
        rw [HD.out]
        exact bs_eq this
      have hb' : (dd.toList == x.toList) = !b := by rw [← hb]; simp [bne]
      have HBT := Lib.hid hbt
      have HBF := Lib.hid hbf
      clear hxk hyk hyz hd hbt hbf
      go_wp2_with fail
      refine region_inv' (fun q v w' => match q with
        | 0 => v = .slice (some bd) m d
        | 1 => v = .int .i64 k
        | 2 => v = .pointer (some (bd.add k))
        | 3 => v = .string y
        | 4 => v = .string dd
        | 5 => v = .pointer (some ⟨w.heap.size, 1, none⟩)
        | 6 => v = .slice (some ad) m c
        | 7 => v = .int .i64 k
        | 8 => v = .pointer (some (ad.add k))
        | 9 => v = .string x
        | _ => v = .bool b) (by kernel_rfl) _ rfl (by kernel_rfl) (by kernel_rfl) (by kernel_rfl) ?_ ?_ ?_
      · intro q v w1 w2 hF hK
        rcases q with _|_|_|_|_|_|_|_|_|_|q
        all_goals exact hF
      · intro q o ho av wv K hS hk H hK
        have hf1 : av.eval (.tmp 1) = .slice (some bd) m d := (hS.2.2 1 (nofill (by kernel_rfl))).trans rfl
        have hf2 : av.eval (.tmp 2) = .pointer (some ⟨w.heap.size, 0, none⟩) := (hS.2.2 2 (nofill (by kernel_rfl))).trans rfl
        have hf6 : av.eval (.tmp 6) = .int .i64 k := (hS.2.2 6 (nofill (by kernel_rfl))).trans rfl
        rcases q with _|_|_|_|_|_|_|_|_|_|_|q
        all_goals try (obtain rfl := Option.some.inj ho)
        · have e1 := gd hf1
          exact wpOp_value rfl rfl (v := .slice (some bd) m d) (w' := wv) (by simp [execOp, go_sem, e1]) (hK _ _ (Kp.rfl_ _ _) rfl)
        · have e6 := gd hf6
          exact wpOp_value rfl rfl (v := .int .i64 k) (w' := wv) (by simp [execOp, go_sem, e6]) (hK _ _ (Kp.rfl_ _ _) rfl)
        · have e23 := gd (H 0 23 (by kernel_rfl) rfl)
          have e24 := gd (H 1 24 (by kernel_rfl) rfl)
          exact wpOp_value rfl rfl (v := .pointer (some (bd.add k))) (w' := wv) (by simp [execOp, go_sem, e23, e24, hltI]) (hK _ _ (Kp.rfl_ _ _) rfl)
        · have e25 := gd (H 2 25 (by kernel_rfl) rfl)
          have s2 := cell_kp hcy hk (by simp)
          exact wpOp_value rfl rfl (v := .string y) (w' := wv) (by simp [execOp, go_sem, e25, s2]) (hK _ _ (Kp.rfl_ _ _) rfl)
        · have e26 := gd (H 3 26 (by kernel_rfl) rfl)
          refine wpOp_call rfl rfl (f := 27) (args := #[.string y]) (w1 := wv) (by simp [execOp, go_sem, e26]) ?_
          refine (rsum_dg y dd wv HD.out hy9).mono ?_
          rintro e w8 ⟨rfl, k8⟩
          exact ⟨_, rfl, hK _ _ k8 rfl⟩
        · have e2 := gd hf2
          exact wpOp_value rfl rfl (v := .pointer (some ⟨w.heap.size, 1, none⟩)) (w' := wv) (by simp [execOp, go_sem, e2]) (hK _ _ (Kp.rfl_ _ _) rfl)
        · have e28 := gd (H 5 28 (by kernel_rfl) rfl)
          have s1 := cell_kp r1 hk (by simp)
          exact wpOp_value rfl rfl (v := .slice (some ad) m c) (w' := wv) (by simp [execOp, go_sem, e28, s1]) (hK _ _ (Kp.rfl_ _ _) rfl)
        · have e6 := gd hf6
          exact wpOp_value rfl rfl (v := .int .i64 k) (w' := wv) (by simp [execOp, go_sem, e6]) (hK _ _ (Kp.rfl_ _ _) rfl)
        · have e29 := gd (H 6 29 (by kernel_rfl) rfl)
          have e30 := gd (H 7 30 (by kernel_rfl) rfl)
          exact wpOp_value rfl rfl (v := .pointer (some (ad.add k))) (w' := wv) (by simp [execOp, go_sem, e29, e30, hltI]) (hK _ _ (Kp.rfl_ _ _) rfl)
        · have e31 := gd (H 8 31 (by kernel_rfl) rfl)
          have s2 := cell_kp hcx hk (by simp)
          exact wpOp_value rfl rfl (v := .string x) (w' := wv) (by simp [execOp, go_sem, e31, s2]) (hK _ _ (Kp.rfl_ _ _) rfl)
        · have e27 := gd (H 4 27 (by kernel_rfl) rfl)
          have e32 := gd (H 9 32 (by kernel_rfl) rfl)
          exact wpOp_value rfl rfl (v := .bool b) (w' := wv) (by simp [execOp, go_sem, e27, e32, hb']) (hK _ _ (Kp.rfl_ _ _) rfl)
        · simp at ho
      · intro av wv hS hk H
        have h33 : av.tmps.getD 33 undef = .bool b := H 10 33 rfl
        rw [same_fold hS [23, 24, 25, 26, 27, 28, 29, 30, 31, 32, 33] (by kernel_rfl) (by kernel_rfl)]
        simp only [List.foldl]
        rw [h33]
        simp only [Act.put, List.setIfInBounds_toArray, List.set_cons_succ, List.set_cons_zero]
        generalize av.tmps.getD 23 undef = v23
        generalize av.tmps.getD 24 undef = v24
        generalize av.tmps.getD 25 undef = v25
        generalize av.tmps.getD 26 undef = v26
        generalize av.tmps.getD 27 undef = v27
        generalize av.tmps.getD 28 undef = v28
        generalize av.tmps.getD 29 undef = v29
        generalize av.tmps.getD 30 undef = v30
        generalize av.tmps.getD 31 undef = v31
        generalize av.tmps.getD 32 undef = v32
        have hk2v := hkr.trans hk
        clear hb hb'
        cases b
        · have heq := HBF.out rfl
          have HST := Lib.hid (map_succ HA.out HY.out (by rw [heq]; exact HX.out))
          clear heq
          go_wp2_with fail
          go_roundg (m - (k + 1))
          case measure => omega
          case rel => exact ⟨k + 1, by omega, by go_num, by omega, hk2v, HST.out⟩
        · have HB := Lib.hid (bld_bad HR.out (by rw [HH.out, HCL.out]) (bld_at HY.out HX.out (HBT.out rfl)))
          go_wp2_with fail
          go_ret2
          exact .mk_ HB.out rfl (hk02.trans hk2v)
    · obtain rfl : k = m := by omega
      have hall : cs.map dgs = hs := by
        have := HA.out
        rwa [List.take_of_length_le (by rw [HCL.out]; omega), List.take_of_length_le (by rw [HH.out]; omega)] at this
      have HALL := Lib.hid hall
      clear hall
      obtain ⟨r, hr⟩ : ∃ r, bs (flat cs) = r := ⟨_, rfl⟩
      have hrs : r.size = (flat cs).length := by rw [← hr, bs_size]
      have HRR := Lib.hid hr
      have HRS := Lib.hid hrs
      clear hr hrs
      go_wp2_with fail
      refine (rjoin_to B k d cs r _ HRR.out Cr hm HLEN.out).mono ?_
      rintro e w5 ⟨rfl, hk5⟩
      have s0 := cell_kp r0 hk5 (by simp)
      have hk05 := hk0r.trans hk5
      by_cases hrz : (r.size : Int) = z
      · have HB := Lib.hid (bld_ok HR.out (by rw [HH.out, HCL.out]) HALL.out (by rw [← HRS.out]; exact hrz))
        have hnb : ((r.size : Int) != z) = false := by simp [hrz]
        rw [HRR.out] at HB
        clear hrz
        go_wp2_with fail
        go_ret2
        exact .mk_ HB.out rfl hk05
      · have HB := Lib.hid (bld_size HR.out (by rw [HH.out, HCL.out]) HALL.out (by rw [← HRS.out]; exact hrz))
        have hnb : ((r.size : Int) != z) = true := by rw [bne_iff_ne]; exact hrz
        clear hrz
        go_wp2_with fail
        go_ret2
        exact .mk_ HB.out rfl hk05
end Go.Proofs.YtencpplopdogmaaDoor
namespace Go.Proofs.YtencpplopdogmaaDoor
set_option maxRecDepth 100000
open Go.RowKit
set_option linter.unusedVariables false

theorem rnum_to (n : Int) (s : ByteArray) (w : World) (hs : bs (numB n) = s) (h1 : -9223372036854775808 ≤ n) (h2 : n ≤ 9223372036854775807) :
    Calls Tryd.prog 43 #[.int .i64 n] w fun e w' => e = .returned (.string s) ∧ Kp [] w w' :=
  (rnum_any n w h1 h2).mono fun e w' ⟨s', he, hs', hk⟩ => ⟨by rw [he, ← hs, ← hs', bs_of], hk⟩
theorem two_wf {z : Int} {n : Nat} (h1 : -9223372036854775808 ≤ z) (h2 : z ≤ 9223372036854775807) (hn : n ≤ 100000) : ∀ x ∈ [z, (n : Int)], (Lit.int .i64 x).wf = true := by
  intro x hx
  simp only [List.mem_cons, List.not_mem_nil, or_false] at hx
  rcases hx with rfl | rfl
  · exact WalkArith.wf_i64 (by omega)
  · exact WalkArith.wf_i64 (by omega)

set_option maxRecDepth 100000 in
set_option maxHeartbeats 4000000 in
theorem spack_to (z : Int) (A : Option Addr) (n c : Nat) (hs : List ByteArray) (p : ByteArray) (w : World) (hp : bs (pk z hs) = p) (hL : Ls w A n (hs.map Value.string)) (hn : n ≤ 100000) (htot : (texts hs).length ≤ 1000000000) (h1 : -9223372036854775808 ≤ z) (h2 : z ≤ 9223372036854775807) :
    Calls Tryd.prog 21 #[.agg #[.int .i64 z, .slice A n c]] w fun e w' => e = .returned (.string p) ∧ Kp [] w w' := by
  have hhl : hs.length = n := by simpa using hL.1
  obtain ⟨x1, hx1⟩ : ∃ x, bs ([z, (n : Int)].flatMap numB) = x := ⟨_, rfl⟩
  obtain ⟨x2, hx2⟩ : ∃ x, bs (texts hs) = x := ⟨_, rfl⟩
  have hx12 : x1 ++ x2 = p := by rw [← hx1, ← hx2, bs_append, ← hp, pk, hhl]; simp
  have l1 := (numB_len h1 h2).2
  have l2 := (numB_len (z := (n : Int)) (by omega) (by omega)).2
  have hsz : x1.size + x2.size ≤ 9223372036854775807 := by
    rw [← hx1, ← hx2, bs_size, bs_size]
    simp only [List.flatMap_cons, List.flatMap_nil, List.length_append, List.length_nil]
    omega
  clear l1 l2
  have HX1 := Lib.hid hx1
  have HX2 := Lib.hid hx2
  have HTOT := Lib.hid htot
  have HWF := Lib.hid (two_wf h1 h2 hn)
  clear hhl hx1 hx2 hp htot
  go_enter Tryd.func21, Tryd.ntmps21
  go_wp2_with fail
  have hk1 : Kp [] w (w.alloc (.cells #[.int .i64 z, .slice A n c] 25)) := (Kp.rfl_ [] w).alloc _
  have a1 : At (w.alloc (.cells #[.int .i64 z, .slice A n c] 25)) w.heap.size 25 #[.int .i64 z, .slice A n c] := At.new w _ _
  generalize w.alloc (.cells #[.int .i64 z, .slice A n c] 25) = w1 at *
  have L1 := hL.kp hk1 (by simp)
  have r0 : w1.cell? ⟨w.heap.size, 0, none⟩ = some (.int .i64 z) := a1.cell 0
  have r1 : w1.cell? ⟨w.heap.size, 1, none⟩ = some (.slice A n c) := a1.cell 1
  refine region_inv' (fun q v w' => match q with
    | 0 => v = .pointer (some ⟨w.heap.size, 0, none⟩)
    | 1 => v = .int .i64 z
    | 2 => v = .pointer (some ⟨w.heap.size, 1, none⟩)
    | 3 => v = .slice A n c
    | 4 => v = .int .i64 n
    | 5 => ∃ h, v = .slice (some ⟨h, 0, none⟩) 2 2 ∧ Ls w' (some ⟨h, 0, none⟩) 2 ([z, (n : Int)].map (Value.int .i64))
    | 6 => v = .string x1
    | 7 => v = .pointer (some ⟨w.heap.size, 1, none⟩)
    | 8 => v = .slice A n c
    | 9 => v = .string x2
    | 10 => v = .string p
    | _ => v = .string p) (by kernel_rfl) _ rfl (by kernel_rfl) (by kernel_rfl) (by kernel_rfl) ?_ ?_ ?_
  · intro q v w1 w2 hF hK
    rcases q with _|_|_|_|_|_|_|_|_|_|_|q
    all_goals first | exact hF | (obtain ⟨h, e, hl⟩ := hF; exact ⟨h, e, hl.kp hK (by simp)⟩)
  · intro q o ho av wv K hS hk H hK
    have hf1 : av.eval (.tmp 1) = .pointer (some ⟨w.heap.size, 0, none⟩) := (hS.2.2 1 (nofill (by kernel_rfl))).trans rfl
    have s0 := cell_kp r0 hk (by simp)
    have s1 := cell_kp r1 hk (by simp)
    rcases q with _|_|_|_|_|_|_|_|_|_|_|_|q
    all_goals try (obtain rfl := Option.some.inj ho)
    · have e1 := gd hf1
      exact wpOp_value rfl rfl (v := .pointer (some ⟨w.heap.size, 0, none⟩)) (w' := wv) (by simp [execOp, go_sem, e1]) (hK _ _ (Kp.rfl_ _ _) rfl)
    · have e3 := gd (H 0 3 (by kernel_rfl) rfl)
      exact wpOp_value rfl rfl (v := .int .i64 z) (w' := wv) (by simp [execOp, go_sem, e3, s0]) (hK _ _ (Kp.rfl_ _ _) rfl)
    · have e1 := gd hf1
      exact wpOp_value rfl rfl (v := .pointer (some ⟨w.heap.size, 1, none⟩)) (w' := wv) (by simp [execOp, go_sem, e1]) (hK _ _ (Kp.rfl_ _ _) rfl)
    · have e5 := gd (H 2 5 (by kernel_rfl) rfl)
      exact wpOp_value rfl rfl (v := .slice A n c) (w' := wv) (by simp [execOp, go_sem, e5, s1]) (hK _ _ (Kp.rfl_ _ _) rfl)
    · have e6 := gd (H 3 6 (by kernel_rfl) rfl)
      exact wpOp_value rfl rfl (v := .int .i64 n) (w' := wv) (by simp [execOp, go_sem, e6]) (hK _ _ (Kp.rfl_ _ _) rfl)
    · have e4 := gd (H 1 4 (by kernel_rfl) rfl)
      have e7 := gd (H 4 7 (by kernel_rfl) rfl)
      exact wpOp_value rfl rfl (v := .slice (some ⟨wv.heap.size, 0, none⟩) 2 2) (w' := wv.alloc (.cells #[.int .i64 z, .int .i64 n] 3)) (by simp [execOp, go_sem, e4, e7]) (hK _ _ ((Kp.rfl_ _ _).alloc _) ⟨_, rfl, Ls.of_at (At.new wv 3 #[.int .i64 z, .int .i64 n])⟩)
    · obtain ⟨h, e8, hl8⟩ := H 5 8 (by kernel_rfl) rfl
      have e8 := gd e8
      refine wpOp_call rfl rfl (f := 41) (args := #[.slice (some ⟨h, 0, none⟩) 2 2]) (w1 := wv) (by simp [execOp, go_sem, e8]) ?_
      refine (nums_to (some ⟨h, 0, none⟩) 2 2 [z, (n : Int)] x1 wv HX1.out hl8 HWF.out (by omega)).mono ?_
      rintro e w8 ⟨rfl, k8⟩
      exact ⟨_, rfl, hK _ _ k8 rfl⟩
    · have e1 := gd hf1
      exact wpOp_value rfl rfl (v := .pointer (some ⟨w.heap.size, 1, none⟩)) (w' := wv) (by simp [execOp, go_sem, e1]) (hK _ _ (Kp.rfl_ _ _) rfl)
    · have e10 := gd (H 7 10 (by kernel_rfl) rfl)
      exact wpOp_value rfl rfl (v := .slice A n c) (w' := wv) (by simp [execOp, go_sem, e10, s1]) (hK _ _ (Kp.rfl_ _ _) rfl)
    · have e11 := gd (H 8 11 (by kernel_rfl) rfl)
      refine wpOp_call rfl rfl (f := 42) (args := #[.slice A n c]) (w1 := wv) (by simp [execOp, go_sem, e11]) ?_
      refine (packtext_to A n c hs x2 wv HX2.out (L1.kp hk (by simp)) hn HTOT.out).mono ?_
      rintro e w8 ⟨rfl, k8⟩
      exact ⟨_, rfl, hK _ _ k8 rfl⟩
    · have e9 := gd (H 6 9 (by kernel_rfl) rfl)
      have e12 := gd (H 9 12 (by kernel_rfl) rfl)
      exact wpOp_value rfl rfl (v := .string p) (w' := wv) (by simp [execOp, go_sem, e9, e12, hx12, hsz]) (hK _ _ (Kp.rfl_ _ _) rfl)
    · have e13 := gd (H 10 13 (by kernel_rfl) rfl)
      exact wpOp_value rfl rfl (v := .string p) (w' := wv) (by simp [execOp, go_sem, e13]) (hK _ _ (Kp.rfl_ _ _) rfl)
    · simp at ho
  · intro av wv hS hk H
    have h2 : av.eval (.tmp 2) = .string p := H 11 2 rfl
    have hk2 := hk1.trans hk
    go_wp2_with fail
    exact bodyPost_ret (results_tmp rfl _ _ _) (hS.1.trans rfl) ⟨congrArg Ending.returned h2, hk2⟩

set_option maxRecDepth 100000 in
set_option maxHeartbeats 4000000 in
theorem rspack_to (z : Int) (A : Option Addr) (n c : Nat) (hs : List ByteArray) (p : ByteArray) (w : World) (hp : bs (pk z hs) = p) (hL : Ls w A n (hs.map Value.string)) (hn : n ≤ 100000) (htot : (texts hs).length ≤ 1000000000) (h1 : -9223372036854775808 ≤ z) (h2 : z ≤ 9223372036854775807) :
    Calls Tryd.prog 22 #[.agg #[.int .i64 z, .slice A n c]] w fun e w' => e = .returned (.string p) ∧ Kp [] w w' := by
  have hhl : hs.length = n := by simpa using hL.1
  obtain ⟨x0, hx0⟩ : ∃ x, bs (numB z) = x := ⟨_, rfl⟩
  obtain ⟨x1, hx1⟩ : ∃ x, bs (numB (n : Int)) = x := ⟨_, rfl⟩
  obtain ⟨x2, hx2⟩ : ∃ x, bs (texts hs) = x := ⟨_, rfl⟩
  have hx12 : x0 ++ x1 ++ x2 = p := by rw [← hx0, ← hx1, ← hx2, bs_append, bs_append, ← hp, pk, hhl]; simp
  have l1 := (numB_len h1 h2).2
  have l2 := (numB_len (z := (n : Int)) (by omega) (by omega)).2
  have hsz : x0.size + x1.size ≤ 9223372036854775807 := by
    rw [← hx0, ← hx1, bs_size, bs_size]
    omega
  have hsz2 : (x0 ++ x1).size + x2.size ≤ 9223372036854775807 := by
    rw [ByteArray.size_append, ← hx0, ← hx1, ← hx2, bs_size, bs_size, bs_size]
    omega
  clear l1 l2
  obtain ⟨x01, hx01⟩ : ∃ x, x0 ++ x1 = x := ⟨_, rfl⟩
  rw [hx01] at hsz2
  rw [hx01] at hx12
  have HX0 := Lib.hid hx0
  have HX1 := Lib.hid hx1
  have HX2 := Lib.hid hx2
  have HTOT := Lib.hid htot
  clear hhl hx0 hx1 hx2 hp htot
  go_enter Tryd.func22, Tryd.ntmps22
  go_wp2_with fail
  have hk1 : Kp [] w (w.alloc (.cells #[.int .i64 z, .slice A n c] 25)) := (Kp.rfl_ [] w).alloc _
  have a1 : At (w.alloc (.cells #[.int .i64 z, .slice A n c] 25)) w.heap.size 25 #[.int .i64 z, .slice A n c] := At.new w _ _
  generalize w.alloc (.cells #[.int .i64 z, .slice A n c] 25) = w1 at *
  have L1 := hL.kp hk1 (by simp)
  have r0 : w1.cell? ⟨w.heap.size, 0, none⟩ = some (.int .i64 z) := a1.cell 0
  have r1 : w1.cell? ⟨w.heap.size, 1, none⟩ = some (.slice A n c) := a1.cell 1
  refine region_inv' (fun q v w' => match q with
    | 0 => v = .pointer (some ⟨w.heap.size, 0, none⟩)
    | 1 => v = .int .i64 z
    | 2 => v = .string x0
    | 3 => v = .pointer (some ⟨w.heap.size, 1, none⟩)
    | 4 => v = .slice A n c
    | 5 => v = .int .i64 n
    | 6 => v = .string x1
    | 7 => v = .string x01
    | 8 => v = .pointer (some ⟨w.heap.size, 1, none⟩)
    | 9 => v = .slice A n c
    | 10 => v = .string x2
    | 11 => v = .string p
    | _ => v = .string p) (by kernel_rfl) _ rfl (by kernel_rfl) (by kernel_rfl) (by kernel_rfl) ?_ ?_ ?_
  · intro q v w1 w2 hF hK
    rcases q with _|_|_|_|_|_|_|_|_|_|_|_|q
    all_goals exact hF
  · intro q o ho av wv K hS hk H hK
    have hf1 : av.eval (.tmp 1) = .pointer (some ⟨w.heap.size, 0, none⟩) := (hS.2.2 1 (nofill (by kernel_rfl))).trans rfl
    have s0 := cell_kp r0 hk (by simp)
    have s1 := cell_kp r1 hk (by simp)
    rcases q with _|_|_|_|_|_|_|_|_|_|_|_|_|q
    all_goals try (obtain rfl := Option.some.inj ho)
    · have e1 := gd hf1
      exact wpOp_value rfl rfl (v := .pointer (some ⟨w.heap.size, 0, none⟩)) (w' := wv) (by simp [execOp, go_sem, e1]) (hK _ _ (Kp.rfl_ _ _) rfl)
    · have e3 := gd (H 0 3 (by kernel_rfl) rfl)
      exact wpOp_value rfl rfl (v := .int .i64 z) (w' := wv) (by simp [execOp, go_sem, e3, s0]) (hK _ _ (Kp.rfl_ _ _) rfl)
    · have e4 := gd (H 1 4 (by kernel_rfl) rfl)
      refine wpOp_call rfl rfl (f := 43) (args := #[.int .i64 z]) (w1 := wv) (by simp [execOp, go_sem, e4]) ?_
      refine (rnum_to z x0 wv HX0.out h1 h2).mono ?_
      rintro e w8 ⟨rfl, k8⟩
      exact ⟨_, rfl, hK _ _ k8 rfl⟩
    · have e1 := gd hf1
      exact wpOp_value rfl rfl (v := .pointer (some ⟨w.heap.size, 1, none⟩)) (w' := wv) (by simp [execOp, go_sem, e1]) (hK _ _ (Kp.rfl_ _ _) rfl)
    · have e6 := gd (H 3 6 (by kernel_rfl) rfl)
      exact wpOp_value rfl rfl (v := .slice A n c) (w' := wv) (by simp [execOp, go_sem, e6, s1]) (hK _ _ (Kp.rfl_ _ _) rfl)
    · have e7 := gd (H 4 7 (by kernel_rfl) rfl)
      exact wpOp_value rfl rfl (v := .int .i64 n) (w' := wv) (by simp [execOp, go_sem, e7]) (hK _ _ (Kp.rfl_ _ _) rfl)
    · have e8 := gd (H 5 8 (by kernel_rfl) rfl)
      refine wpOp_call rfl rfl (f := 43) (args := #[.int .i64 n]) (w1 := wv) (by simp [execOp, go_sem, e8]) ?_
      refine (rnum_to n x1 wv HX1.out (by omega) (by omega)).mono ?_
      rintro e w8 ⟨rfl, k8⟩
      exact ⟨_, rfl, hK _ _ k8 rfl⟩
    · have e5 := gd (H 2 5 (by kernel_rfl) rfl)
      have e9 := gd (H 6 9 (by kernel_rfl) rfl)
      exact wpOp_value rfl rfl (v := .string x01) (w' := wv) (by simp [execOp, go_sem, e5, e9, hx01, hsz]) (hK _ _ (Kp.rfl_ _ _) rfl)
    · have e1 := gd hf1
      exact wpOp_value rfl rfl (v := .pointer (some ⟨w.heap.size, 1, none⟩)) (w' := wv) (by simp [execOp, go_sem, e1]) (hK _ _ (Kp.rfl_ _ _) rfl)
    · have e11 := gd (H 8 11 (by kernel_rfl) rfl)
      exact wpOp_value rfl rfl (v := .slice A n c) (w' := wv) (by simp [execOp, go_sem, e11, s1]) (hK _ _ (Kp.rfl_ _ _) rfl)
    · have e12 := gd (H 9 12 (by kernel_rfl) rfl)
      refine wpOp_call rfl rfl (f := 44) (args := #[.slice A n c]) (w1 := wv) (by simp [execOp, go_sem, e12]) ?_
      refine (rtexts_to A n c hs x2 wv HX2.out (L1.kp hk (by simp)) hn HTOT.out).mono ?_
      rintro e w8 ⟨rfl, k8⟩
      exact ⟨_, rfl, hK _ _ k8 rfl⟩
    · have e10 := gd (H 7 10 (by kernel_rfl) rfl)
      have e13 := gd (H 10 13 (by kernel_rfl) rfl)
      exact wpOp_value rfl rfl (v := .string p) (w' := wv) (by simp [execOp, go_sem, e10, e13, hx12, hsz2]) (hK _ _ (Kp.rfl_ _ _) rfl)
    · have e14 := gd (H 11 14 (by kernel_rfl) rfl)
      exact wpOp_value rfl rfl (v := .string p) (w' := wv) (by simp [execOp, go_sem, e14]) (hK _ _ (Kp.rfl_ _ _) rfl)
    · simp at ho
  · intro av wv hS hk H
    have h2 : av.eval (.tmp 2) = .string p := H 12 2 rfl
    have hk2 := hk1.trans hk
    go_wp2_with fail
    exact bodyPost_ret (results_tmp rfl _ _ _) (hS.1.trans rfl) ⟨congrArg Ending.returned h2, hk2⟩
end Go.Proofs.YtencpplopdogmaaDoor
