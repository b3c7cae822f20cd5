/- SheetBuilds, SheetParses. -/
import Derived.Test.YtencpplopdogmaaDoorGi
namespace Go.Proofs.YtencpplopdogmaaDoor
set_option maxRecDepth 100000
open Go.RowKit
set_option linter.unusedVariables false

theorem rbuild_to (z : Int) (A B : Option Addr) (n c m d : Nat) (hs cs : List ByteArray) (r : ByteArray) (e0 : Int) (w : World) (hb : bld z hs cs = (r, e0)) (hL : Ls w A n (hs.map Value.string)) (hC : Ls w B m (cs.map Value.string)) (hn : n ≤ 1000000) (hm : m ≤ 1000000) (hmd : m ≤ d)
    (hz : ∀ x ∈ cs, x.size ≤ 1000000000) (hlen : (flat cs).length ≤ 1000000000) (h1 : -9223372036854775808 ≤ z) (h2 : z ≤ 9223372036854775807) :
    Calls Tryd.prog 16 #[.agg #[.int .i64 z, .slice A n c], .slice B m d] w fun e w' => e = .returned (.tuple #[.string r, .int .i64 e0]) ∧ Kp [] w w' :=
  (rbuild_any z A B n c m d hs cs w hL hC hn hm hmd hz hlen h1 h2).mono fun e w' ⟨he, hk⟩ => ⟨by rw [he, hb], hk⟩
theorem flat_each {ss : List ByteArray} : ∀ z ∈ ss, z.size ≤ (flat ss).length := by
  intro z hz
  induction ss with
  | nil => cases hz
  | cons s ss ih =>
    rw [flat_cons, List.length_append]
    rcases List.mem_cons.1 hz with rfl | h
    · simp
    · have := ih h; omega
/-- A sheet of one's own, as a value. -/
def Mine (z : Int) (n : Nat) (hs : List ByteArray) (v : Value) (w : World) : Prop := ∃ A c, v = .agg #[.int .i64 z, .slice A n c] ∧ Ls w A n (hs.map Value.string)
theorem Mine.kp {z : Int} {n : Nat} {hs : List ByteArray} {v : Value} {w w' : World} (h : Mine z n hs v w) (k : Kp [] w w') : Mine z n hs v w' := by
  obtain ⟨A, c, e, hL⟩ := h
  exact ⟨A, c, e, hL.kp k (by simp)⟩
theorem Owned.mine {z : Int} {n : Nat} {hs : List ByteArray} {w w' : World} {e : Ending} (h : Owned z n hs w e w') : ∃ v, e = .returned v ∧ Mine z n hs v w' ∧ Kp [] w w' := by
  obtain ⟨A, c, he, ho, hk⟩ := h
  obtain ⟨A', c', hh, hL, -⟩ := own_open ho
  injection hh with h1 h2 h3
  subst h1 h3
  exact ⟨_, he, ⟨A, c, rfl, hL⟩, hk⟩

set_option maxRecDepth 100000 in
set_option maxHeartbeats 8000000 in
theorem sbuilds_in (z : Int) (A B : Option Addr) (n c m d : Nat) (hs cs : List ByteArray) (w : World) (ht : Tbk w) (hL : Ls w A n (hs.map Value.string)) (hC : Ls w B m (cs.map Value.string)) (hn : n ≤ 17592186044416) (hm : m ≤ 17592186044416) (hmd : m ≤ d)
    (hz1 : ∀ x ∈ hs, x.size ≤ maxLen) (hz2 : ∀ x ∈ cs, x.size ≤ maxLen) (h1 : -9223372036854775808 ≤ z) (h2 : z ≤ 9223372036854775807) :
    Calls Tryd.prog 4 #[.agg #[.int .i64 z, .slice A n c], .slice B m d] w (Yes w) := by
  have hhl : hs.length = n := by simpa using hL.1
  have hcl : cs.length = m := by simpa using hC.1
  have HH := Lib.hid hhl
  have HCL := Lib.hid hcl
  have HZ1 := Lib.hid hz1
  have HZ2 := Lib.hid hz2
  have hroots := ht.1
  clear hhl hcl hz1 hz2
  go_enter Tryd.func4, Tryd.ntmps4
  go_wp2_with fail
  have hk0 : Kp [] w (w.alloc (.cells #[.int .i64 z, .slice A n c] 25)) := (Kp.rfl_ [] w).alloc _
  have a0 : At (w.alloc (.cells #[.int .i64 z, .slice A n c] 25)) w.heap.size 25 #[.int .i64 z, .slice A n c] := At.new w _ _
  generalize w.alloc (.cells #[.int .i64 z, .slice A n c] 25) = w0 at *
  refine (hsawake _ (ht.kp hk0 (by simp))).mono ?_
  rintro e w1 ⟨rfl, hk1⟩
  have a1 := a0.kp hk1 (by simp)
  have hk01 := hk0.trans hk1
  have L1 := hL.kp hk01 (by simp)
  have C1 := hC.kp hk01 (by simp)
  have c0 : w1.cell? ⟨w.heap.size, 0, none⟩ = some (.int .i64 z) := a1.cell 0
  have c1 : w1.cell? ⟨w.heap.size, 1, none⟩ = some (.slice A n c) := a1.cell 1
  clear hk0 hk1 a0
  go_wp2_with fail
  refine (great_any z A B n c m d hs cs _ L1 C1 hn hm HZ1.out HZ2.out).mono ?_
  rintro e w2 ⟨b, rfl, hk2, hb⟩
  have hk02 := hk01.trans hk2
  have a2 := a1.kp hk2 (by simp)
  have L2 := L1.kp hk2 (by simp)
  have C2 := C1.kp hk2 (by simp)
  clear hk01 hk2 a1 L1 C1 c0 c1
  cases b
  rotate_left
  · clear hb
    go_wp2_with fail
    refine (hsawake _ (ht.kp hk02 (by simp))).mono ?_
    rintro e w3 ⟨rfl, hk3⟩
    go_wp2_with fail
    go_ret
    exact ⟨rfl, hk02.trans hk3⟩
  have hbb := hb rfl
  have hn3 : n ≤ 3000 := by have := HH.out; omega
  have hm3 : m ≤ 3000 := by have := HCL.out; omega
  have hf1 : (flat cs).length ≤ 3000 := by omega
  have hcz : ∀ x ∈ cs, x.size ≤ 1000000000 := fun x hx => by have := flat_each x hx; omega
  have HCZ := Lib.hid hcz
  have HCZ2 : Hid (∀ x ∈ cs, x.size ≤ maxLen) := HZ2
  have HF : Hid ((flat cs).length ≤ 1000000000) := Lib.hid (by omega)
  clear hb hbb hf1 hcz HZ1 HZ2 hn hm
  obtain ⟨⟨r, e0⟩, hbl⟩ : ∃ x, bld z hs cs = x := ⟨_, rfl⟩
  have HBL := Lib.hid hbl
  clear hbl
  have c0 : w2.cell? ⟨w.heap.size, 0, none⟩ = some (.int .i64 z) := a2.cell 0
  have c1 : w2.cell? ⟨w.heap.size, 1, none⟩ = some (.slice A n c) := a2.cell 1
  go_wp2_with fail
  refine (sown_any z A n c hs _ L2 (by omega)).mono ?_
  intro e w3 h3
  obtain ⟨A3, c3, rfl, ho3, hk3⟩ := h3
  obtain ⟨A', c', hh, L3, -, -, -⟩ := own_open ho3
  injection hh with e1 e2 e3
  subst e1 e3
  have C3 := C2.kp hk3 (by simp)
  have a3 := a2.kp hk3 (by simp)
  have LL3 := L2.kp hk3 (by simp)
  have hk03 := hk02.trans hk3
  clear ho3 hk3 a2 L2 C2 hk02 c0 c1
  go_wp2_with (at_builtin; refine wpl_copy_str w3 rfl _ _ rfl B m d cs rfl rfl C3 (by omega) ?_; intro v4 w4 hown4 hk4; obtain ⟨B4, d4, hv4, hL4, hf4, hnd4⟩ := cks_of hown4; subst hv4; have ht4 := ht.kp (hk03.trans hk4) (by simp); have L34 := L3.kp hk4 (by simp))
  refine (build_to z A3 B4 n c3 m d4 hs cs r e0 _ HBL.out ht4 L34 hL4 (by omega) (by omega) hnd4 HCZ2.out HF.out (fun _ => hf4) h1 h2).mono ?_
  rintro e w5 ⟨rfl, hk5⟩
  have hk35 := hk4.trans hk5
  have C5 := C3.kp hk35 (by simp)
  have a5 := a3.kp hk35 (by simp)
  have LL5 := LL3.kp hk35 (by simp)
  have hk05 := hk03.trans hk35
  have c0 : w5.cell? ⟨w.heap.size, 0, none⟩ = some (.int .i64 z) := a5.cell 0
  have c1 : w5.cell? ⟨w.heap.size, 1, none⟩ = some (.slice A n c) := a5.cell 1
  clear hk4 hk5 hk35 C3 a3 LL3 hk03 ht4 L34 hL4 hf4 hown4 L3
  go_wp2_with fail
  refine (rbuild_to z A B n c m d hs cs r e0 _ HBL.out LL5 C5 (by omega) (by omega) hmd HCZ.out HF.out h1 h2).mono ?_
  rintro e w6 ⟨rfl, hk6⟩
  have a6 := a5.kp hk6 (by simp)
  have LL6 := LL5.kp hk6 (by simp)
  have hk06 := hk05.trans hk6
  have q0 : w6.cell? ⟨w.heap.size, 0, none⟩ = some (.int .i64 z) := a6.cell 0
  have q1 : w6.cell? ⟨w.heap.size, 1, none⟩ = some (.slice A n c) := a6.cell 1
  clear hk6 C5 a5 LL5 hk05 c0 c1
  go_wp2_with fail
  obtain ⟨ck, rb, hck, hcn, hrb⟩ : ∃ (ck : Int) (rb : Bool), (if Rt z hs then 0 else 3) = ck ∧ (ck == 0) = rb ∧ decide (Rt z hs) = rb := by
    by_cases h : Rt z hs
    · exact ⟨0, true, by rw [if_pos h], rfl, by simp [h]⟩
    · exact ⟨3, false, by rw [if_neg h], rfl, by simp [h]⟩
  refine region_inv2' (fun q v w' => match q with
    | 0 => v = .string r
    | 1 => v = .string r
    | 2 => v = .bool true
    | 3 => v = .bool true
    | 4 => v = .int .i64 e0
    | 5 => v = .int .i64 e0
    | 6 => v = .bool true
    | 7 => v = .bool true
    | 8 => v = .bool true
    | 9 => v = .agg #[.int .i64 z, .slice A n c]
    | 10 => Mine z n hs v w'
    | 11 => v = .int .i64 ck
    | 12 => v = .bool rb
    | 13 => v = .agg #[.int .i64 z, .slice A n c]
    | 14 => v = .bool rb
    | 15 => v = .bool true
    | 16 => v = .bool true
    | _ => v = .bool true) (by kernel_rfl) _ rfl (by kernel_rfl) (by kernel_rfl) (by kernel_rfl) ?_ ?_ ?_
  · intro q v w1 w2 hF hK
    rcases q with _|_|_|_|_|_|_|_|_|_|_|_|_|_|_|_|_|q
    all_goals first | exact hF | exact Mine.kp hF hK
  · intro q o ho av wv K hS hk H hK
    have hf2 : av.eval (.tmp 2) = .pointer (some ⟨w.heap.size, 0, none⟩) := (hS.2.2 2 (nofill (by kernel_rfl))).trans rfl
    have hf5 : av.eval (.tmp 5) = .string r := (hS.2.2 5 (nofill (by kernel_rfl))).trans rfl
    have hf6 : av.eval (.tmp 6) = .int .i64 e0 := (hS.2.2 6 (nofill (by kernel_rfl))).trans rfl
    have hf7 : av.eval (.tmp 7) = .string r := (hS.2.2 7 (nofill (by kernel_rfl))).trans rfl
    have hf8 : av.eval (.tmp 8) = .int .i64 e0 := (hS.2.2 8 (nofill (by kernel_rfl))).trans rfl
    have s0 := cell_kp q0 hk (by simp)
    have s1 := cell_kp q1 hk (by simp)
    rcases q with _|_|_|_|_|_|_|_|_|_|_|_|_|_|_|_|_|_|q
    all_goals try (obtain rfl := Option.some.inj ho)
    · have e5 := gd hf5
      exact wpOp_value rfl rfl (v := .string r) (w' := wv) (by simp [execOp, go_sem, e5]) (hK _ _ (Kp.rfl_ _ _) rfl)
    · have e7 := gd hf7
      exact wpOp_value rfl rfl (v := .string r) (w' := wv) (by simp [execOp, go_sem, e7]) (hK _ _ (Kp.rfl_ _ _) rfl)
    · have e32 := gd (H 0 32 (by kernel_rfl) rfl)
      have e33 := gd (H 1 33 (by kernel_rfl) rfl)
      exact wpOp_value rfl rfl (v := .bool true) (w' := wv) (by simp [execOp, go_sem, e32, e33]) (hK _ _ (Kp.rfl_ _ _) rfl)
    · have e34 := gd (H 2 34 (by kernel_rfl) rfl)
      exact wpOp_value rfl rfl (v := .bool true) (w' := wv) (by simp [execOp, go_sem, e34]) (hK _ _ (Kp.rfl_ _ _) rfl)
    · have e6 := gd hf6
      exact wpOp_value_g rfl (wanted_of rfl rfl (H 3 35 (by kernel_rfl) rfl)) (v := .int .i64 e0) (w' := wv) (by simp [execOp, go_sem, e6]) (hK _ _ (Kp.rfl_ _ _) rfl)
    · have e8 := gd hf8
      exact wpOp_value_g rfl (wanted_of rfl rfl (H 3 35 (by kernel_rfl) rfl)) (v := .int .i64 e0) (w' := wv) (by simp [execOp, go_sem, e8]) (hK _ _ (Kp.rfl_ _ _) rfl)
    · have e36 := gd (H 4 36 (by kernel_rfl) rfl)
      have e37 := gd (H 5 37 (by kernel_rfl) rfl)
      exact wpOp_value_g rfl (wanted_of rfl rfl (H 3 35 (by kernel_rfl) rfl)) (v := .bool true) (w' := wv) (by simp [execOp, go_sem, e36, e37]) (hK _ _ (Kp.rfl_ _ _) rfl)
    · have e35 := gd (H 3 35 (by kernel_rfl) rfl)
      have e38 := gd (H 6 38 (by kernel_rfl) rfl)
      exact wpOp_value rfl rfl (v := .bool true) (w' := wv) (by simp [execOp, go_sem, e35, e38]) (hK _ _ (Kp.rfl_ _ _) rfl)
    · have e39 := gd (H 7 39 (by kernel_rfl) rfl)
      exact wpOp_value rfl rfl (v := .bool true) (w' := wv) (by simp [execOp, go_sem, e39]) (hK _ _ (Kp.rfl_ _ _) rfl)
    · have e2 := gd hf2
      exact wpOp_value_g rfl (wanted_of rfl rfl (H 8 40 (by kernel_rfl) rfl)) (v := .agg #[.int .i64 z, .slice A n c]) (w' := wv) (by simp [execOp, go_sem, e2, s0, s1]) (hK _ _ (Kp.rfl_ _ _) rfl)
    · have e41 := gd (H 9 41 (by kernel_rfl) rfl)
      refine wpOp_call_g rfl (wanted_of rfl rfl (H 8 40 (by kernel_rfl) rfl)) (f := 15) (args := #[.agg #[.int .i64 z, .slice A n c]]) (w1 := wv) (by simp [execOp, go_sem, e41]) ?_
      refine (sown_any z A n c hs wv (LL6.kp hk (by simp)) (by omega)).mono ?_
      intro e w8 h8
      obtain ⟨v8, rfl, m8, k8⟩ := h8.mine
      exact ⟨_, rfl, hK _ _ k8 m8⟩
    · obtain ⟨B8, d8, e42, L8⟩ : Mine z n hs (av.tmps.getD 42 undef) wv := H 10 42 (by kernel_rfl) rfl
      have e42 := gd e42
      refine wpOp_call_g rfl (wanted_of rfl rfl (H 8 40 (by kernel_rfl) rfl)) (f := 17) (args := #[.agg #[.int .i64 z, .slice B8 n d8]]) (w1 := wv) (by simp [execOp, go_sem, e42]) ?_
      refine (scheck_any z B8 n d8 hs wv L8 (by omega) h1 h2).mono ?_
      rintro e w8 ⟨rfl, k8⟩
      exact ⟨_, rfl, hK _ _ k8 (by rw [hck]; exact rfl)⟩
    · have e43 := gd (H 11 43 (by kernel_rfl) rfl)
      exact wpOp_value_g rfl (wanted_of rfl rfl (H 8 40 (by kernel_rfl) rfl)) (v := .bool rb) (w' := wv) (by simp [execOp, go_sem, e43, hcn]) (hK _ _ (Kp.rfl_ _ _) rfl)
    · have e2 := gd hf2
      exact wpOp_value_g rfl (wanted_of rfl rfl (H 8 40 (by kernel_rfl) rfl)) (v := .agg #[.int .i64 z, .slice A n c]) (w' := wv) (by simp [execOp, go_sem, e2, s0, s1]) (hK _ _ (Kp.rfl_ _ _) rfl)
    · have e45 := gd (H 13 45 (by kernel_rfl) rfl)
      refine wpOp_call_g rfl (wanted_of rfl rfl (H 8 40 (by kernel_rfl) rfl)) (f := 18) (args := #[.agg #[.int .i64 z, .slice A n c]]) (w1 := wv) (by simp [execOp, go_sem, e45]) ?_
      refine (sright_any z A n c hs wv (LL6.kp hk (by simp)) (by omega) h1 h2).mono ?_
      rintro e w8 ⟨rfl, k8⟩
      exact ⟨_, rfl, hK _ _ k8 (by rw [hrb]; exact rfl)⟩
    · have e44 := gd (H 12 44 (by kernel_rfl) rfl)
      have e46 := gd (H 14 46 (by kernel_rfl) rfl)
      exact wpOp_value_g rfl (wanted_of rfl rfl (H 8 40 (by kernel_rfl) rfl)) (v := .bool true) (w' := wv) (by simp [execOp, go_sem, e44, e46]) (hK _ _ (Kp.rfl_ _ _) rfl)
    · have e40 := gd (H 8 40 (by kernel_rfl) rfl)
      have e47 := gd (H 15 47 (by kernel_rfl) rfl)
      exact wpOp_value rfl rfl (v := .bool true) (w' := wv) (by simp [execOp, go_sem, e40, e47]) (hK _ _ (Kp.rfl_ _ _) rfl)
    · have e48 := gd (H 16 48 (by kernel_rfl) rfl)
      exact wpOp_value rfl rfl (v := .bool true) (w' := wv) (by simp [execOp, go_sem, e48]) (hK _ _ (Kp.rfl_ _ _) rfl)
    · simp at ho
  · intro av wv hS hk H
    have h4 : av.eval (.tmp 4) = .bool true := H 17 4 rfl
    have hkv := hk06.trans hk
    go_wp2_with fail
    exact bodyPost_ret (results_tmp rfl _ _ _) (hS.1.trans rfl) ⟨congrArg Ending.returned h4, hkv⟩
theorem reach_16 {c : Nat} (h : c * 16 ≤ reachBytes) : c ≤ 17592186044416 := by unfold reachBytes at h; omega
theorem sbuilds_walk (v0 v1 : Value) (w : World) (hl : LaidSha w) (i0 : InS w 25 v0) (i1 : InS w 23 v1) : Calls Tryd.prog 4 #[v0, v1] w (Yes w) := by
  obtain ⟨z, A, n, c, hs, rfl, wz, hnc, -, hr1, hL, hz1⟩ := ins_sheet i0
  obtain ⟨B, m, d, cs, rfl, hmd, -, hr2, hC, hz2⟩ := ins_strs i1
  have hb := bd_i64 wz
  have h1 := reach_16 hr1
  have h2 := reach_16 hr2
  exact sbuilds_in z A B n c m d hs cs w (tbk_of hl) hL hC (by omega) (by omega) hmd hz1 hz2 hb.1 hb.2

theorem tot_flat2 : ∀ (ss : List ByteArray), Sz63 ss → (texts ss).length ≤ 10 * ss.length + (flat ss).length := by
  intro ss
  induction ss with
  | nil => intro _; simp [texts]
  | cons s ss ih =>
    intro h
    have h1 := h.cons
    have h2 := ih h1.2
    have h3 := (numB_len (z := (s.size : Int)) (by omega) (by omega)).2
    have h4 : s.data.toList.length = s.size := by simp
    rw [textsS_cons, flat_cons]
    simp only [List.length_append, List.length_cons]
    omega
set_option maxRecDepth 100000 in
set_option maxHeartbeats 16000000 in
theorem sparses_in (z : Int) (A : Option Addr) (n c : Nat) (hs : List ByteArray) (x : ByteArray) (w : World) (ht : Tbk w) (hL : Ls w A n (hs.map Value.string)) (hn : n ≤ 17592186044416)
    (hz1 : ∀ x ∈ hs, x.size ≤ maxLen) (hx : x.size ≤ 9223372036854775807) (h1 : -9223372036854775808 ≤ z) (h2 : z ≤ 9223372036854775807) :
    Calls Tryd.prog 5 #[.agg #[.int .i64 z, .slice A n c], .string x] w (Yes w) := by
  have hhl : hs.length = n := by simpa using hL.1
  have HH := Lib.hid hhl
  have HZ1 := Lib.hid hz1
  have hroots := ht.1
  clear hhl hz1
  go_enter Tryd.func5, Tryd.ntmps5
  go_wp2_with fail
  have hk0 : Kp [] w (w.alloc (.cells #[.int .i64 z, .slice A n c] 25)) := (Kp.rfl_ [] w).alloc _
  have a0 : At (w.alloc (.cells #[.int .i64 z, .slice A n c] 25)) w.heap.size 25 #[.int .i64 z, .slice A n c] := At.new w _ _
  generalize w.alloc (.cells #[.int .i64 z, .slice A n c] 25) = w0 at *
  refine (hsawake _ (ht.kp hk0 (by simp))).mono ?_
  rintro e w1 ⟨rfl, hk1⟩
  have a1 := a0.kp hk1 (by simp)
  have hk01 := hk0.trans hk1
  have L1 := hL.kp hk01 (by simp)
  have c0 : w1.cell? ⟨w.heap.size, 0, none⟩ = some (.int .i64 z) := a1.cell 0
  have c1 : w1.cell? ⟨w.heap.size, 1, none⟩ = some (.slice A n c) := a1.cell 1
  clear hk0 hk1 a0
  go_wp2_with fail
  refine (great_any z A none n c 0 0 hs [] _ L1 Ls.nil_ hn (by omega) HZ1.out (by simp)).mono ?_
  rintro e w2 ⟨b, rfl, hk2, hb⟩
  have hk02 := hk01.trans hk2
  have a2 := a1.kp hk2 (by simp)
  have L2 := L1.kp hk2 (by simp)
  clear hk01 hk2 a1 L1 c0 c1
  cases b
  rotate_left
  · clear hb
    go_wp2_with fail
    refine (hsawake _ (ht.kp hk02 (by simp))).mono ?_
    rintro e w3 ⟨rfl, hk3⟩
    go_wp2_with fail
    go_ret
    exact ⟨rfl, hk02.trans hk3⟩
  have hbb := hb rfl
  by_cases hxl : x.size ≤ 3000
  rotate_left
  · clear hb hbb
    go_wp2_with fail
    refine (hsawake _ (ht.kp hk02 (by simp))).mono ?_
    rintro e w3 ⟨rfl, hk3⟩
    go_wp2_with fail
    go_ret
    exact ⟨rfl, hk02.trans hk3⟩
  have hn3 : n ≤ 3000 := by have := HH.out; omega
  have htl : (texts hs).length ≤ 1000000000 := by
    have h3 := tot_flat2 hs fun x hx => by have := HZ1.out x hx; unfold maxLen at this; omega
    have h4 := HH.out
    omega
  have HTL := Lib.hid htl
  obtain ⟨p, hp⟩ : ∃ p, bs (pk z hs) = p := ⟨_, rfl⟩
  have HP := Lib.hid hp
  clear hb hbb HZ1 hn htl hp
  go_wp2_with fail
  refine (sparse_any x _ (by omega)).mono ?_
  rintro e w3 (⟨zp, hp, Ap, cp, rfl, hprs, ho3, hk3⟩ | ⟨rfl, hno, hk3⟩)
  · obtain ⟨A', c', hh, LP3, -, -, -⟩ := own_open ho3
    injection hh with e1 e2 e3
    subst e1 e3
    obtain ⟨np, hnpe⟩ : ∃ np, hp.length = np := ⟨_, rfl⟩
    have hnp8 : np ≤ 8 := by rw [← hnpe]; exact hprs.1.len
    have hnp : np ≤ 1099511627776 := by omega
    rw [hnpe] at LP3 ⊢
    have a3 := a2.kp hk3 (by simp)
    have LL3 := L2.kp hk3 (by simp)
    have hk03 := hk02.trans hk3
    clear ho3 hk3 a2 L2 hk02
    obtain ⟨g5, hg5⟩ : ∃ g5, w3.heap.size = g5 := ⟨_, rfl⟩
    have k34 : Kp [] w3 (w3.alloc (.cells #[.int .i64 zp, .slice Ap np cp] 25)) := (Kp.rfl_ [] w3).alloc _
    have b4 : At (w3.alloc (.cells #[.int .i64 zp, .slice Ap np cp] 25)) g5 25 #[.int .i64 zp, .slice Ap np cp] := At.new_ hg5
    have LP4 := LP3.kp k34 (by simp)
    have a4 := a3.kp k34 (by simp)
    have LL4 := LL3.kp k34 (by simp)
    have hk04 := hk03.trans k34
    go_wp2_with fail
    generalize w3.alloc (.cells #[.int .i64 zp, .slice Ap np cp] 25) = w4 at *
    clear k34 a3 LL3 hk03 LP3
    refine (rsparse_any x w4 (by omega)).mono ?_
    rintro e w5 (⟨zq, hq, Aq, cq, rfl, hprs2, ho5, hk5⟩ | ⟨-, hno, -⟩)
    rotate_left
    · exact absurd hprs (hno _ _)
    obtain ⟨rfl, rfl⟩ := hprs.one hprs2
    obtain ⟨A', c', hh, LQ5, -, -, -⟩ := own_open ho5
    injection hh with e1 e2 e3
    subst e1 e3
    rw [hnpe] at LQ5 ⊢
    clear ho5 hprs2
    obtain ⟨g7, hg7⟩ : ∃ g7, w5.heap.size = g7 := ⟨_, rfl⟩
    have k56 : Kp [] w5 (w5.alloc (.cells #[.int .i64 zp, .slice Aq np cq] 25)) := (Kp.rfl_ [] w5).alloc _
    have k46 := hk5.trans k56
    have d6 : At (w5.alloc (.cells #[.int .i64 zp, .slice Aq np cq] 25)) g7 25 #[.int .i64 zp, .slice Aq np cq] := At.new_ hg7
    have b6 := b4.kp k46 (by simp)
    have a6 := a4.kp k46 (by simp)
    have LL6 := LL4.kp k46 (by simp)
    have LP6 := LP4.kp k46 (by simp)
    have LQ6 := LQ5.kp k56 (by simp)
    have hk06 := hk04.trans k46
    go_wp2_with fail
    generalize w5.alloc (.cells #[.int .i64 zp, .slice Aq np cq] 25) = w6 at *
    clear k56 k46 b4 a4 LL4 LP4 LQ5 hk04 hk5
    have q0 : w6.cell? ⟨w.heap.size, 0, none⟩ = some (.int .i64 z) := a6.cell 0
    have q1 : w6.cell? ⟨w.heap.size, 1, none⟩ = some (.slice A n c) := a6.cell 1
    have p0 : w6.cell? ⟨g5, 0, none⟩ = some (.int .i64 zp) := b6.cell 0
    have p1 : w6.cell? ⟨g5, 1, none⟩ = some (.slice Ap np cp) := b6.cell 1
    have o0 : w6.cell? ⟨g7, 0, none⟩ = some (.int .i64 zp) := d6.cell 0
    have o1 : w6.cell? ⟨g7, 1, none⟩ = some (.slice Aq np cq) := d6.cell 1
    refine region_inv2' (fun q v w' => match q with
      | 0 => v = .agg #[.int .i64 z, .slice A n c]
      | 1 => Mine z n hs v w'
      | 2 => v = .string p
      | 3 => v = .agg #[.int .i64 z, .slice A n c]
      | 4 => v = .string p
      | 5 => v = .bool true
      | 6 => v = .bool true
      | 7 => v = .agg #[.int .i64 zp, .slice Ap np cp]
      | 8 => v = .agg #[.int .i64 zp, .slice Aq np cq]
      | 9 => v = .bool true
      | 10 => v = .bool true
      | 11 => v = .bool true
      | 12 => v = .int .i64 0
      | 13 => v = .bool true
      | 14 => v = .bool true
      | 15 => v = .bool true
      | 16 => v = .bool true
      | 17 => v = .bool true
      | 18 => v = .bool true
      | 19 => v = .bool true
      | 20 => True
      | 21 => True
      | 22 => v = .bool true
      | 23 => v = .bool true
      | _ => v = .bool true) (by kernel_rfl) _ rfl (by kernel_rfl) (by kernel_rfl) (by kernel_rfl) ?_ ?_ ?_
    · intro q v w1 w2 hF hK
      rcases q with _|_|_|_|_|_|_|_|_|_|_|_|_|_|_|_|_|_|_|_|_|_|_|_|q
      all_goals first | exact hF | exact Mine.kp hF hK
    · intro q o ho av wv K hS hk H hK
      have hf2 : av.eval (.tmp 2) = .pointer (some ⟨w.heap.size, 0, none⟩) := (hS.2.2 2 (nofill (by kernel_rfl))).trans rfl
      have hf5 : av.eval (.tmp 5) = .pointer (some ⟨g5, 0, none⟩) := (hS.2.2 5 (nofill (by kernel_rfl))).trans rfl
      have hf6 : av.eval (.tmp 6) = .int .i64 0 := (hS.2.2 6 (nofill (by kernel_rfl))).trans rfl
      have hf7 : av.eval (.tmp 7) = .pointer (some ⟨g7, 0, none⟩) := (hS.2.2 7 (nofill (by kernel_rfl))).trans rfl
      have hf8 : av.eval (.tmp 8) = .bool true := (hS.2.2 8 (nofill (by kernel_rfl))).trans rfl
      have s0 := cell_kp q0 hk (by simp)
      have s1 := cell_kp q1 hk (by simp)
      have t0 := cell_kp p0 hk (by simp)
      have t1 := cell_kp p1 hk (by simp)
      have u0 := cell_kp o0 hk (by simp)
      have u1 := cell_kp o1 hk (by simp)
      rcases q with _|_|_|_|_|_|_|_|_|_|_|_|_|_|_|_|_|_|_|_|_|_|_|_|_|q
      all_goals try (obtain rfl := Option.some.inj ho)
      · have e2 := gd hf2
        exact wpOp_value rfl rfl (v := .agg #[.int .i64 z, .slice A n c]) (w' := wv) (by simp [execOp, go_sem, e2, s0, s1]) (hK _ _ (Kp.rfl_ _ _) rfl)
      · have e31 := gd (H 0 31 (by kernel_rfl) rfl)
        refine wpOp_call rfl rfl (f := 15) (args := #[.agg #[.int .i64 z, .slice A n c]]) (w1 := wv) (by simp [execOp, go_sem, e31]) ?_
        refine (sown_any z A n c hs wv (LL6.kp hk (by simp)) (by omega)).mono ?_
        intro e w8 h8
        obtain ⟨v8, rfl, m8, k8⟩ := h8.mine
        exact ⟨_, rfl, hK _ _ k8 m8⟩
      · obtain ⟨B8, d8, e32, L8⟩ : Mine z n hs (av.tmps.getD 32 undef) wv := H 1 32 (by kernel_rfl) rfl
        have e32 := gd e32
        refine wpOp_call rfl rfl (f := 21) (args := #[.agg #[.int .i64 z, .slice B8 n d8]]) (w1 := wv) (by simp [execOp, go_sem, e32]) ?_
        refine (spack_to z B8 n d8 hs p wv HP.out L8 (by omega) HTL.out h1 h2).mono ?_
        rintro e w8 ⟨rfl, k8⟩
        exact ⟨_, rfl, hK _ _ k8 rfl⟩
      · have e2 := gd hf2
        exact wpOp_value rfl rfl (v := .agg #[.int .i64 z, .slice A n c]) (w' := wv) (by simp [execOp, go_sem, e2, s0, s1]) (hK _ _ (Kp.rfl_ _ _) rfl)
      · have e34 := gd (H 3 34 (by kernel_rfl) rfl)
        refine wpOp_call rfl rfl (f := 22) (args := #[.agg #[.int .i64 z, .slice A n c]]) (w1 := wv) (by simp [execOp, go_sem, e34]) ?_
        refine (rspack_to z A n c hs p wv HP.out (LL6.kp hk (by simp)) (by omega) HTL.out h1 h2).mono ?_
        rintro e w8 ⟨rfl, k8⟩
        exact ⟨_, rfl, hK _ _ k8 rfl⟩
      · have e33 := gd (H 2 33 (by kernel_rfl) rfl)
        have e35 := gd (H 4 35 (by kernel_rfl) rfl)
        exact wpOp_value rfl rfl (v := .bool true) (w' := wv) (by simp [execOp, go_sem, e33, e35]) (hK _ _ (Kp.rfl_ _ _) rfl)
      · have e36 := gd (H 5 36 (by kernel_rfl) rfl)
        exact wpOp_value rfl rfl (v := .bool true) (w' := wv) (by simp [execOp, go_sem, e36]) (hK _ _ (Kp.rfl_ _ _) rfl)
      · have e5 := gd hf5
        exact wpOp_value_g rfl (wanted_of rfl rfl (H 6 37 (by kernel_rfl) rfl)) (v := .agg #[.int .i64 zp, .slice Ap np cp]) (w' := wv) (by simp [execOp, go_sem, e5, t0, t1]) (hK _ _ (Kp.rfl_ _ _) rfl)
      · have e7 := gd hf7
        exact wpOp_value_g rfl (wanted_of rfl rfl (H 6 37 (by kernel_rfl) rfl)) (v := .agg #[.int .i64 zp, .slice Aq np cq]) (w' := wv) (by simp [execOp, go_sem, e7, u0, u1]) (hK _ _ (Kp.rfl_ _ _) rfl)
      · have e38 := gd (H 7 38 (by kernel_rfl) rfl)
        have e39 := gd (H 8 39 (by kernel_rfl) rfl)
        refine wpOp_call_g rfl (wanted_of rfl rfl (H 6 37 (by kernel_rfl) rfl)) (f := 12) (args := #[.agg #[.int .i64 zp, .slice Ap np cp], .agg #[.int .i64 zp, .slice Aq np cq]]) (w1 := wv) (by simp [execOp, go_sem, e38, e39]) ?_
        refine (ssame_to zp zp Ap Aq np cp np cq hp hp true wv (by simp) (LP6.kp hk (by simp)) (LQ6.kp hk (by simp)) hnp hnp).mono ?_
        rintro e w8 ⟨rfl, k8⟩
        exact ⟨_, rfl, hK _ _ k8 rfl⟩
      · have e37 := gd (H 6 37 (by kernel_rfl) rfl)
        have e40 := gd (H 9 40 (by kernel_rfl) rfl)
        exact wpOp_value rfl rfl (v := .bool true) (w' := wv) (by simp [execOp, go_sem, e37, e40]) (hK _ _ (Kp.rfl_ _ _) rfl)
      · have e41 := gd (H 10 41 (by kernel_rfl) rfl)
        exact wpOp_value rfl rfl (v := .bool true) (w' := wv) (by simp [execOp, go_sem, e41]) (hK _ _ (Kp.rfl_ _ _) rfl)
      · have e6 := gd hf6
        exact wpOp_value_g rfl (wanted_of rfl rfl (H 11 42 (by kernel_rfl) rfl)) (v := .int .i64 0) (w' := wv) (by simp [execOp, go_sem, e6]) (hK _ _ (Kp.rfl_ _ _) rfl)
      · have e43 := gd (H 12 43 (by kernel_rfl) rfl)
        exact wpOp_value_g rfl (wanted_of rfl rfl (H 11 42 (by kernel_rfl) rfl)) (v := .bool true) (w' := wv) (by simp [execOp, go_sem, e43]) (hK _ _ (Kp.rfl_ _ _) rfl)
      · have e8 := gd hf8
        exact wpOp_value_g rfl (wanted_of rfl rfl (H 11 42 (by kernel_rfl) rfl)) (v := .bool true) (w' := wv) (by simp [execOp, go_sem, e8]) (hK _ _ (Kp.rfl_ _ _) rfl)
      · have e44 := gd (H 13 44 (by kernel_rfl) rfl)
        have e45 := gd (H 14 45 (by kernel_rfl) rfl)
        exact wpOp_value_g rfl (wanted_of rfl rfl (H 11 42 (by kernel_rfl) rfl)) (v := .bool true) (w' := wv) (by simp [execOp, go_sem, e44, e45]) (hK _ _ (Kp.rfl_ _ _) rfl)
      · have e42 := gd (H 11 42 (by kernel_rfl) rfl)
        have e46 := gd (H 15 46 (by kernel_rfl) rfl)
        exact wpOp_value rfl rfl (v := .bool true) (w' := wv) (by simp [execOp, go_sem, e42, e46]) (hK _ _ (Kp.rfl_ _ _) rfl)
      · have e47 := gd (H 16 47 (by kernel_rfl) rfl)
        exact wpOp_value rfl rfl (v := .bool true) (w' := wv) (by simp [execOp, go_sem, e47]) (hK _ _ (Kp.rfl_ _ _) rfl)
      · have e8 := gd hf8
        exact wpOp_value_g rfl (wanted_of rfl rfl (H 17 48 (by kernel_rfl) rfl)) (v := .bool true) (w' := wv) (by simp [execOp, go_sem, e8]) (hK _ _ (Kp.rfl_ _ _) rfl)
      · have e49 := gd (H 18 49 (by kernel_rfl) rfl)
        exact wpOp_value_g rfl (wanted_of rfl rfl (H 17 48 (by kernel_rfl) rfl)) (v := .bool true) (w' := wv) (by simp [execOp, go_sem, e49]) (hK _ _ (Kp.rfl_ _ _) rfl)
      · exact wpOp_skip rfl (unwanted_of rfl rfl (H 19 50 (by kernel_rfl) rfl) (by decide)) (hK _ _ (Kp.rfl_ _ _) trivial)
      · exact wpOp_skip rfl (unwanted_of rfl rfl (H 19 50 (by kernel_rfl) rfl) (by decide)) (hK _ _ (Kp.rfl_ _ _) trivial)
      · have e50 := gd (H 19 50 (by kernel_rfl) rfl)
        exact wpOp_value_g rfl (wanted_of rfl rfl (H 17 48 (by kernel_rfl) rfl)) (v := .bool true) (w' := wv) (by simp [execOp, go_sem, e50]) (hK _ _ (Kp.rfl_ _ _) rfl)
      · have e48 := gd (H 17 48 (by kernel_rfl) rfl)
        have e53 := gd (H 22 53 (by kernel_rfl) rfl)
        exact wpOp_value rfl rfl (v := .bool true) (w' := wv) (by simp [execOp, go_sem, e48, e53]) (hK _ _ (Kp.rfl_ _ _) rfl)
      · have e54 := gd (H 23 54 (by kernel_rfl) rfl)
        exact wpOp_value rfl rfl (v := .bool true) (w' := wv) (by simp [execOp, go_sem, e54]) (hK _ _ (Kp.rfl_ _ _) rfl)
      · simp at ho
    · intro av wv hS hk H
      have h4 : av.eval (.tmp 4) = .bool true := H 24 4 rfl
      have hkv := hk06.trans hk
      go_wp2_with fail
      exact bodyPost_ret (results_tmp rfl _ _ _) (hS.1.trans rfl) ⟨congrArg Ending.returned h4, hkv⟩
  · have LP3 : Ls w3 none 0 (([] : List ByteArray).map Value.string) := Ls.nil_
    have a3 := a2.kp hk3 (by simp)
    have LL3 := L2.kp hk3 (by simp)
    have hk03 := hk02.trans hk3
    clear hk3 a2 L2 hk02
    obtain ⟨g5, hg5⟩ : ∃ g5, w3.heap.size = g5 := ⟨_, rfl⟩
    have k34 : Kp [] w3 (w3.alloc (.cells #[.int .i64 0, .slice none 0 0] 25)) := (Kp.rfl_ [] w3).alloc _
    have b4 : At (w3.alloc (.cells #[.int .i64 0, .slice none 0 0] 25)) g5 25 #[.int .i64 0, .slice none 0 0] := At.new_ hg5
    have LP4 := LP3.kp k34 (by simp)
    have a4 := a3.kp k34 (by simp)
    have LL4 := LL3.kp k34 (by simp)
    have hk04 := hk03.trans k34
    go_wp2_with fail
    generalize w3.alloc (.cells #[.int .i64 0, .slice none 0 0] 25) = w4 at *
    clear k34 a3 LL3 hk03 LP3
    refine (rsparse_any x w4 (by omega)).mono ?_
    rintro e w5 (⟨zq, hq, Aq, cq, rfl, hprs2, ho5, hk5⟩ | ⟨rfl, -, hk5⟩)
    · exact absurd hprs2 (hno _ _)
    have LQ5 : Ls w5 none 0 (([] : List ByteArray).map Value.string) := Ls.nil_
    obtain ⟨g7, hg7⟩ : ∃ g7, w5.heap.size = g7 := ⟨_, rfl⟩
    have k56 : Kp [] w5 (w5.alloc (.cells #[.int .i64 0, .slice none 0 0] 25)) := (Kp.rfl_ [] w5).alloc _
    have k46 := hk5.trans k56
    have d6 : At (w5.alloc (.cells #[.int .i64 0, .slice none 0 0] 25)) g7 25 #[.int .i64 0, .slice none 0 0] := At.new_ hg7
    have b6 := b4.kp k46 (by simp)
    have a6 := a4.kp k46 (by simp)
    have LL6 := LL4.kp k46 (by simp)
    have LP6 := LP4.kp k46 (by simp)
    have LQ6 := LQ5.kp k56 (by simp)
    have hk06 := hk04.trans k46
    go_wp2_with fail
    generalize w5.alloc (.cells #[.int .i64 0, .slice none 0 0] 25) = w6 at *
    clear k56 k46 b4 a4 LL4 LP4 LQ5 hk04 hk5
    have q0 : w6.cell? ⟨w.heap.size, 0, none⟩ = some (.int .i64 z) := a6.cell 0
    have q1 : w6.cell? ⟨w.heap.size, 1, none⟩ = some (.slice A n c) := a6.cell 1
    have p0 : w6.cell? ⟨g5, 0, none⟩ = some (.int .i64 0) := b6.cell 0
    have p1 : w6.cell? ⟨g5, 1, none⟩ = some (.slice none 0 0) := b6.cell 1
    have o0 : w6.cell? ⟨g7, 0, none⟩ = some (.int .i64 0) := d6.cell 0
    have o1 : w6.cell? ⟨g7, 1, none⟩ = some (.slice none 0 0) := d6.cell 1
    refine region_inv2' (fun q v w' => match q with
      | 0 => v = .agg #[.int .i64 z, .slice A n c]
      | 1 => Mine z n hs v w'
      | 2 => v = .string p
      | 3 => v = .agg #[.int .i64 z, .slice A n c]
      | 4 => v = .string p
      | 5 => v = .bool true
      | 6 => v = .bool true
      | 7 => v = .agg #[.int .i64 0, .slice none 0 0]
      | 8 => v = .agg #[.int .i64 0, .slice none 0 0]
      | 9 => v = .bool true
      | 10 => v = .bool true
      | 11 => v = .bool true
      | 12 => v = .int .i64 3
      | 13 => v = .bool false
      | 14 => v = .bool false
      | 15 => v = .bool true
      | 16 => v = .bool true
      | 17 => v = .bool true
      | 18 => v = .bool false
      | 19 => v = .bool false
      | 20 => v = .int .i64 3
      | 21 => v = .bool true
      | 22 => v = .bool true
      | 23 => v = .bool true
      | _ => v = .bool true) (by kernel_rfl) _ rfl (by kernel_rfl) (by kernel_rfl) (by kernel_rfl) ?_ ?_ ?_
    · intro q v w1 w2 hF hK
      rcases q with _|_|_|_|_|_|_|_|_|_|_|_|_|_|_|_|_|_|_|_|_|_|_|_|q
      all_goals first | exact hF | exact Mine.kp hF hK
    · intro q o ho av wv K hS hk H hK
      have hf2 : av.eval (.tmp 2) = .pointer (some ⟨w.heap.size, 0, none⟩) := (hS.2.2 2 (nofill (by kernel_rfl))).trans rfl
      have hf5 : av.eval (.tmp 5) = .pointer (some ⟨g5, 0, none⟩) := (hS.2.2 5 (nofill (by kernel_rfl))).trans rfl
      have hf6 : av.eval (.tmp 6) = .int .i64 3 := (hS.2.2 6 (nofill (by kernel_rfl))).trans rfl
      have hf7 : av.eval (.tmp 7) = .pointer (some ⟨g7, 0, none⟩) := (hS.2.2 7 (nofill (by kernel_rfl))).trans rfl
      have hf8 : av.eval (.tmp 8) = .bool false := (hS.2.2 8 (nofill (by kernel_rfl))).trans rfl
      have s0 := cell_kp q0 hk (by simp)
      have s1 := cell_kp q1 hk (by simp)
      have t0 := cell_kp p0 hk (by simp)
      have t1 := cell_kp p1 hk (by simp)
      have u0 := cell_kp o0 hk (by simp)
      have u1 := cell_kp o1 hk (by simp)
      rcases q with _|_|_|_|_|_|_|_|_|_|_|_|_|_|_|_|_|_|_|_|_|_|_|_|_|q
      all_goals try (obtain rfl := Option.some.inj ho)
      · have e2 := gd hf2
        exact wpOp_value rfl rfl (v := .agg #[.int .i64 z, .slice A n c]) (w' := wv) (by simp [execOp, go_sem, e2, s0, s1]) (hK _ _ (Kp.rfl_ _ _) rfl)
      · have e31 := gd (H 0 31 (by kernel_rfl) rfl)
        refine wpOp_call rfl rfl (f := 15) (args := #[.agg #[.int .i64 z, .slice A n c]]) (w1 := wv) (by simp [execOp, go_sem, e31]) ?_
        refine (sown_any z A n c hs wv (LL6.kp hk (by simp)) (by omega)).mono ?_
        intro e w8 h8
        obtain ⟨v8, rfl, m8, k8⟩ := h8.mine
        exact ⟨_, rfl, hK _ _ k8 m8⟩
      · obtain ⟨B8, d8, e32, L8⟩ : Mine z n hs (av.tmps.getD 32 undef) wv := H 1 32 (by kernel_rfl) rfl
        have e32 := gd e32
        refine wpOp_call rfl rfl (f := 21) (args := #[.agg #[.int .i64 z, .slice B8 n d8]]) (w1 := wv) (by simp [execOp, go_sem, e32]) ?_
        refine (spack_to z B8 n d8 hs p wv HP.out L8 (by omega) HTL.out h1 h2).mono ?_
        rintro e w8 ⟨rfl, k8⟩
        exact ⟨_, rfl, hK _ _ k8 rfl⟩
      · have e2 := gd hf2
        exact wpOp_value rfl rfl (v := .agg #[.int .i64 z, .slice A n c]) (w' := wv) (by simp [execOp, go_sem, e2, s0, s1]) (hK _ _ (Kp.rfl_ _ _) rfl)
      · have e34 := gd (H 3 34 (by kernel_rfl) rfl)
        refine wpOp_call rfl rfl (f := 22) (args := #[.agg #[.int .i64 z, .slice A n c]]) (w1 := wv) (by simp [execOp, go_sem, e34]) ?_
        refine (rspack_to z A n c hs p wv HP.out (LL6.kp hk (by simp)) (by omega) HTL.out h1 h2).mono ?_
        rintro e w8 ⟨rfl, k8⟩
        exact ⟨_, rfl, hK _ _ k8 rfl⟩
      · have e33 := gd (H 2 33 (by kernel_rfl) rfl)
        have e35 := gd (H 4 35 (by kernel_rfl) rfl)
        exact wpOp_value rfl rfl (v := .bool true) (w' := wv) (by simp [execOp, go_sem, e33, e35]) (hK _ _ (Kp.rfl_ _ _) rfl)
      · have e36 := gd (H 5 36 (by kernel_rfl) rfl)
        exact wpOp_value rfl rfl (v := .bool true) (w' := wv) (by simp [execOp, go_sem, e36]) (hK _ _ (Kp.rfl_ _ _) rfl)
      · have e5 := gd hf5
        exact wpOp_value_g rfl (wanted_of rfl rfl (H 6 37 (by kernel_rfl) rfl)) (v := .agg #[.int .i64 0, .slice none 0 0]) (w' := wv) (by simp [execOp, go_sem, e5, t0, t1]) (hK _ _ (Kp.rfl_ _ _) rfl)
      · have e7 := gd hf7
        exact wpOp_value_g rfl (wanted_of rfl rfl (H 6 37 (by kernel_rfl) rfl)) (v := .agg #[.int .i64 0, .slice none 0 0]) (w' := wv) (by simp [execOp, go_sem, e7, u0, u1]) (hK _ _ (Kp.rfl_ _ _) rfl)
      · have e38 := gd (H 7 38 (by kernel_rfl) rfl)
        have e39 := gd (H 8 39 (by kernel_rfl) rfl)
        refine wpOp_call_g rfl (wanted_of rfl rfl (H 6 37 (by kernel_rfl) rfl)) (f := 12) (args := #[.agg #[.int .i64 0, .slice none 0 0], .agg #[.int .i64 0, .slice none 0 0]]) (w1 := wv) (by simp [execOp, go_sem, e38, e39]) ?_
        refine (ssame_to 0 0 none none 0 0 0 0 [] [] true wv (by simp) (LP6.kp hk (by simp)) (LQ6.kp hk (by simp)) (by omega) (by omega)).mono ?_
        rintro e w8 ⟨rfl, k8⟩
        exact ⟨_, rfl, hK _ _ k8 rfl⟩
      · have e37 := gd (H 6 37 (by kernel_rfl) rfl)
        have e40 := gd (H 9 40 (by kernel_rfl) rfl)
        exact wpOp_value rfl rfl (v := .bool true) (w' := wv) (by simp [execOp, go_sem, e37, e40]) (hK _ _ (Kp.rfl_ _ _) rfl)
      · have e41 := gd (H 10 41 (by kernel_rfl) rfl)
        exact wpOp_value rfl rfl (v := .bool true) (w' := wv) (by simp [execOp, go_sem, e41]) (hK _ _ (Kp.rfl_ _ _) rfl)
      · have e6 := gd hf6
        exact wpOp_value_g rfl (wanted_of rfl rfl (H 11 42 (by kernel_rfl) rfl)) (v := .int .i64 3) (w' := wv) (by simp [execOp, go_sem, e6]) (hK _ _ (Kp.rfl_ _ _) rfl)
      · have e43 := gd (H 12 43 (by kernel_rfl) rfl)
        exact wpOp_value_g rfl (wanted_of rfl rfl (H 11 42 (by kernel_rfl) rfl)) (v := .bool false) (w' := wv) (by simp [execOp, go_sem, e43]) (hK _ _ (Kp.rfl_ _ _) rfl)
      · have e8 := gd hf8
        exact wpOp_value_g rfl (wanted_of rfl rfl (H 11 42 (by kernel_rfl) rfl)) (v := .bool false) (w' := wv) (by simp [execOp, go_sem, e8]) (hK _ _ (Kp.rfl_ _ _) rfl)
      · have e44 := gd (H 13 44 (by kernel_rfl) rfl)
        have e45 := gd (H 14 45 (by kernel_rfl) rfl)
        exact wpOp_value_g rfl (wanted_of rfl rfl (H 11 42 (by kernel_rfl) rfl)) (v := .bool true) (w' := wv) (by simp [execOp, go_sem, e44, e45]) (hK _ _ (Kp.rfl_ _ _) rfl)
      · have e42 := gd (H 11 42 (by kernel_rfl) rfl)
        have e46 := gd (H 15 46 (by kernel_rfl) rfl)
        exact wpOp_value rfl rfl (v := .bool true) (w' := wv) (by simp [execOp, go_sem, e42, e46]) (hK _ _ (Kp.rfl_ _ _) rfl)
      · have e47 := gd (H 16 47 (by kernel_rfl) rfl)
        exact wpOp_value rfl rfl (v := .bool true) (w' := wv) (by simp [execOp, go_sem, e47]) (hK _ _ (Kp.rfl_ _ _) rfl)
      · have e8 := gd hf8
        exact wpOp_value_g rfl (wanted_of rfl rfl (H 17 48 (by kernel_rfl) rfl)) (v := .bool false) (w' := wv) (by simp [execOp, go_sem, e8]) (hK _ _ (Kp.rfl_ _ _) rfl)
      · have e49 := gd (H 18 49 (by kernel_rfl) rfl)
        exact wpOp_value_g rfl (wanted_of rfl rfl (H 17 48 (by kernel_rfl) rfl)) (v := .bool false) (w' := wv) (by simp [execOp, go_sem, e49]) (hK _ _ (Kp.rfl_ _ _) rfl)
      · have e6 := gd hf6
        exact wpOp_value_g rfl (wanted_of rfl rfl (H 19 50 (by kernel_rfl) rfl)) (v := .int .i64 3) (w' := wv) (by simp [execOp, go_sem, e6]) (hK _ _ (Kp.rfl_ _ _) rfl)
      · have e51 := gd (H 20 51 (by kernel_rfl) rfl)
        exact wpOp_value_g rfl (wanted_of rfl rfl (H 19 50 (by kernel_rfl) rfl)) (v := .bool true) (w' := wv) (by simp [execOp, go_sem, e51]) (hK _ _ (Kp.rfl_ _ _) rfl)
      · have e50 := gd (H 19 50 (by kernel_rfl) rfl)
        have e52 := gd (H 21 52 (by kernel_rfl) rfl)
        exact wpOp_value_g rfl (wanted_of rfl rfl (H 17 48 (by kernel_rfl) rfl)) (v := .bool true) (w' := wv) (by simp [execOp, go_sem, e50, e52]) (hK _ _ (Kp.rfl_ _ _) rfl)
      · have e48 := gd (H 17 48 (by kernel_rfl) rfl)
        have e53 := gd (H 22 53 (by kernel_rfl) rfl)
        exact wpOp_value rfl rfl (v := .bool true) (w' := wv) (by simp [execOp, go_sem, e48, e53]) (hK _ _ (Kp.rfl_ _ _) rfl)
      · have e54 := gd (H 23 54 (by kernel_rfl) rfl)
        exact wpOp_value rfl rfl (v := .bool true) (w' := wv) (by simp [execOp, go_sem, e54]) (hK _ _ (Kp.rfl_ _ _) rfl)
      · simp at ho
    · intro av wv hS hk H
      have h4 : av.eval (.tmp 4) = .bool true := H 24 4 rfl
      have hkv := hk06.trans hk
      go_wp2_with fail
      exact bodyPost_ret (results_tmp rfl _ _ _) (hS.1.trans rfl) ⟨congrArg Ending.returned h4, hkv⟩
theorem sparses_walk (v0 v1 : Value) (w : World) (hl : LaidSha w) (i0 : InS w 25 v0) (i1 : InS w 9 v1) : Calls Tryd.prog 5 #[v0, v1] w (Yes w) := by
  obtain ⟨z, A, n, c, hs, rfl, wz, hnc, -, hr1, hL, hz1⟩ := ins_sheet i0
  obtain ⟨x, rfl, hx⟩ := in_string Tryd.underlying9 i1.in_
  have hb := bd_i64 wz
  have h1 := reach_16 hr1
  exact sparses_in z A n c hs x w (tbk_of hl) hL (by omega) hz1 (size_leH hx) hb.1 hb.2
end Go.Proofs.YtencpplopdogmaaDoor
