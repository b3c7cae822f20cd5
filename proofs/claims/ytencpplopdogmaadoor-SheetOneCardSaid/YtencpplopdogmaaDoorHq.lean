/- SheetOne. -/
import Derived.Test.YtencpplopdogmaaDoorHo
import Derived.Test.YtencpplopdogmaaDoorHp
namespace Go.Proofs.YtencpplopdogmaaDoor
set_option maxRecDepth 100000
open Go.RowKit
set_option linter.unusedVariables false

theorem map_one {f : ByteArray → ByteArray} : ∀ (xs ys : List ByteArray), xs.map f = ys.map f → (∀ x ∈ xs, ∀ y ∈ ys, f x = f y → x = y) → xs = ys := by
  intro xs
  induction xs with
  | nil =>
    intro ys h _
    cases ys with
    | nil => rfl
    | cons y ys => simp at h
  | cons x xs ih =>
    intro ys h hi
    cases ys with
    | nil => simp at h
    | cons y ys =>
      simp only [List.map_cons, List.cons.injEq] at h
      rw [hi x (by simp) y (by simp) h.1, ih ys h.2 fun a ha b hb => hi a (List.mem_cons_of_mem _ ha) b (List.mem_cons_of_mem _ hb)]
/-- Where no two unlike chunks have one digest, unlike bytes have unlike sheets. -/
theorem one_sheet {a b : List UInt8} (hi : ∀ x ∈ chunks a (cnt a.length) ++ chunks b (cnt b.length), ∀ y ∈ chunks a (cnt a.length) ++ chunks b (cnt b.length), dgs x = dgs y → x = y) (h : mkH a = mkH b) : a = b := by
  have h1 := map_one _ _ h fun x hx y hy => hi x (List.mem_append_left _ hx) y (List.mem_append_right _ hy)
  have h2 := congrArg flat h1
  rwa [chunks_flat, chunks_flat] at h2
theorem list_beq {a b : ByteArray} {e : Bool} (h : decide (a = b) = e) : (a.toList == b.toList) = e := by
  rw [← h]
  by_cases hab : a = b
  · subst hab; simp
  · rw [toList_ne hab, decide_eq_false hab]
section
variable {w : World} {P : Program}
/-- append where its statement's guard lets it be done. -/
theorem wpl_app_g {ops : Array Oper} {rest : List Oper} {o : Oper} {a : Act} {Q : Exit → Act → World → Prop} (hw : Region.wanted o (yielded ops a.tmps) = true) (s x : Operand) (t : TypeId)
    (ho : o.op = .call { callee := .builtin .append, args := #[s, x], argTypes := #[t, t] })
    (base : Nat) (e : TypeId) (i : TypeInfo) (z : Value) (bytes : Nat) (ht : P.underlying t = some (.slice e)) (hi : P.info? e = some i) (hz : i.zero = some z)
    (hsize : i.size = 1) (hby : i.bytes = bytes) (hzs : z.cells.size = 1) (v : Value) (n : Nat) (xs : List Value) (hs : a.eval s = v) (hown : w.ownsRow base e 1 v n xs)
    (A : Option Addr) (m c : Nat) (news : List Value) (hx : a.eval x = .slice A m c) (hr : Ls w A m news) (h1 : ∀ u ∈ news, u.oneCell' = true)
    (h63 : n + m ≤ maxLen) (hbytes : (n + m) * bytes ≤ 140737488355328) (hbase : base ≤ w.heap.size)
    (h : ∀ v' w', w'.ownsRow base e 1 v' (n + m) (xs ++ news) → w.grownBy w' v.ownBlock → (v'.ownBlock = v.ownBlock ∨ v'.ownBlock = some w.heap.size) → wpList P ops Q rest (a.put o.dst v') w') :
    wpList P ops Q (o :: rest) a w :=
  wpList_step fun K hK => by
    rw [if_pos hw]
    obtain ⟨v', w', hrun, h2, h3, h4⟩ := run_app (P := P) w base t o.type e i z bytes ht hi hz hsize hby hzs v n xs hown A m c news hr h1 h63 hbytes hbase
    unfold Oper.wp execOp
    simp only [ho, resolve, invoke, builtin, Sem.run_bind, Sem.run_pure, Result.andThen_ok, List.map_toArray, List.map_cons, List.map_nil, hs, hx, hrun]
    exact hK _ _ (h v' w' h2 h3 h4)
end
/-- Chunks put behind chunks. -/
theorem grown_below {w w' : World} {base n : Nat} {e : TypeId} {v : Value} {xs : List Value} (hg : w.grownBy w' v.ownBlock) (ho : w.ownsRow base e 1 v n xs) (hb : base ≤ w.heap.size) : Below base w w' := (Below.refl _ _).grown hg hb fun k hk => (own_block_lt ho hk).1
set_option maxRecDepth 100000 in
set_option maxHeartbeats 16000000 in
theorem sone_in (a b : ByteArray) (w : World) (ht : Tbk w) (hla : a.size ≤ 512) (hlb : b.size ≤ 512) :
    Calls Tryd.prog 8 #[.string a, .string b] w (Yes w) := by
  have lla : a.data.toList.length = a.size := by simp
  have llb : b.data.toList.length = b.size := by simp
  obtain ⟨ha, hha⟩ : ∃ h, mkH a.data.toList = h := ⟨_, rfl⟩
  obtain ⟨hb, hhb⟩ : ∃ h, mkH b.data.toList = h := ⟨_, rfl⟩
  obtain ⟨na, hna⟩ : ∃ n, cnt a.size = n := ⟨_, rfl⟩
  obtain ⟨nb, hnb⟩ : ∃ n, cnt b.size = n := ⟨_, rfl⟩
  have na8 : na ≤ 8 := by rw [← hna]; unfold cnt; omega
  have nb8 : nb ≤ 8 := by rw [← hnb]; unfold cnt; omega
  obtain ⟨ca, hca⟩ : ∃ c, chunks a.data.toList na = c := ⟨_, rfl⟩
  obtain ⟨cb, hcb⟩ : ∃ c, chunks b.data.toList nb = c := ⟨_, rfl⟩
  have hal : ha.length = na := by rw [← hha, mkH_len, lla, hna]
  have hbl : hb.length = nb := by rw [← hhb, mkH_len, llb, hnb]
  have hra : Rt a.size ha := by rw [← hha, ← lla]; exact mkH_right (by omega)
  have hrb : Rt b.size hb := by rw [← hhb, ← llb]; exact mkH_right (by omega)
  have hta : (texts ha).length ≤ 1000000000 := by have := texts_le ha hra.2.2; have := hra.len; omega
  have htb : (texts hb).length ≤ 1000000000 := by have := texts_le hb hrb.2.2; have := hrb.len; omega
  have hcz : ∀ x ∈ ca ++ cb, x.size ≤ 1000000000 := by
    intro x hx
    rw [← hca, ← hcb] at hx
    rcases List.mem_append.1 hx with hx | hx
    · have := chunk_le x hx; omega
    · have := chunk_le x hx; omega
  obtain ⟨pa, hpa⟩ : ∃ p, bs (pk a.size ha) = p := ⟨_, rfl⟩
  obtain ⟨pb, hpb⟩ : ∃ p, bs (pk b.size hb) = p := ⟨_, rfl⟩
  have hone : (∀ x ∈ ca ++ cb, ∀ y ∈ ca ++ cb, dgs x = dgs y → x = y) → ha = hb → a = b := by
    intro hi he
    refine bs_eq (one_sheet ?_ (by rw [hha, hhb, he]))
    rw [lla, llb, hna, hnb, hca, hcb]
    exact hi
  have hback : a = b → ha = hb := by rintro rfl; rw [← hha, ← hhb]
  have hpback : pa = pb → ha = hb := by
    intro h
    have h1 : Prs pa.data.toList a.size ha := ⟨hra, by rw [← hpa]; rfl⟩
    have h2 : Prs pa.data.toList b.size hb := ⟨hrb, by rw [h, ← hpb]; rfl⟩
    exact (h1.one h2).2
  have hpeq : a = b → pa = pb := by intro h; rw [← hpa, ← hpb, hback h, h]
  obtain ⟨eq, heq⟩ : ∃ e, decide (a = b) = e := ⟨_, rfl⟩
  have HA := Lib.hid hha
  have HB := Lib.hid hhb
  have HNA := Lib.hid hna
  have HNB := Lib.hid hnb
  have HCA := Lib.hid hca
  have HCB := Lib.hid hcb
  have HAL := Lib.hid hal
  have HBL := Lib.hid hbl
  have HTA := Lib.hid hta
  have HTB := Lib.hid htb
  have HCZ := Lib.hid hcz
  have HPA := Lib.hid hpa
  have HPB := Lib.hid hpb
  have HONE := Lib.hid hone
  have HBACK := Lib.hid hback
  have HPBACK := Lib.hid hpback
  have HPEQ := Lib.hid hpeq
  have HEQ := Lib.hid heq
  have hroots := ht.1
  have hda : decide ((512 : Int) < (a.size : Int)) = false := decide_eq_false (by omega)
  have hdb : decide ((512 : Int) < (b.size : Int)) = false := decide_eq_false (by omega)
  clear lla llb hha hhb hna hnb hca hcb hal hbl hra hrb hta htb hcz hpa hpb hone hback hpback hpeq heq
  go_enter Tryd.func8, Tryd.ntmps8
  go_wp2_with fail
  refine (hsawake _ ht).mono ?_
  rintro e w1 ⟨rfl, hk1⟩
  go_wp2_with fail
  refine (cut_to a na ca _ HNA.out HCA.out (by omega)).mono ?_
  rintro e w2 ⟨v2, rfl, o2, k2⟩
  go_wp2_with fail
  refine (cut_to b nb cb _ HNB.out HCB.out (by omega)).mono ?_
  rintro e w3 ⟨v3, rfl, o3, k3⟩
  obtain ⟨B, d, rfl, L3, -, -⟩ := cks_of o3
  have o23 := own_kp o2 k3 (by simp)
  have hs3 : w1.heap.size ≤ w3.heap.size := Nat.le_trans k2.size k3.size
  obtain ⟨i0, hi0, hz0, h10, h20⟩ := info_parts info_string
  have hb13 : Below w1.heap.size w1 w3 := (k2.trans k3).below (Nat.le_refl _) (by simp)
  clear o2 o3 k2 k3
  go_wp2_with (at_builtin; go_loud (refine wpl_app_g (by first | rfl | (simp only [hda, hdb]; rfl) | (simp [Region.wanted, yielded, hda, hdb])) _ _ 23 rfl w1.heap.size 9 i0 _ 16 Tryd.underlying23 hi0 hz0 h10 h20 rfl v2 na _ rfl o23 B nb d _ rfl L3 oneCell_map_string (by unfold maxLen; omega) (by omega) hs3 ?_); intro v4 w4 o4 g4 _; have hb34 := grown_below g4 o23 hs3)
  rw [← List.map_append] at o4
  have hk04 : Kp [] w w4 := hk1.trans (Kp.of_below (hb13.trans hb34))
  obtain ⟨D, dc, rfl, L4, -, -, -⟩ := own_open o4
  clear o4 g4 o23 hb34 hb13 L3 hk1 hs3
  refine (clash_any D (na + nb) dc (ca ++ cb) _ L4 (by omega) HCZ.out).mono ?_
  rintro e w5 ⟨bc, rfl, hk5, hinj⟩
  have hk05 := hk04.trans hk5
  have ht5 := ht.kp hk05 (by simp)
  clear hk04 hk5 L4
  cases bc
  rotate_left
  · clear hinj
    go_wp2_with fail
    refine (hsawake _ ht5).mono ?_
    rintro e w6 ⟨rfl, hk6⟩
    go_wp2_with fail
    go_ret
    exact ⟨rfl, hk05.trans hk6⟩
  have hinj := hinj rfl
  have hiff : ha = hb ↔ a = b := ⟨HONE.out hinj, HBACK.out⟩
  have HSAME : Hid (decide ((a.size : Int) = b.size ∧ ha = hb) = eq) := Lib.hid (by
    rw [← HEQ.out]
    refine decide_eq_decide.2 ⟨fun h => hiff.1 h.2, fun h => ⟨by rw [h], hiff.2 h⟩⟩)
  have hab := list_beq HEQ.out
  have hpab := list_beq (a := pa) (b := pb) (e := eq) (by
    rw [← HEQ.out]
    exact decide_eq_decide.2 ⟨fun h => hiff.1 (HPBACK.out h), HPEQ.out⟩)
  have HAB := Lib.hid hab
  have HPAB := Lib.hid hpab
  clear hinj hiff hab hpab
  go_wp2_with fail
  refine (make_to a a.size ha _ ht5 rfl HA.out hla).mono ?_
  intro e w6 h6
  obtain ⟨A5, c5, rfl, L6, hk6⟩ := h6.open_ HAL.out
  obtain ⟨g5, hg5⟩ : ∃ g, w6.heap.size = g := ⟨_, rfl⟩
  have a7 : At (w6.alloc (.cells #[.int .i64 a.size, .slice A5 na c5] 25)) g5 25 #[.int .i64 a.size, .slice A5 na c5] := At.new_ hg5
  have hk07 := (hk05.trans hk6).alloc (.cells #[.int .i64 a.size, .slice A5 na c5] 25)
  have L7 := L6.kp ((Kp.rfl_ [] w6).alloc (.cells #[.int .i64 a.size, .slice A5 na c5] 25)) (by simp)
  go_wp2_with fail
  generalize w6.alloc (.cells #[.int .i64 a.size, .slice A5 na c5] 25) = w7 at *
  clear h6 hk6 L6 hk05 ht5
  refine (make_to b b.size hb _ (ht.kp hk07 (by simp)) rfl HB.out hlb).mono ?_
  intro e w8 h8
  obtain ⟨A7, c7, rfl, M7, hk8⟩ := h8.open_ HBL.out
  obtain ⟨g7, hg7⟩ : ∃ g, w8.heap.size = g := ⟨_, rfl⟩
  have k89 : Kp [] w8 (w8.alloc (.cells #[.int .i64 b.size, .slice A7 nb c7] 25)) := (Kp.rfl_ [] w8).alloc _
  have b9 : At (w8.alloc (.cells #[.int .i64 b.size, .slice A7 nb c7] 25)) g7 25 #[.int .i64 b.size, .slice A7 nb c7] := At.new_ hg7
  have a9 := a7.kp (hk8.trans k89) (by simp)
  have L8 := L7.kp (hk8.trans k89) (by simp)
  have M8 := M7.kp k89 (by simp)
  have hk06 := hk07.trans (hk8.trans k89)
  go_wp2_with fail
  generalize w8.alloc (.cells #[.int .i64 b.size, .slice A7 nb c7] 25) = w9 at *
  clear h8 hk8 k89 a7 L7 M7 hk07
  have p0 : w9.cell? ⟨g5, 0, none⟩ = some (.int .i64 a.size) := a9.cell 0
  have p1 : w9.cell? ⟨g5, 1, none⟩ = some (.slice A5 na c5) := a9.cell 1
  have o0 : w9.cell? ⟨g7, 0, none⟩ = some (.int .i64 b.size) := b9.cell 0
  have o1 : w9.cell? ⟨g7, 1, none⟩ = some (.slice A7 nb c7) := b9.cell 1
  refine region_inv2' (fun q v w' => match q with
    | 0 => v = .string a
    | 1 => v = .string b
    | 2 => v = .bool eq
    | 3 => v = .agg #[.int .i64 a.size, .slice A5 na c5]
    | 4 => v = .agg #[.int .i64 b.size, .slice A7 nb c7]
    | 5 => v = .bool eq
    | 6 => v = .bool true
    | 7 => v = .bool true
    | 8 => v = .agg #[.int .i64 a.size, .slice A5 na c5]
    | 9 => v = .string pa
    | 10 => v = .agg #[.int .i64 b.size, .slice A7 nb c7]
    | 11 => v = .string pb
    | 12 => v = .bool eq
    | 13 => v = .string a
    | 14 => v = .string b
    | 15 => v = .bool eq
    | 16 => v = .bool true
    | 17 => v = .bool true
    | _ => v = .bool true) (by kernel_rfl) _ rfl (by kernel_rfl) (by kernel_rfl) (by kernel_rfl) ?_ ?_ ?_
  · intro q v w1 w2 hF hK
    rcases q with _|_|_|_|_|_|_|_|_|_|_|_|_|_|_|_|_|_|q
    all_goals exact hF
  · intro q o ho av wv K hS hk H hK
    have hf0 : av.eval (.tmp 0) = .string a := (hS.2.2 0 (nofill (by kernel_rfl))).trans rfl
    have hf1 : av.eval (.tmp 1) = .string b := (hS.2.2 1 (nofill (by kernel_rfl))).trans rfl
    have hf5 : av.eval (.tmp 5) = .pointer (some ⟨g5, 0, none⟩) := (hS.2.2 5 (nofill (by kernel_rfl))).trans rfl
    have hf7 : av.eval (.tmp 7) = .pointer (some ⟨g7, 0, none⟩) := (hS.2.2 7 (nofill (by kernel_rfl))).trans rfl
    have t0 := cell_kp p0 hk (by simp)
    have t1 := cell_kp p1 hk (by simp)
    have u0 := cell_kp o0 hk (by simp)
    have u1 := cell_kp o1 hk (by simp)
    have hab := HAB.out
    have hpab := HPAB.out
    rcases q with _|_|_|_|_|_|_|_|_|_|_|_|_|_|_|_|_|_|_|q
    all_goals try (obtain rfl := Option.some.inj ho)
    · have e0 := gd hf0
      exact wpOp_value rfl rfl (v := .string a) (w' := wv) (by simp [execOp, go_sem, e0]) (hK _ _ (Kp.rfl_ _ _) rfl)
    · have e1 := gd hf1
      exact wpOp_value rfl rfl (v := .string b) (w' := wv) (by simp [execOp, go_sem, e1]) (hK _ _ (Kp.rfl_ _ _) rfl)
    · have e40 := gd (H 0 40 (by kernel_rfl) rfl)
      have e41 := gd (H 1 41 (by kernel_rfl) rfl)
      exact wpOp_value rfl rfl (v := .bool eq) (w' := wv) (by simp [execOp, go_sem, e40, e41, hab]) (hK _ _ (Kp.rfl_ _ _) rfl)
    · have e5 := gd hf5
      exact wpOp_value rfl rfl (v := .agg #[.int .i64 a.size, .slice A5 na c5]) (w' := wv) (by simp [execOp, go_sem, e5, t0, t1]) (hK _ _ (Kp.rfl_ _ _) rfl)
    · have e7 := gd hf7
      exact wpOp_value rfl rfl (v := .agg #[.int .i64 b.size, .slice A7 nb c7]) (w' := wv) (by simp [execOp, go_sem, e7, u0, u1]) (hK _ _ (Kp.rfl_ _ _) rfl)
    · have e43 := gd (H 3 43 (by kernel_rfl) rfl)
      have e44 := gd (H 4 44 (by kernel_rfl) rfl)
      refine wpOp_call rfl rfl (f := 12) (args := #[.agg #[.int .i64 a.size, .slice A5 na c5], .agg #[.int .i64 b.size, .slice A7 nb c7]]) (w1 := wv) (by simp [execOp, go_sem, e43, e44]) ?_
      refine (ssame_to a.size b.size A5 A7 na c5 nb c7 ha hb eq wv HSAME.out (L8.kp hk (by simp)) (M8.kp hk (by simp)) (by omega) (by omega)).mono ?_
      rintro e w8 ⟨rfl, k8⟩
      exact ⟨_, rfl, hK _ _ k8 rfl⟩
    · have e42 := gd (H 2 42 (by kernel_rfl) rfl)
      have e45 := gd (H 5 45 (by kernel_rfl) rfl)
      exact wpOp_value rfl rfl (v := .bool true) (w' := wv) (by simp [execOp, go_sem, e42, e45]) (hK _ _ (Kp.rfl_ _ _) rfl)
    · have e46 := gd (H 6 46 (by kernel_rfl) rfl)
      exact wpOp_value rfl rfl (v := .bool true) (w' := wv) (by simp [execOp, go_sem, e46]) (hK _ _ (Kp.rfl_ _ _) rfl)
    · have e5 := gd hf5
      exact wpOp_value_g rfl (wanted_of rfl rfl (H 7 47 (by kernel_rfl) rfl)) (v := .agg #[.int .i64 a.size, .slice A5 na c5]) (w' := wv) (by simp [execOp, go_sem, e5, t0, t1]) (hK _ _ (Kp.rfl_ _ _) rfl)
    · have e48 := gd (H 8 48 (by kernel_rfl) rfl)
      refine wpOp_call_g rfl (wanted_of rfl rfl (H 7 47 (by kernel_rfl) rfl)) (f := 21) (args := #[.agg #[.int .i64 a.size, .slice A5 na c5]]) (w1 := wv) (by simp [execOp, go_sem, e48]) ?_
      refine (spack_to a.size A5 na c5 ha pa wv HPA.out (L8.kp hk (by simp)) (by omega) HTA.out (by omega) (by omega)).mono ?_
      rintro e w8 ⟨rfl, k8⟩
      exact ⟨_, rfl, hK _ _ k8 rfl⟩
    · have e7 := gd hf7
      exact wpOp_value_g rfl (wanted_of rfl rfl (H 7 47 (by kernel_rfl) rfl)) (v := .agg #[.int .i64 b.size, .slice A7 nb c7]) (w' := wv) (by simp [execOp, go_sem, e7, u0, u1]) (hK _ _ (Kp.rfl_ _ _) rfl)
    · have e50 := gd (H 10 50 (by kernel_rfl) rfl)
      refine wpOp_call_g rfl (wanted_of rfl rfl (H 7 47 (by kernel_rfl) rfl)) (f := 21) (args := #[.agg #[.int .i64 b.size, .slice A7 nb c7]]) (w1 := wv) (by simp [execOp, go_sem, e50]) ?_
      refine (spack_to b.size A7 nb c7 hb pb wv HPB.out (M8.kp hk (by simp)) (by omega) HTB.out (by omega) (by omega)).mono ?_
      rintro e w8 ⟨rfl, k8⟩
      exact ⟨_, rfl, hK _ _ k8 rfl⟩
    · have e49 := gd (H 9 49 (by kernel_rfl) rfl)
      have e51 := gd (H 11 51 (by kernel_rfl) rfl)
      exact wpOp_value_g rfl (wanted_of rfl rfl (H 7 47 (by kernel_rfl) rfl)) (v := .bool eq) (w' := wv) (by simp [execOp, go_sem, e49, e51, hpab]) (hK _ _ (Kp.rfl_ _ _) rfl)
    · have e0 := gd hf0
      exact wpOp_value_g rfl (wanted_of rfl rfl (H 7 47 (by kernel_rfl) rfl)) (v := .string a) (w' := wv) (by simp [execOp, go_sem, e0]) (hK _ _ (Kp.rfl_ _ _) rfl)
    · have e1 := gd hf1
      exact wpOp_value_g rfl (wanted_of rfl rfl (H 7 47 (by kernel_rfl) rfl)) (v := .string b) (w' := wv) (by simp [execOp, go_sem, e1]) (hK _ _ (Kp.rfl_ _ _) rfl)
    · have e53 := gd (H 13 53 (by kernel_rfl) rfl)
      have e54 := gd (H 14 54 (by kernel_rfl) rfl)
      exact wpOp_value_g rfl (wanted_of rfl rfl (H 7 47 (by kernel_rfl) rfl)) (v := .bool eq) (w' := wv) (by simp [execOp, go_sem, e53, e54, hab]) (hK _ _ (Kp.rfl_ _ _) rfl)
    · have e52 := gd (H 12 52 (by kernel_rfl) rfl)
      have e55 := gd (H 15 55 (by kernel_rfl) rfl)
      exact wpOp_value_g rfl (wanted_of rfl rfl (H 7 47 (by kernel_rfl) rfl)) (v := .bool true) (w' := wv) (by simp [execOp, go_sem, e52, e55]) (hK _ _ (Kp.rfl_ _ _) rfl)
    · have e47 := gd (H 7 47 (by kernel_rfl) rfl)
      have e56 := gd (H 16 56 (by kernel_rfl) rfl)
      exact wpOp_value rfl rfl (v := .bool true) (w' := wv) (by simp [execOp, go_sem, e47, e56]) (hK _ _ (Kp.rfl_ _ _) rfl)
    · have e57 := gd (H 17 57 (by kernel_rfl) rfl)
      exact wpOp_value rfl rfl (v := .bool true) (w' := wv) (by simp [execOp, go_sem, e57]) (hK _ _ (Kp.rfl_ _ _) rfl)
    · simp at ho
  · intro av wv hS hk H
    have h4 : av.eval (.tmp 4) = .bool true := H 18 4 rfl
    have hkv := hk06.trans hk
    go_wp2_with fail
    exact bodyPost_ret (results_tmp rfl _ _ _) (hS.1.trans rfl) ⟨congrArg Ending.returned h4, hkv⟩
set_option maxHeartbeats 2000000 in
theorem sone_big (a b : ByteArray) (w : World) (ht : Tbk w) (h : 512 < a.size ∨ (a.size ≤ 512 ∧ 512 < b.size)) (h1 : a.size ≤ 9223372036854775807) (h2 : b.size ≤ 9223372036854775807) :
    Calls Tryd.prog 8 #[.string a, .string b] w (Yes w) := by
  rcases h with h | ⟨h, h'⟩
  all_goals
    go_enter Tryd.func8, Tryd.ntmps8
    go_wp2_with fail
    refine (hsawake _ ht).mono ?_
    rintro e w1 ⟨rfl, hk1⟩
    go_wp2_with fail
    refine (hsawake _ (ht.kp hk1 (by simp))).mono ?_
    rintro e w2 ⟨rfl, hk2⟩
    go_wp2_with fail
    go_ret
    exact ⟨rfl, hk1.trans hk2⟩
theorem shone_walk (v0 v1 : Value) (w : World) (hl : LaidSha w) (i0 : In w 9 v0) (i1 : In w 9 v1) : Calls Tryd.prog 8 #[v0, v1] w (Yes w) := by
  obtain ⟨a, rfl, ha⟩ := in_string Tryd.underlying9 i0
  obtain ⟨b, rfl, hb⟩ := in_string Tryd.underlying9 i1
  have ht := tbk_of hl
  by_cases h : a.size ≤ 512 ∧ b.size ≤ 512
  · exact sone_in a b w ht h.1 h.2
  · exact sone_big a b w ht (by omega) (size_leH ha) (size_leH hb)
end Go.Proofs.YtencpplopdogmaaDoor
