/- SheetOne. · SheetElse. -/
import Derived.Test.YtencpplopdogmaaDoorHo
import Derived.Test.YtencpplopdogmaaDoorHp
import Derived.Test.YtencpplopdogmaaDoorRi
import Derived.Test.YtencpplopdogmaaDoorBuf
import Derived.Laws.BitsAllLaws
namespace Go.Proofs.YtencpplopdogmaaDoor
set_option maxRecDepth 100000
open Go.RowKit
set_option linter.unusedVariables false

theorem map_one {f : ByteArray → ByteArray} : ∀ (xs ys : List ByteArray), xs.map f = ys.map f → (∀ x ∈ xs, ∀ y ∈ ys, f x = f y → x = y) → xs = ys := by
  intro xs
  induction xs with
  | nil =>
    intro ys h _
    cases ys with
    | nil => rfl
    | cons y ys => simp at h
  | cons x xs ih =>
    intro ys h hi
    cases ys with
    | nil => simp at h
    | cons y ys =>
      simp only [List.map_cons, List.cons.injEq] at h
      rw [hi x (by simp) y (by simp) h.1, ih ys h.2 fun a ha b hb => hi a (List.mem_cons_of_mem _ ha) b (List.mem_cons_of_mem _ hb)]
/-- Where no two unlike chunks have one digest, unlike bytes have unlike sheets. -/
theorem one_sheet {a b : List UInt8} (hi : ∀ x ∈ chunks a (cnt a.length) ++ chunks b (cnt b.length), ∀ y ∈ chunks a (cnt a.length) ++ chunks b (cnt b.length), dgs x = dgs y → x = y) (h : mkH a = mkH b) : a = b := by
  have h1 := map_one _ _ h fun x hx y hy => hi x (List.mem_append_left _ hx) y (List.mem_append_right _ hy)
  have h2 := congrArg flat h1
  rwa [chunks_flat, chunks_flat] at h2
theorem list_beq {a b : ByteArray} {e : Bool} (h : decide (a = b) = e) : (a.toList == b.toList) = e := by
  rw [← h]
  by_cases hab : a = b
  · subst hab; simp
  · rw [toList_ne hab, decide_eq_false hab]
section
variable {w : World} {P : Program}
/-- append where its statement's guard lets it be done. -/
theorem wpl_app_g {ops : Array Oper} {rest : List Oper} {o : Oper} {a : Act} {Q : Exit → Act → World → Prop} (hw : Region.wanted o (yielded ops a.tmps) = true) (s x : Operand) (t : TypeId)
    (ho : o.op = .call { callee := .builtin .append, args := #[s, x], argTypes := #[t, t] })
    (base : Nat) (e : TypeId) (i : TypeInfo) (z : Value) (bytes : Nat) (ht : P.underlying t = some (.slice e)) (hi : P.info? e = some i) (hz : i.zero = some z)
    (hsize : i.size = 1) (hby : i.bytes = bytes) (hzs : z.cells.size = 1) (v : Value) (n : Nat) (xs : List Value) (hs : a.eval s = v) (hown : w.ownsRow base e 1 v n xs)
    (A : Option Addr) (m c : Nat) (news : List Value) (hx : a.eval x = .slice A m c) (hr : Ls w A m news) (h1 : ∀ u ∈ news, u.oneCell' = true)
    (h63 : n + m ≤ maxLen) (hbytes : (n + m) * bytes ≤ 140737488355328) (hbase : base ≤ w.heap.size)
    (h : ∀ v' w', w'.ownsRow base e 1 v' (n + m) (xs ++ news) → w.grownBy w' v.ownBlock → (v'.ownBlock = v.ownBlock ∨ v'.ownBlock = some w.heap.size) → wpList P ops Q rest (a.put o.dst v') w') :
    wpList P ops Q (o :: rest) a w :=
  wpList_step fun K hK => by
    rw [if_pos hw]
    obtain ⟨v', w', hrun, h2, h3, h4⟩ := run_app (P := P) w base t o.type e i z bytes ht hi hz hsize hby hzs v n xs hown A m c news hr h1 h63 hbytes hbase
    unfold Oper.wp execOp
    simp only [ho, resolve, invoke, builtin, Sem.run_bind, Sem.run_pure, Result.andThen_ok, List.map_toArray, List.map_cons, List.map_nil, hs, hx, hrun]
    exact hK _ _ (h v' w' h2 h3 h4)
end
/-- Chunks put behind chunks. -/
theorem grown_below {w w' : World} {base n : Nat} {e : TypeId} {v : Value} {xs : List Value} (hg : w.grownBy w' v.ownBlock) (ho : w.ownsRow base e 1 v n xs) (hb : base ≤ w.heap.size) : Below base w w' := (Below.refl _ _).grown hg hb fun k hk => (own_block_lt ho hk).1
set_option maxRecDepth 100000 in
set_option maxHeartbeats 16000000 in
theorem sone_in (a b : ByteArray) (w : World) (ht : Tbk w) (hla : a.size ≤ 512) (hlb : b.size ≤ 512) :
    Calls Tryd.prog 8 #[.string a, .string b] w (Yes w) := by
  have lla : a.data.toList.length = a.size := by simp
  have llb : b.data.toList.length = b.size := by simp
  obtain ⟨ha, hha⟩ : ∃ h, mkH a.data.toList = h := ⟨_, rfl⟩
  obtain ⟨hb, hhb⟩ : ∃ h, mkH b.data.toList = h := ⟨_, rfl⟩
  obtain ⟨na, hna⟩ : ∃ n, cnt a.size = n := ⟨_, rfl⟩
  obtain ⟨nb, hnb⟩ : ∃ n, cnt b.size = n := ⟨_, rfl⟩
  have na8 : na ≤ 8 := by rw [← hna]; unfold cnt; omega
  have nb8 : nb ≤ 8 := by rw [← hnb]; unfold cnt; omega
  obtain ⟨ca, hca⟩ : ∃ c, chunks a.data.toList na = c := ⟨_, rfl⟩
  obtain ⟨cb, hcb⟩ : ∃ c, chunks b.data.toList nb = c := ⟨_, rfl⟩
  have hal : ha.length = na := by rw [← hha, mkH_len, lla, hna]
  have hbl : hb.length = nb := by rw [← hhb, mkH_len, llb, hnb]
  have hra : Rt a.size ha := by rw [← hha, ← lla]; exact mkH_right (by omega)
  have hrb : Rt b.size hb := by rw [← hhb, ← llb]; exact mkH_right (by omega)
  have hta : (texts ha).length ≤ 1000000000 := by have := texts_le ha hra.2.2; have := hra.len; omega
  have htb : (texts hb).length ≤ 1000000000 := by have := texts_le hb hrb.2.2; have := hrb.len; omega
  have hcz : ∀ x ∈ ca ++ cb, x.size ≤ 1000000000 := by
    intro x hx
    rw [← hca, ← hcb] at hx
    rcases List.mem_append.1 hx with hx | hx
    · have := chunk_le x hx; omega
    · have := chunk_le x hx; omega
  obtain ⟨pa, hpa⟩ : ∃ p, bs (pk a.size ha) = p := ⟨_, rfl⟩
  obtain ⟨pb, hpb⟩ : ∃ p, bs (pk b.size hb) = p := ⟨_, rfl⟩
  have hone : (∀ x ∈ ca ++ cb, ∀ y ∈ ca ++ cb, dgs x = dgs y → x = y) → ha = hb → a = b := by
    intro hi he
    refine bs_eq (one_sheet ?_ (by rw [hha, hhb, he]))
    rw [lla, llb, hna, hnb, hca, hcb]
    exact hi
  have hback : a = b → ha = hb := by rintro rfl; rw [← hha, ← hhb]
  have hpback : pa = pb → ha = hb := by
    intro h
    have h1 : Prs pa.data.toList a.size ha := ⟨hra, by rw [← hpa]; rfl⟩
    have h2 : Prs pa.data.toList b.size hb := ⟨hrb, by rw [h, ← hpb]; rfl⟩
    exact (h1.one h2).2
  have hpeq : a = b → pa = pb := by intro h; rw [← hpa, ← hpb, hback h, h]
  obtain ⟨eq, heq⟩ : ∃ e, decide (a = b) = e := ⟨_, rfl⟩
  have HA := Lib.hid hha
  have HB := Lib.hid hhb
  have HNA := Lib.hid hna
  have HNB := Lib.hid hnb
  have HCA := Lib.hid hca
  have HCB := Lib.hid hcb
  have HAL := Lib.hid hal
  have HBL := Lib.hid hbl
  have HTA := Lib.hid hta
  have HTB := Lib.hid htb
  have HCZ := Lib.hid hcz
  have HPA := Lib.hid hpa
  have HPB := Lib.hid hpb
  have HONE := Lib.hid hone
  have HBACK := Lib.hid hback
  have HPBACK := Lib.hid hpback
  have HPEQ := Lib.hid hpeq
  have HEQ := Lib.hid heq
  have hroots := ht.1
  have hda : decide ((512 : Int) < (a.size : Int)) = false := decide_eq_false (by omega)
  have hdb : decide ((512 : Int) < (b.size : Int)) = false := decide_eq_false (by omega)
  clear lla llb hha hhb hna hnb hca hcb hal hbl hra hrb hta htb hcz hpa hpb hone hback hpback hpeq heq
  go_enter Tryd.func8, Tryd.ntmps8
  go_wp2_with fail
  refine (hsawake _ ht).mono ?_
  rintro e w1 ⟨rfl, hk1⟩
  go_wp2_with fail
  refine (cut_to a na ca _ HNA.out HCA.out (by omega)).mono ?_
  rintro e w2 ⟨v2, rfl, o2, k2⟩
  go_wp2_with fail
  refine (cut_to b nb cb _ HNB.out HCB.out (by omega)).mono ?_
  rintro e w3 ⟨v3, rfl, o3, k3⟩
  obtain ⟨B, d, rfl, L3, -, -⟩ := cks_of o3
  have o23 := own_kp o2 k3 (by simp)
  have hs3 : w1.heap.size ≤ w3.heap.size := Nat.le_trans k2.size k3.size
  obtain ⟨i0, hi0, hz0, h10, h20⟩ := info_parts info_string
  have hb13 : Below w1.heap.size w1 w3 := (k2.trans k3).below (Nat.le_refl _) (by simp)
  clear o2 o3 k2 k3
  go_wp2_with (at_builtin; go_loud (refine wpl_app_g (by first | rfl | (simp only [hda, hdb]; rfl) | (simp [Region.wanted, yielded, hda, hdb])) _ _ 23 rfl w1.heap.size 9 i0 _ 16 Tryd.underlying23 hi0 hz0 h10 h20 rfl v2 na _ rfl o23 B nb d _ rfl L3 oneCell_map_string (by unfold maxLen; omega) (by omega) hs3 ?_); intro v4 w4 o4 g4 _; have hb34 := grown_below g4 o23 hs3)
  rw [← List.map_append] at o4
  have hk04 : Kp [] w w4 := hk1.trans (Kp.of_below (hb13.trans hb34))
  obtain ⟨D, dc, rfl, L4, -, -, -⟩ := own_open o4
  clear o4 g4 o23 hb34 hb13 L3 hk1 hs3
  refine (clash_any D (na + nb) dc (ca ++ cb) _ L4 (by omega) HCZ.out).mono ?_
  rintro e w5 ⟨bc, rfl, hk5, hinj⟩
  have hk05 := hk04.trans hk5
  have ht5 := ht.kp hk05 (by simp)
  clear hk04 hk5 L4
  cases bc
  rotate_left
  · clear hinj
    go_wp2_with fail
    refine (hsawake _ ht5).mono ?_
    rintro e w6 ⟨rfl, hk6⟩
    go_wp2_with fail
    go_ret
    exact ⟨rfl, hk05.trans hk6⟩
  have hinj := hinj rfl
  have hiff : ha = hb ↔ a = b := ⟨HONE.out hinj, HBACK.out⟩
  have HSAME : Hid (decide ((a.size : Int) = b.size ∧ ha = hb) = eq) := Lib.hid (by
    rw [← HEQ.out]
    refine decide_eq_decide.2 ⟨fun h => hiff.1 h.2, fun h => ⟨by rw [h], hiff.2 h⟩⟩)
  have hab := list_beq HEQ.out
  have hpab := list_beq (a := pa) (b := pb) (e := eq) (by
    rw [← HEQ.out]
    exact decide_eq_decide.2 ⟨fun h => hiff.1 (HPBACK.out h), HPEQ.out⟩)
  have HAB := Lib.hid hab
  have HPAB := Lib.hid hpab
  clear hinj hiff hab hpab
  go_wp2_with fail
  refine (make_to a a.size ha _ ht5 rfl HA.out hla).mono ?_
  intro e w6 h6
  obtain ⟨A5, c5, rfl, L6, hk6⟩ := h6.open_ HAL.out
  obtain ⟨g5, hg5⟩ : ∃ g, w6.heap.size = g := ⟨_, rfl⟩
  have a7 : At (w6.alloc (.cells #[.int .i64 a.size, .slice A5 na c5] 25)) g5 25 #[.int .i64 a.size, .slice A5 na c5] := At.new_ hg5
  have hk07 := (hk05.trans hk6).alloc (.cells #[.int .i64 a.size, .slice A5 na c5] 25)
  have L7 := L6.kp ((Kp.rfl_ [] w6).alloc (.cells #[.int .i64 a.size, .slice A5 na c5] 25)) (by simp)
  go_wp2_with fail
  generalize w6.alloc (.cells #[.int .i64 a.size, .slice A5 na c5] 25) = w7 at *
  clear h6 hk6 L6 hk05 ht5
  refine (make_to b b.size hb _ (ht.kp hk07 (by simp)) rfl HB.out hlb).mono ?_
  intro e w8 h8
  obtain ⟨A7, c7, rfl, M7, hk8⟩ := h8.open_ HBL.out
  obtain ⟨g7, hg7⟩ : ∃ g, w8.heap.size = g := ⟨_, rfl⟩
  have k89 : Kp [] w8 (w8.alloc (.cells #[.int .i64 b.size, .slice A7 nb c7] 25)) := (Kp.rfl_ [] w8).alloc _
  have b9 : At (w8.alloc (.cells #[.int .i64 b.size, .slice A7 nb c7] 25)) g7 25 #[.int .i64 b.size, .slice A7 nb c7] := At.new_ hg7
  have a9 := a7.kp (hk8.trans k89) (by simp)
  have L8 := L7.kp (hk8.trans k89) (by simp)
  have M8 := M7.kp k89 (by simp)
  have hk06 := hk07.trans (hk8.trans k89)
  go_wp2_with fail
  generalize w8.alloc (.cells #[.int .i64 b.size, .slice A7 nb c7] 25) = w9 at *
  clear h8 hk8 k89 a7 L7 M7 hk07
  have p0 : w9.cell? ⟨g5, 0, none⟩ = some (.int .i64 a.size) := a9.cell 0
  have p1 : w9.cell? ⟨g5, 1, none⟩ = some (.slice A5 na c5) := a9.cell 1
  have o0 : w9.cell? ⟨g7, 0, none⟩ = some (.int .i64 b.size) := b9.cell 0
  have o1 : w9.cell? ⟨g7, 1, none⟩ = some (.slice A7 nb c7) := b9.cell 1
  refine region_inv2' (fun q v w' => match q with
    | 0 => v = .string a
    | 1 => v = .string b
    | 2 => v = .bool eq
    | 3 => v = .agg #[.int .i64 a.size, .slice A5 na c5]
    | 4 => v = .agg #[.int .i64 b.size, .slice A7 nb c7]
    | 5 => v = .bool eq
    | 6 => v = .bool true
    | 7 => v = .bool true
    | 8 => v = .agg #[.int .i64 a.size, .slice A5 na c5]
    | 9 => v = .string pa
    | 10 => v = .agg #[.int .i64 b.size, .slice A7 nb c7]
    | 11 => v = .string pb
    | 12 => v = .bool eq
    | 13 => v = .string a
    | 14 => v = .string b
    | 15 => v = .bool eq
    | 16 => v = .bool true
    | 17 => v = .bool true
    | _ => v = .bool true) (by kernel_rfl) _ rfl (by kernel_rfl) (by kernel_rfl) (by kernel_rfl) ?_ ?_ ?_
  · intro q v w1 w2 hF hK
    rcases q with _|_|_|_|_|_|_|_|_|_|_|_|_|_|_|_|_|_|q
    all_goals exact hF
  · intro q o ho av wv K hS hk H hK
    have hf0 : av.eval (.tmp 0) = .string a := (hS.2.2 0 (nofill (by kernel_rfl))).trans rfl
    have hf1 : av.eval (.tmp 1) = .string b := (hS.2.2 1 (nofill (by kernel_rfl))).trans rfl
    have hf5 : av.eval (.tmp 5) = .pointer (some ⟨g5, 0, none⟩) := (hS.2.2 5 (nofill (by kernel_rfl))).trans rfl
    have hf7 : av.eval (.tmp 7) = .pointer (some ⟨g7, 0, none⟩) := (hS.2.2 7 (nofill (by kernel_rfl))).trans rfl
    have t0 := cell_kp p0 hk (by simp)
    have t1 := cell_kp p1 hk (by simp)
    have u0 := cell_kp o0 hk (by simp)
    have u1 := cell_kp o1 hk (by simp)
    have hab := HAB.out
    have hpab := HPAB.out
    rcases q with _|_|_|_|_|_|_|_|_|_|_|_|_|_|_|_|_|_|_|q
    all_goals try (obtain rfl := Option.some.inj ho)
    · have e0 := gd hf0
      exact wpOp_value rfl rfl (v := .string a) (w' := wv) (by simp [execOp, go_sem, e0]) (hK _ _ (Kp.rfl_ _ _) rfl)
    · have e1 := gd hf1
      exact wpOp_value rfl rfl (v := .string b) (w' := wv) (by simp [execOp, go_sem, e1]) (hK _ _ (Kp.rfl_ _ _) rfl)
    · have e40 := gd (H 0 40 (by kernel_rfl) rfl)
      have e41 := gd (H 1 41 (by kernel_rfl) rfl)
      exact wpOp_value rfl rfl (v := .bool eq) (w' := wv) (by simp [execOp, go_sem, e40, e41, hab]) (hK _ _ (Kp.rfl_ _ _) rfl)
    · have e5 := gd hf5
      exact wpOp_value rfl rfl (v := .agg #[.int .i64 a.size, .slice A5 na c5]) (w' := wv) (by simp [execOp, go_sem, e5, t0, t1]) (hK _ _ (Kp.rfl_ _ _) rfl)
    · have e7 := gd hf7
      exact wpOp_value rfl rfl (v := .agg #[.int .i64 b.size, .slice A7 nb c7]) (w' := wv) (by simp [execOp, go_sem, e7, u0, u1]) (hK _ _ (Kp.rfl_ _ _) rfl)
    · have e43 := gd (H 3 43 (by kernel_rfl) rfl)
      have e44 := gd (H 4 44 (by kernel_rfl) rfl)
      refine wpOp_call rfl rfl (f := 12) (args := #[.agg #[.int .i64 a.size, .slice A5 na c5], .agg #[.int .i64 b.size, .slice A7 nb c7]]) (w1 := wv) (by simp [execOp, go_sem, e43, e44]) ?_
      refine (ssame_to a.size b.size A5 A7 na c5 nb c7 ha hb eq wv HSAME.out (L8.kp hk (by simp)) (M8.kp hk (by simp)) (by omega) (by omega)).mono ?_
      rintro e w8 ⟨rfl, k8⟩
      exact ⟨_, rfl, hK _ _ k8 rfl⟩
    · have e42 := gd (H 2 42 (by kernel_rfl) rfl)
      have e45 := gd (H 5 45 (by kernel_rfl) rfl)
      exact wpOp_value rfl rfl (v := .bool true) (w' := wv) (by simp [execOp, go_sem, e42, e45]) (hK _ _ (Kp.rfl_ _ _) rfl)
    · have e46 := gd (H 6 46 (by kernel_rfl) rfl)
      exact wpOp_value rfl rfl (v := .bool true) (w' := wv) (by simp [execOp, go_sem, e46]) (hK _ _ (Kp.rfl_ _ _) rfl)
    · have e5 := gd hf5
      exact wpOp_value_g rfl (wanted_of rfl rfl (H 7 47 (by kernel_rfl) rfl)) (v := .agg #[.int .i64 a.size, .slice A5 na c5]) (w' := wv) (by simp [execOp, go_sem, e5, t0, t1]) (hK _ _ (Kp.rfl_ _ _) rfl)
    · have e48 := gd (H 8 48 (by kernel_rfl) rfl)
      refine wpOp_call_g rfl (wanted_of rfl rfl (H 7 47 (by kernel_rfl) rfl)) (f := 21) (args := #[.agg #[.int .i64 a.size, .slice A5 na c5]]) (w1 := wv) (by simp [execOp, go_sem, e48]) ?_
      refine (spack_to a.size A5 na c5 ha pa wv HPA.out (L8.kp hk (by simp)) (by omega) HTA.out (by omega) (by omega)).mono ?_
      rintro e w8 ⟨rfl, k8⟩
      exact ⟨_, rfl, hK _ _ k8 rfl⟩
    · have e7 := gd hf7
      exact wpOp_value_g rfl (wanted_of rfl rfl (H 7 47 (by kernel_rfl) rfl)) (v := .agg #[.int .i64 b.size, .slice A7 nb c7]) (w' := wv) (by simp [execOp, go_sem, e7, u0, u1]) (hK _ _ (Kp.rfl_ _ _) rfl)
    · have e50 := gd (H 10 50 (by kernel_rfl) rfl)
      refine wpOp_call_g rfl (wanted_of rfl rfl (H 7 47 (by kernel_rfl) rfl)) (f := 21) (args := #[.agg #[.int .i64 b.size, .slice A7 nb c7]]) (w1 := wv) (by simp [execOp, go_sem, e50]) ?_
      refine (spack_to b.size A7 nb c7 hb pb wv HPB.out (M8.kp hk (by simp)) (by omega) HTB.out (by omega) (by omega)).mono ?_
      rintro e w8 ⟨rfl, k8⟩
      exact ⟨_, rfl, hK _ _ k8 rfl⟩
    · have e49 := gd (H 9 49 (by kernel_rfl) rfl)
      have e51 := gd (H 11 51 (by kernel_rfl) rfl)
      exact wpOp_value_g rfl (wanted_of rfl rfl (H 7 47 (by kernel_rfl) rfl)) (v := .bool eq) (w' := wv) (by simp [execOp, go_sem, e49, e51, hpab]) (hK _ _ (Kp.rfl_ _ _) rfl)
    · have e0 := gd hf0
      exact wpOp_value_g rfl (wanted_of rfl rfl (H 7 47 (by kernel_rfl) rfl)) (v := .string a) (w' := wv) (by simp [execOp, go_sem, e0]) (hK _ _ (Kp.rfl_ _ _) rfl)
    · have e1 := gd hf1
      exact wpOp_value_g rfl (wanted_of rfl rfl (H 7 47 (by kernel_rfl) rfl)) (v := .string b) (w' := wv) (by simp [execOp, go_sem, e1]) (hK _ _ (Kp.rfl_ _ _) rfl)
    · have e53 := gd (H 13 53 (by kernel_rfl) rfl)
      have e54 := gd (H 14 54 (by kernel_rfl) rfl)
      exact wpOp_value_g rfl (wanted_of rfl rfl (H 7 47 (by kernel_rfl) rfl)) (v := .bool eq) (w' := wv) (by simp [execOp, go_sem, e53, e54, hab]) (hK _ _ (Kp.rfl_ _ _) rfl)
    · have e52 := gd (H 12 52 (by kernel_rfl) rfl)
      have e55 := gd (H 15 55 (by kernel_rfl) rfl)
      exact wpOp_value_g rfl (wanted_of rfl rfl (H 7 47 (by kernel_rfl) rfl)) (v := .bool true) (w' := wv) (by simp [execOp, go_sem, e52, e55]) (hK _ _ (Kp.rfl_ _ _) rfl)
    · have e47 := gd (H 7 47 (by kernel_rfl) rfl)
      have e56 := gd (H 16 56 (by kernel_rfl) rfl)
      exact wpOp_value rfl rfl (v := .bool true) (w' := wv) (by simp [execOp, go_sem, e47, e56]) (hK _ _ (Kp.rfl_ _ _) rfl)
    · have e57 := gd (H 17 57 (by kernel_rfl) rfl)
      exact wpOp_value rfl rfl (v := .bool true) (w' := wv) (by simp [execOp, go_sem, e57]) (hK _ _ (Kp.rfl_ _ _) rfl)
    · simp at ho
  · intro av wv hS hk H
    have h4 : av.eval (.tmp 4) = .bool true := H 18 4 rfl
    have hkv := hk06.trans hk
    go_wp2_with fail
    exact bodyPost_ret (results_tmp rfl _ _ _) (hS.1.trans rfl) ⟨congrArg Ending.returned h4, hkv⟩
set_option maxHeartbeats 2000000 in
theorem sone_big (a b : ByteArray) (w : World) (ht : Tbk w) (h : 512 < a.size ∨ (a.size ≤ 512 ∧ 512 < b.size)) (h1 : a.size ≤ 9223372036854775807) (h2 : b.size ≤ 9223372036854775807) :
    Calls Tryd.prog 8 #[.string a, .string b] w (Yes w) := by
  rcases h with h | ⟨h, h'⟩
  all_goals
    go_enter Tryd.func8, Tryd.ntmps8
    go_wp2_with fail
    refine (hsawake _ ht).mono ?_
    rintro e w1 ⟨rfl, hk1⟩
    go_wp2_with fail
    refine (hsawake _ (ht.kp hk1 (by simp))).mono ?_
    rintro e w2 ⟨rfl, hk2⟩
    go_wp2_with fail
    go_ret
    exact ⟨rfl, hk1.trans hk2⟩
theorem shone_walk (v0 v1 : Value) (w : World) (hl : LaidSha w) (i0 : In w 9 v0) (i1 : In w 9 v1) : Calls Tryd.prog 8 #[v0, v1] w (Yes w) := by
  obtain ⟨a, rfl, ha⟩ := in_string Tryd.underlying9 i0
  obtain ⟨b, rfl, hb⟩ := in_string Tryd.underlying9 i1
  have ht := tbk_of hl
  by_cases h : a.size ≤ 512 ∧ b.size ≤ 512
  · exact sone_in a b w ht h.1 h.2
  · exact sone_big a b w ht (by omega) (size_leH ha) (size_leH hb)
end Go.Proofs.YtencpplopdogmaaDoor
namespace Go.Proofs.YtencpplopdogmaaDoor
set_option maxRecDepth 100000
open Go.RowKit
set_option linter.unusedVariables false

theorem modlen (a : Int) (n : Nat) (h0 : 0 < n) (h1 : -9223372036854775808 ≤ a) (h2 : a ≤ 9223372036854775807) (hn : n ≤ 1099511627776) : ∃ k : Nat, wrap64 ((IntKind.u64.wrap a).tmod (n : Int)) = (k : Int) ∧ k < n := by
  obtain ⟨m, rfl⟩ : ∃ m, n = m + 1 := ⟨n - 1, by omega⟩
  obtain ⟨k, hk, hkn⟩ := modk a m h1 h2 (by omega)
  exact ⟨k, hk, by omega⟩
theorem xor_ne {x y : UInt8} (hy : y ≠ 0) : x ^^^ y ≠ x := by
  intro h
  apply hy
  have h2 : x ^^^ (x ^^^ y) = x ^^^ x := by rw [h]
  rw [← UInt8.xor_assoc, UInt8.xor_self, UInt8.zero_xor] at h2
  exact h2
theorem set_ne {l : List UInt8} {k : Nat} {x z : UInt8} (hx : l[k]? = some x) (hz : z ≠ x) : l.set k z ≠ l := by
  intro h
  have h2 := congrArg (fun m : List UInt8 => m[k]?) h
  have hk := (List.getElem?_eq_some_iff.1 hx).1
  simp only [List.getElem?_set, hk, if_true, hx] at h2
  exact hz (by simpa using h2)
/-- Chunks of which two have changed places. -/
def swapped (cs : List ByteArray) (i k : Nat) (x y : ByteArray) : List ByteArray := (cs.set i y).set k x
theorem swapped_len {cs : List ByteArray} {i k : Nat} {x y : ByteArray} : (swapped cs i k x y).length = cs.length := by simp [swapped]
theorem swapped_at {cs : List ByteArray} {i k : Nat} {x y : ByteArray} (hx : cs[i]? = some x) (hik : i ≠ k) : (swapped cs i k x y)[i]? = some y := by
  have h := (List.getElem?_eq_some_iff.1 hx).1
  unfold swapped
  rw [List.getElem?_set_ne (Ne.symm hik), List.getElem?_set]
  simp [h]
theorem swapped_mem {cs : List ByteArray} {i k : Nat} {x y : ByteArray} (hx : cs[i]? = some x) (hy : cs[k]? = some y) : ∀ c ∈ swapped cs i k x y, c ∈ cs := by
  intro c hc
  unfold swapped at hc
  rcases List.mem_or_eq_of_mem_set hc with hc | rfl
  · rcases List.mem_or_eq_of_mem_set hc with hc | rfl
    · exact hc
    · exact List.mem_of_getElem? hy
  · exact List.mem_of_getElem? hx
theorem flat_bound {n : Nat} : ∀ (cs : List ByteArray), (∀ c ∈ cs, c.size ≤ n) → (flat cs).length ≤ n * cs.length := by
  intro cs
  induction cs with
  | nil => intro _; simp [flat]
  | cons c cs ih =>
    intro h
    have h1 := h c (by simp)
    have h2 := ih fun x hx => h x (List.mem_cons_of_mem _ hx)
    have h3 : c.data.toList.length = c.size := by simp
    rw [flat_cons, List.length_append, List.length_cons, h3, Nat.mul_succ]
    omega
/-- The row in which two chunks change places. -/
def Rw2 (base n g c : Nat) (cs : List ByteArray) (w : World) : Prop := w.ownsRow base 9 1 (.slice (some ⟨g, 0, none⟩) n c) n (cs.map Value.string)
theorem Rw2.at_ {base n g c k : Nat} {cs : List ByteArray} {x : ByteArray} {w : World} (h : Rw2 base n g c cs w) (hx : cs[k]? = some x) (hk : k < n) : w.cell? ⟨g, k, none⟩ = some (.string x) ∧ w.frozen? ⟨g, k, none⟩ = false := by
  have hL := Ls.of_own h
  obtain ⟨ad, z, e, hz, hc⟩ := hL.str_at hk
  injection e with e
  subst e
  rw [hx] at hz
  injection hz with hz
  subst hz
  rw [addr0] at hc
  exact ⟨hc, World.ownsRow.frozenAt h _⟩
theorem Rw2.set {base n g c : Nat} {cs : List ByteArray} {w : World} (h : Rw2 base n g c cs w) (k : Nat) (x : ByteArray) : Rw2 base n g c (cs.set k x) (w.setCell ⟨g, k, none⟩ (.string x)) := by
  have h2 := (World.ownsRow.stored h k (.string x)).1
  unfold Rw2
  rw [List.map_set]
  exact h2
def SwF (w0 : World) (base n g c i k : Nat) (cs : List ByteArray) (x y : ByteArray) (q : Nat) (v : Value) (w' : World) : Prop := match q with
  | 0 => v = .slice (some ⟨g, 0, none⟩) n c
  | 1 => v = .int .i64 i
  | 2 => v = .slice (some ⟨g, 0, none⟩) n c
  | 3 => v = .int .i64 k
  | 4 => v = .slice (some ⟨g, 0, none⟩) n c
  | 5 => v = .int .i64 k
  | 6 => v = .pointer (some ⟨g, k, none⟩)
  | 7 => v = .string y
  | 8 => v = .slice (some ⟨g, 0, none⟩) n c
  | 9 => v = .int .i64 i
  | 10 => v = .pointer (some ⟨g, i, none⟩)
  | 11 => v = .string x
  | 12 => v = .pointer (some ⟨g, i, none⟩)
  | 13 => Rw2 base n g c (cs.set i y) w' ∧ Kp [g] w0 w'
  | 14 => v = .pointer (some ⟨g, k, none⟩)
  | 16 => Rw2 base n g c cs w' ∧ Kp [g] w0 w'
  | _ => True

set_option maxRecDepth 100000 in
set_option maxHeartbeats 16000000 in
theorem selse_in (s : ByteArray) (at0 : Int) (y : UInt8) (w : World) (ht : Tbk w) (h0 : 1 ≤ s.size) (hs : s.size ≤ 512) (h1 : -9223372036854775808 ≤ at0) (h2 : at0 ≤ 9223372036854775807) :
    Calls Tryd.prog 7 #[.string s, .int .i64 at0, .int .u8 (y.toNat : Int)] w (Yes w) := by
  have hll : s.data.toList.length = s.size := by simp
  obtain ⟨l, hl⟩ : ∃ l, s.data.toList = l := ⟨_, rfl⟩
  rw [hl] at hll
  obtain ⟨hm, hhm⟩ : ∃ hm, mkH l = hm := ⟨_, rfl⟩
  obtain ⟨n, hn⟩ : ∃ n, hm.length = n := ⟨_, rfl⟩
  have hcn : cnt s.size = n := by rw [← hn, ← hhm, mkH_len, hll]
  obtain ⟨cs, hcs⟩ : ∃ cs, chunks l n = cs := ⟨_, rfl⟩
  have hrt : Rt s.size hm := by rw [← hhm, ← hll]; exact mkH_right (by omega)
  have hn8 : n ≤ 8 := by rw [← hn]; exact hrt.len
  have hn1 : 1 ≤ n := by rw [← hcn]; unfold cnt; omega
  have hcl : cs.length = n := by rw [← hcs, chunks_length]
  have hcm : cs.map dgs = hm := by rw [← hhm, ← hcs, ← hcn, ← hll]; rfl
  have hc64 : ∀ x ∈ cs, x.size ≤ 64 := fun x hx => by rw [← hcs] at hx; exact chunk_le x hx
  obtain ⟨k, hk, hkn⟩ := modlen at0 s.size (by omega) h1 h2 (by omega)
  obtain ⟨i, hi, hin⟩ := modlen at0 n (by omega) h1 h2 (by omega)
  obtain ⟨j, hj, hjn⟩ := modlen (y.toNat : Int) n (by omega) (by omega) (by have := y.toNat_lt; omega) (by omega)
  have HL := Lib.hid hl
  have HLL := Lib.hid hll
  have HM := Lib.hid hhm
  have HN := Lib.hid hn
  have HCN := Lib.hid hcn
  have HCS := Lib.hid hcs
  have HRT := Lib.hid hrt
  have HCL := Lib.hid hcl
  have HCM := Lib.hid hcm
  have HC64 := Lib.hid hc64
  have HI := Lib.hid hi
  have HJ := Lib.hid hj
  have hroots := ht.1
  clear hl hll hhm hn hcn hcs hrt hcl hcm hc64 hi hj
  go_enter Tryd.func7, Tryd.ntmps7
  go_wp2_with fail
  refine (hsawake _ ht).mono ?_
  rintro e w1 ⟨rfl, hk1⟩
  go_wp2_with fail
  refine (make_to s s.size hm _ (ht.kp hk1 (by simp)) rfl (by rw [HL.out]; exact HM.out) hs).mono ?_
  intro e w2 h2'
  obtain ⟨A, c, rfl, L2, hk2⟩ := h2'.open_ HN.out
  obtain ⟨g1, hg1⟩ : ∃ g1, w2.heap.size = g1 := ⟨_, rfl⟩
  have a3 : At (w2.alloc (.cells #[.int .i64 s.size, .slice A n c] 25)) g1 25 #[.int .i64 s.size, .slice A n c] := At.new_ hg1
  have hk3 := (hk1.trans hk2).alloc (.cells #[.int .i64 s.size, .slice A n c] 25)
  have L3 := L2.kp ((Kp.rfl_ [] w2).alloc (.cells #[.int .i64 s.size, .slice A n c] 25)) (by simp)
  go_wp2_with fail
  generalize w2.alloc (.cells #[.int .i64 s.size, .slice A n c] 25) = w3 at *
  clear h2' hk1 hk2 L2 hg1
  refine (cut_to s n cs _ HCN.out (by rw [HL.out]; exact HCS.out) (by omega)).mono ?_
  rintro e w4 ⟨v4, rfl, o4, hk4⟩
  have a4 := a3.kp hk4 (by simp)
  have L4 := L3.kp hk4 (by simp)
  have hk04 := hk3.trans hk4
  have hg1w : g1 < w3.heap.size := a3.lt
  obtain ⟨B, dc, rfl, -, -, hndc, -⟩ := own_open o4
  rcases own_shape o4 with ⟨-, -, hx⟩ | ⟨g, rfl, hbg, hlg⟩
  · omega
  have hg1g : g1 ≠ g := by omega
  have hoffA : 0 < n → ∀ ad, A = some ad → ad.block ≠ g := fun hn0 ad had => by have := L3.off hn0 ad had; omega
  have hws : w.heap.size ≤ w3.heap.size := hk3.size
  have O4 : Rw2 w3.heap.size n g dc cs w4 := o4
  clear o4 a3 L3 hk4
  obtain ⟨base, hbase⟩ : ∃ base, w3.heap.size = base := ⟨_, rfl⟩
  rw [hbase] at O4 hbg hg1w hws
  clear hk3 hbase
  by_cases hy : y = 0
  rotate_left
  · have hy0 : ((y.toNat : Int) == 0) = false := by
      rw [beq_eq_false_iff_ne]
      intro h
      apply hy
      have h3 : y.toNat = 0 := by omega
      exact UInt8.toNat_inj.1 h3
    obtain ⟨x0, hx0⟩ : ∃ x, l[k]? = some x := ⟨_, List.getElem?_eq_getElem (by rw [HLL.out]; exact hkn)⟩
    have hxb : bits .xor .u8 ((x0.toNat : Nat) : Int) ((y.toNat : Nat) : Int) = (((x0 ^^^ y).toNat : Nat) : Int) := by rw [u8_xor_nat x0.toNat y.toNat x0.toNat_lt y.toNat_lt, UInt8.toNat_xor]
    obtain ⟨l', hl'⟩ : ∃ l', l.set k (x0 ^^^ y) = l' := ⟨_, rfl⟩
    have hne : l' ≠ l := by rw [← hl']; exact set_ne hx0 (xor_ne hy)
    have hll' : l'.length = s.size := by rw [← hl', List.length_set, HLL.out]
    obtain ⟨s', hs'⟩ : ∃ s', bs l' = s' := ⟨_, rfl⟩
    have hss' : s'.size = s.size := by rw [← hs', bs_size, hll']
    have hsl' : s'.data.toList = l' := by rw [← hs']; rfl
    obtain ⟨cs', hcs'⟩ : ∃ c, chunks l' n = c := ⟨_, rfl⟩
    have hcn' : cnt s'.size = n := by rw [hss']; exact HCN.out
    have hcl' : cs'.length = n := by rw [← hcs', chunks_length]
    have hbadA : (∀ x ∈ cs' ++ cs, ∀ y ∈ cs' ++ cs, dgs x = dgs y → x = y) → bld s.size hm cs' = (⟨#[]⟩, 101) := by
      intro hi
      refine bld_bad HRT.out (by rw [hcl', HN.out]) fun he => hne ?_
      have h3 : cs' = cs := map_one cs' cs (he.trans HCM.out.symm) fun a ha b hb => hi a (List.mem_append_left _ ha) b (List.mem_append_right _ hb)
      have h4 := congrArg flat h3
      rw [← hcs', ← HCS.out] at h4
      have f1 : flat (chunks l' n) = l' := by
        have h5 := chunks_flat l'
        rwa [hll', HCN.out] at h5
      have f2 : flat (chunks l n) = l := by
        have h5 := chunks_flat l
        rwa [HLL.out, HCN.out] at h5
      rw [f1, f2] at h4
      exact h4
    have hc64' : ∀ x ∈ cs', x.size ≤ 64 := fun x hx => by rw [← hcs'] at hx; exact chunk_le x hx
    have HBADA := Lib.hid hbadA
    have HC64' := Lib.hid hc64'
    have HCL' := Lib.hid hcl'
    have HCS' := Lib.hid hcs'
    have HCN' := Lib.hid hcn'
    have HSL' := Lib.hid hsl'
    have HLL' := Lib.hid hll'
    clear hbadA hc64' hcl' hcs' hcn' hsl' hne
    obtain ⟨c5, w5, hconv, hbuf, hk5, hsz5⟩ := run_bytes w4 s
    obtain ⟨gb, hgb⟩ : ∃ gb, w4.heap.size = gb := ⟨_, rfl⟩
    rw [hgb] at hbuf hconv hsz5
    rw [HL.out] at hbuf
    have hcx := hbuf.cell hx0
    have hfx := hbuf.free (j := k) (by rw [HLL.out]; exact hkn)
    have hbuf2 := hbuf.set (j := k) (x0 ^^^ y)
    rw [hl', ← hxb] at hbuf2
    have hback := hbuf2.back c5 s.size hll'
    rw [hs'] at hback
    have hkI : (k : Int) < (s.size : Int) := by omega
    have hkp6 : Kp [] w4 (w5.setCell ⟨gb, k, none⟩ (.int .u8 (bits .xor .u8 ((x0.toNat : Nat) : Int) ((y.toNat : Nat) : Int)))) := hk5.set (by simp; omega) _
    clear hbuf hx0 hxb hk5
    go_wp2_with fail
    generalize w5.setCell ⟨gb, k, none⟩ (.int .u8 (bits .xor .u8 ((x0.toNat : Nat) : Int) ((y.toNat : Nat) : Int))) = w6 at *
    clear hconv hcx hfx hback hkI hk
    have a6 := a4.kp hkp6 (by simp)
    have L6 := L4.kp hkp6 (by simp)
    have O6 : Rw2 base n g dc cs w6 := own_kp O4 hkp6 (by simp)
    have hk06 := hk04.trans hkp6
    have hlg6 : g < w6.heap.size := Nat.lt_of_lt_of_le hlg hkp6.size
    clear a4 L4 O4 hk04 hkp6 hlg hgb hsz5
    refine (cut_to s' n cs' _ HCN'.out (by rw [HSL'.out]; exact HCS'.out) (by omega)).mono ?_
    rintro e w7 ⟨v7, rfl, o7, hk7⟩
    have O7 : Rw2 base n g dc cs w7 := own_kp O6 hk7 (by simp)
    have hb67 : Below w6.heap.size w6 w7 := hk7.below (Nat.le_refl _) (by simp)
    obtain ⟨i0, hi0, hz0, h10, h20⟩ := info_parts info_string
    have hs7 := hk7.size
    have L7g := Ls.of_own O7
    go_wp2_with (at_builtin; refine wpl_app _ rfl _ _ 23 rfl w6.heap.size 9 i0 _ 16 Tryd.underlying23 hi0 hz0 h10 h20 rfl v7 n _ rfl o7 (some ⟨g, 0, none⟩) n dc _ rfl L7g oneCell_map_string (by unfold maxLen; omega) (by omega) hs7 ?_; intro v8 w8 o8 g8 _; have hb78 := grown_below g8 o7 hs7)
    rw [← List.map_append] at o8
    have hk68 : Kp [] w6 w8 := Kp.of_below (hb67.trans hb78)
    obtain ⟨D, dd, rfl, L8, -, -, -⟩ := own_open o8
    clear o8 g8 o7 hb78 hb67 L7g hs7 O7 hk7
    have hsz8 : ∀ x ∈ cs' ++ cs, x.size ≤ 1000000000 := by
      intro x hx
      rcases List.mem_append.1 hx with hx | hx
      · have := HC64'.out x hx; omega
      · have := HC64.out x hx; omega
    refine (clash_any D (n + n) dd (cs' ++ cs) _ L8 (by omega) hsz8).mono ?_
    rintro e w9 ⟨bc, rfl, hk9, hinj⟩
    have hk69 := hk68.trans hk9
    have hk09 := hk06.trans hk69
    clear hk68 hk9 L8 hsz8
    cases bc
    rotate_left
    · clear hinj
      go_wp2_with fail
      go_ret
      exact ⟨rfl, hk09⟩
    have HBD := Lib.hid (HBADA.out (hinj rfl))
    have HF1 : Hid (∀ x ∈ cs', x.size ≤ maxLen) := Lib.hid fun x hx => by have := HC64'.out x hx; unfold maxLen; omega
    have HF2 : Hid ((flat cs').length ≤ 1000000000) := Lib.hid (by
      have h3 := flat_bound (n := 64) cs' HC64'.out
      rw [HCL'.out] at h3
      omega)
    clear hinj HBADA
    have a9 := a6.kp hk69 (by simp)
    have L9 := L6.kp hk69 (by simp)
    have O9 : Rw2 base n g dc cs w9 := own_kp O6 hk69 (by simp)
    have hbuf9 := hbuf2.kp hk69 (by simp)
    have hlg9 : g < w9.heap.size := Nat.lt_of_lt_of_le hlg6 hk69.size
    have c0 : w9.cell? ⟨g1, 0, none⟩ = some (.int .i64 s.size) := a9.cell 0
    have c1 : w9.cell? ⟨g1, 1, none⟩ = some (.slice A n c) := a9.cell 1
    have ht9 := ht.kp hk09 (by simp)
    clear a6 L6 O6 hbuf2 hk69 hk06 hlg6
    go_wp2_with fail
    refine region_inv2' (fun q v w' => match q with
      | 0 => v = .agg #[.int .i64 s.size, .slice A n c]
      | 1 => v = .slice (some ⟨gb, 0, none⟩) s.size c5
      | 2 => v = .string s'
      | 3 => Cks n cs' v w'
      | 4 => v = .tuple #[.string ⟨#[]⟩, .int .i64 101]
      | 5 => v = .tuple #[.string ⟨#[]⟩, .int .i64 101]
      | 6 => v = .string ⟨#[]⟩
      | 7 => v = .int .i64 101
      | 8 => v = .string ⟨#[]⟩
      | _ => v = .int .i64 101) (by kernel_rfl) _ rfl (by kernel_rfl) (by kernel_rfl) (by kernel_rfl) ?_ ?_ ?_
    · intro q v w1 w2 hF hK
      rcases q with _|_|_|_|_|_|_|_|_|q
      all_goals first | exact hF | exact Cks.kp hF hK
    · intro q o ho av wv K hS hk H hK
      have hf7 : av.eval (.tmp 7) = .pointer (some ⟨g1, 0, none⟩) := (hS.2.2 7 (nofill (by kernel_rfl))).trans rfl
      have hf11 : av.eval (.tmp 11) = .slice (some ⟨gb, 0, none⟩) s.size c5 := (hS.2.2 11 (nofill (by kernel_rfl))).trans rfl
      have s0 := cell_kp c0 hk (by simp)
      have s1 := cell_kp c1 hk (by simp)
      rcases q with _|_|_|_|_|_|_|_|_|_|q
      all_goals try (obtain rfl := Option.some.inj ho)
      · have e7 := gd hf7
        exact wpOp_value rfl rfl (v := .agg #[.int .i64 s.size, .slice A n c]) (w' := wv) (by simp [execOp, go_sem, e7, s0, s1]) (hK _ _ (Kp.rfl_ _ _) rfl)
      · have e11 := gd hf11
        exact wpOp_value rfl rfl (v := .slice (some ⟨gb, 0, none⟩) s.size c5) (w' := wv) (by simp [execOp, go_sem, e11]) (hK _ _ (Kp.rfl_ _ _) rfl)
      · have e66 := gd (H 1 66 (by kernel_rfl) rfl)
        have hbk := (hbuf9.kp hk (by simp)).back c5 s.size HLL'.out
        rw [hs'] at hbk
        exact wpOp_value rfl rfl (v := .string s') (w' := wv) (by simp [execOp, go_sem, e66, hbk]) (hK _ _ (Kp.rfl_ _ _) rfl)
      · have e67 := gd (H 2 67 (by kernel_rfl) rfl)
        refine wpOp_call rfl rfl (f := 23) (args := #[.string s']) (w1 := wv) (by simp [execOp, go_sem, e67]) ?_
        refine (cut_to s' n cs' wv HCN'.out (by rw [HSL'.out]; exact HCS'.out) (by omega)).mono ?_
        rintro e w10 ⟨v10, rfl, o10, k10⟩
        exact ⟨_, rfl, hK _ _ k10 (cks_of o10)⟩
      · obtain ⟨B8, d8, e68, hL68, hfr, hnd⟩ : Cks n cs' (av.tmps.getD 68 undef) wv := H 3 68 (by kernel_rfl) rfl
        have e68 := gd e68
        have e65 := gd (H 0 65 (by kernel_rfl) rfl)
        refine wpOp_call rfl rfl (f := 14) (args := #[.agg #[.int .i64 s.size, .slice A n c], .slice B8 n d8]) (w1 := wv) (by simp [execOp, go_sem, e65, e68]) ?_
        refine (build_to s.size A B8 n c n d8 hm cs' ⟨#[]⟩ 101 wv HBD.out (ht9.kp hk (by simp)) (L9.kp hk (by simp)) hL68 (by omega) (by omega) hnd HF1.out HF2.out (fun _ => hfr) (by omega) (by omega)).mono ?_
        rintro e w10 ⟨rfl, k10⟩
        exact ⟨_, rfl, hK _ _ k10 rfl⟩
      · have e69 := gd (H 4 69 (by kernel_rfl) rfl)
        exact wpOp_value rfl rfl (v := .tuple #[.string ⟨#[]⟩, .int .i64 101]) (w' := wv) (by simp [execOp, go_sem, e69]) (hK _ _ (Kp.rfl_ _ _) rfl)
      · have e64 := gd (H 5 64 (by kernel_rfl) rfl)
        exact wpOp_value rfl rfl (v := .string ⟨#[]⟩) (w' := wv) (by simp [execOp, go_sem, e64]) (hK _ _ (Kp.rfl_ _ _) rfl)
      · have e64 := gd (H 5 64 (by kernel_rfl) rfl)
        exact wpOp_value rfl rfl (v := .int .i64 101) (w' := wv) (by simp [execOp, go_sem, e64]) (hK _ _ (Kp.rfl_ _ _) rfl)
      · have e70 := gd (H 6 70 (by kernel_rfl) rfl)
        exact wpOp_value rfl rfl (v := .string ⟨#[]⟩) (w' := wv) (by simp [execOp, go_sem, e70]) (hK _ _ (Kp.rfl_ _ _) rfl)
      · have e71 := gd (H 7 71 (by kernel_rfl) rfl)
        exact wpOp_value rfl rfl (v := .int .i64 101) (w' := wv) (by simp [execOp, go_sem, e71]) (hK _ _ (Kp.rfl_ _ _) rfl)
      · simp at ho
    · intro av wr hS hk' H
      have h12 : av.tmps.getD 12 undef = .string ⟨#[]⟩ := H 8 12 rfl
      have h13 : av.tmps.getD 13 undef = .int .i64 101 := H 9 13 rfl
      rw [same_fold hS [65, 66, 67, 68, 69, 64, 70, 71, 12, 13] (by kernel_rfl) (by kernel_rfl)]
      simp only [List.foldl]
      rw [h12, h13]
      simp only [Act.put, List.setIfInBounds_toArray, List.set_cons_succ, List.set_cons_zero]
      generalize av.tmps.getD 64 undef = v64
      generalize av.tmps.getD 65 undef = v65
      generalize av.tmps.getD 66 undef = v66
      generalize av.tmps.getD 67 undef = v67
      generalize av.tmps.getD 68 undef = v68
      generalize av.tmps.getD 69 undef = v69
      generalize av.tmps.getD 70 undef = v70
      generalize av.tmps.getD 71 undef = v71
      have ar := a9.kp hk' (by simp)
      have Lr := L9.kp hk' (by simp)
      have Or : Rw2 base n g dc cs wr := own_kp O9 hk' (by simp)
      have hk0r := hk09.trans hk'
      have hlg : g < wr.heap.size := Nat.lt_of_lt_of_le hlg9 hk'.size
      clear hS H a9 L9 O9 hk09 hk' hbuf9 c0 c1 ht9 HF1 HF2 HBD hlg9
      obtain ⟨-, -⟩ := And.intro trivial trivial
      have hkr : g < wr.heap.size := hlg
      go_wp2_with fail
      refine (clash_any (some ⟨g, 0, none⟩) n dc cs _ (Ls.of_own Or) (by omega) (fun x hx => by have := HC64.out x hx; omega)).mono ?_
      rintro e w11 ⟨bc, rfl, hk11, hinj⟩
      have hk0s := hk0r.trans hk11
      have aw := ar.kp hk11 (by simp)
      have Ls_ := Lr.kp hk11 (by simp)
      have Os : Rw2 base n g dc cs w11 := own_kp Or hk11 (by simp)
      clear hk0r hk11 ar Lr Or
      cases bc
      rotate_left
      · clear hinj
        go_wp2_with fail
        go_ret
        exact ⟨rfl, hk0s⟩
      have HINJ := Lib.hid (hinj rfl)
      clear hinj
      have hiI := HI.out
      have hjI := HJ.out
      go_wp2_with fail
      go_quiet (fail)
      have aw := aw.drewN nq
      have Ls_ : Ls (w11.drewN nq) A n (hm.map Value.string) := Ls_
      have Os : Rw2 base n g dc cs (w11.drewN nq) := Os
      have hk0s := hk0s.drewN nq
      generalize w11.drewN nq = w12 at *
      clear hiI hjI
      rw [HI.out, HJ.out]
      clear hy0
      obtain ⟨x, hx⟩ : ∃ x, cs[i]? = some x := ⟨_, List.getElem?_eq_getElem (by have := HCL.out; omega)⟩
      obtain ⟨z, hz⟩ : ∃ z, cs[j]? = some z := ⟨_, List.getElem?_eq_getElem (by have := HCL.out; omega)⟩
      obtain ⟨ci, fi⟩ := Os.at_ hx hin
      obtain ⟨cj, fj⟩ := Os.at_ hz hjn
      have HX := Lib.hid hx
      have HZ := Lib.hid hz
      have b1 : (i : Int) < (n : Int) := by omega
      have b2 : (j : Int) < (n : Int) := by omega
      have b3 : (0 : Int) ≤ (i : Int) := by omega
      have b4 : (0 : Int) ≤ (j : Int) := by omega
      clear hx hz
      by_cases hxz : x = z
      · subst hxz
        go_wp2_with fail
        go_quiet (fail)
        have ae := aw.drewN nq
        have Le : Ls (w12.drewN nq) A n (hm.map Value.string) := Ls_
        have Oe : Rw2 base n g dc cs (w12.drewN nq) := Os
        have hk0e := hk0s.drewN nq
        clear ci cj fi fj b1 b2 b3 b4 aw Ls_ Os hk0s
        generalize w12.drewN nq = we at *
        obtain ⟨cse, hcse⟩ : ∃ cse, cs = cse := ⟨_, rfl⟩
        rw [hcse] at Oe
        have HCE : Hid (∀ x ∈ cse, x.size ≤ 64) := Lib.hid (by rw [← hcse]; exact HC64.out)
        have HCEL : Hid (cse.length = n) := Lib.hid (by rw [← hcse]; exact HCL.out)
        clear hcse
        have hte := ht.kp hk0e (by simp)
        have e0 : we.cell? ⟨g1, 0, none⟩ = some (.int .i64 s.size) := ae.cell 0
        have e1 : we.cell? ⟨g1, 1, none⟩ = some (.slice A n c) := ae.cell 1
        obtain ⟨Bt, hsl0, hBt⟩ := back_str (k := 1) (c := dc) (Ls.of_own Oe) (by omega) hndc
        have hsl : ∀ w', (Instr.sliceAt 23 (.slice (some ⟨g, 0, none⟩) n dc) (some (.int .i64 1)) none none).run Tryd.prog w' = .ok (.slice Bt (n - 1) (dc - 1)) w' := hsl0
        have HARG : Hid (bld s.size hm (cse.drop 1) = (⟨#[]⟩, 1)) := Lib.hid (bld_arg HRT.out (by rw [List.length_drop, HCEL.out, HN.out]; omega))
        have HD1 : Hid (∀ x ∈ cse.drop 1, x.size ≤ maxLen) := Lib.hid fun x hx => by have := HCE.out x (List.mem_of_mem_drop hx); unfold maxLen; omega
        have HD2 : Hid ((flat (cse.drop 1)).length ≤ 1000000000) := Lib.hid (by
          have h3 := flat_bound (n := 64) (cse.drop 1) fun x hx => HCE.out x (List.mem_of_mem_drop hx)
          rw [List.length_drop, HCEL.out] at h3
          omega)
        clear hsl0 Oe ae
        go_wp2_with fail
        refine region_inv2' (fun q v w' => match q with
          | 0 => v = .agg #[.int .i64 s.size, .slice A n c]
          | 1 => v = .slice (some ⟨g, 0, none⟩) n dc
          | 2 => v = .slice Bt (n - 1) (dc - 1)
          | 3 => v = .tuple #[.string ⟨#[]⟩, .int .i64 1]
          | 4 => v = .tuple #[.string ⟨#[]⟩, .int .i64 1]
          | 5 => v = .string ⟨#[]⟩
          | 6 => v = .int .i64 1
          | 7 => v = .string ⟨#[]⟩
          | _ => v = .int .i64 1) (by kernel_rfl) _ rfl (by kernel_rfl) (by kernel_rfl) (by kernel_rfl) ?_ ?_ ?_
        · intro q v w1 w2 hF hK
          rcases q with _|_|_|_|_|_|_|_|q
          all_goals exact hF
        · intro q o ho av wv K hS hk H hK
          have hf7 : av.eval (.tmp 7) = .pointer (some ⟨g1, 0, none⟩) := (hS.2.2 7 (nofill (by kernel_rfl))).trans rfl
          have hf9 : av.eval (.tmp 9) = .slice (some ⟨g, 0, none⟩) n dc := (hS.2.2 9 (nofill (by kernel_rfl))).trans rfl
          have s0 := cell_kp e0 hk (by simp)
          have s1 := cell_kp e1 hk (by simp)
          rcases q with _|_|_|_|_|_|_|_|_|q
          all_goals try (obtain rfl := Option.some.inj ho)
          · have e7 := gd hf7
            exact wpOp_value rfl rfl (v := .agg #[.int .i64 s.size, .slice A n c]) (w' := wv) (by simp [execOp, go_sem, e7, s0, s1]) (hK _ _ (Kp.rfl_ _ _) rfl)
          · have e9 := gd hf9
            exact wpOp_value rfl rfl (v := .slice (some ⟨g, 0, none⟩) n dc) (w' := wv) (by simp [execOp, go_sem, e9]) (hK _ _ (Kp.rfl_ _ _) rfl)
          · have e127 := gd (H 1 127 (by kernel_rfl) rfl)
            exact wpOp_value rfl rfl (v := .slice Bt (n - 1) (dc - 1)) (w' := wv) (by simp [execOp, go_sem, e127, hsl]) (hK _ _ (Kp.rfl_ _ _) rfl)
          · have e126 := gd (H 0 126 (by kernel_rfl) rfl)
            have e128 := gd (H 2 128 (by kernel_rfl) rfl)
            refine wpOp_call rfl rfl (f := 14) (args := #[.agg #[.int .i64 s.size, .slice A n c], .slice Bt (n - 1) (dc - 1)]) (w1 := wv) (by simp [execOp, go_sem, e126, e128]) ?_
            refine (build_to s.size A Bt n c (n - 1) (dc - 1) hm (cse.drop 1) ⟨#[]⟩ 1 wv HARG.out (hte.kp hk (by simp)) (Le.kp hk (by simp)) (by rw [List.map_drop]; exact hBt.kp hk (by simp)) (by omega) (by omega) (by omega) HD1.out HD2.out (fun h => by omega) (by omega) (by omega)).mono ?_
            rintro e w8 ⟨rfl, k8⟩
            exact ⟨_, rfl, hK _ _ k8 rfl⟩
          · have e129 := gd (H 3 129 (by kernel_rfl) rfl)
            exact wpOp_value rfl rfl (v := .tuple #[.string ⟨#[]⟩, .int .i64 1]) (w' := wv) (by simp [execOp, go_sem, e129]) (hK _ _ (Kp.rfl_ _ _) rfl)
          · have e125 := gd (H 4 125 (by kernel_rfl) rfl)
            exact wpOp_value rfl rfl (v := .string ⟨#[]⟩) (w' := wv) (by simp [execOp, go_sem, e125]) (hK _ _ (Kp.rfl_ _ _) rfl)
          · have e125 := gd (H 4 125 (by kernel_rfl) rfl)
            exact wpOp_value rfl rfl (v := .int .i64 1) (w' := wv) (by simp [execOp, go_sem, e125]) (hK _ _ (Kp.rfl_ _ _) rfl)
          · have e130 := gd (H 5 130 (by kernel_rfl) rfl)
            exact wpOp_value rfl rfl (v := .string ⟨#[]⟩) (w' := wv) (by simp [execOp, go_sem, e130]) (hK _ _ (Kp.rfl_ _ _) rfl)
          · have e131 := gd (H 6 131 (by kernel_rfl) rfl)
            exact wpOp_value rfl rfl (v := .int .i64 1) (w' := wv) (by simp [execOp, go_sem, e131]) (hK _ _ (Kp.rfl_ _ _) rfl)
          · simp at ho
        · intro av wv hS hk H
          have h18 : av.tmps.getD 18 undef = .string ⟨#[]⟩ := H 7 18 rfl
          have h19 : av.tmps.getD 19 undef = .int .i64 1 := H 8 19 rfl
          rw [same_fold hS [126, 127, 128, 129, 125, 130, 131, 18, 19] (by kernel_rfl) (by kernel_rfl)]
          simp only [List.foldl]
          rw [h18, h19]
          simp only [Act.put, List.setIfInBounds_toArray, List.set_cons_succ, List.set_cons_zero]
          generalize av.tmps.getD 125 undef = v125
          generalize av.tmps.getD 126 undef = v126
          generalize av.tmps.getD 127 undef = v127
          generalize av.tmps.getD 128 undef = v128
          generalize av.tmps.getD 129 undef = v129
          generalize av.tmps.getD 130 undef = v130
          generalize av.tmps.getD 131 undef = v131
          have hkv := hk0e.trans hk
          clear hS H e0 e1 hsl
          go_wp2_with fail
          go_ret
          exact ⟨rfl, hkv⟩
      · have hne := toList_ne hxz
        go_wp2_with fail
        go_quiet (fail)
        have aw := aw.drewN nq
        have Ls_ : Ls (w12.drewN nq) A n (hm.map Value.string) := Ls_
        have Os : Rw2 base n g dc cs (w12.drewN nq) := Os
        have hk0s := hk0s.drewN nq
        clear ci cj fi fj hne
        generalize w12.drewN nq = w13 at *
        go_wp2_with fail
        refine region_gen2 (SwF w13 base n g dc i j cs x z) (fun a b => a == 13 && b == 16) (by kernel_rfl) _ rfl (by kernel_rfl) (by kernel_rfl) (by kernel_rfl) (by kernel_rfl) ?_ ?_ ?_
        · intro q hq
          rcases q with _|_|_|_|_|_|_|_|_|_|_|_|_|_|_|_|_|q
          all_goals first
            | exact ⟨Os, (Kp.rfl_ _ _).drew⟩
            | exact trivial
            | exact absurd hq (by decide)
        · intro q o hqn ho av wv K hS H hK
          have hf9 : av.eval (.tmp 9) = .slice (some ⟨g, 0, none⟩) n dc := (hS.2.2 9 (nofill (by kernel_rfl))).trans rfl
          have hf14 : av.eval (.tmp 14) = .int .i64 i := (hS.2.2 14 (nofill (by kernel_rfl))).trans rfl
          have hf15 : av.eval (.tmp 15) = .int .i64 j := (hS.2.2 15 (nofill (by kernel_rfl))).trans rfl
          rcases q with _|_|_|_|_|_|_|_|_|_|_|_|_|_|_|q
          all_goals try (obtain rfl := Option.some.inj ho)
          · have e9 := gd hf9
            exact wpOp_value rfl rfl (v := .slice (some ⟨g, 0, none⟩) n dc) (w' := wv) (by simp [execOp, go_sem, e9]) (hK _ _ (fun h => by cases h) rfl fun _ _ _ _ h => h)
          · have e14 := gd hf14
            exact wpOp_value rfl rfl (v := .int .i64 i) (w' := wv) (by simp [execOp, go_sem, e14]) (hK _ _ (fun h => by cases h) rfl fun _ _ _ _ h => h)
          · have e9 := gd hf9
            exact wpOp_value rfl rfl (v := .slice (some ⟨g, 0, none⟩) n dc) (w' := wv) (by simp [execOp, go_sem, e9]) (hK _ _ (fun h => by cases h) rfl fun _ _ _ _ h => h)
          · have e15 := gd hf15
            exact wpOp_value rfl rfl (v := .int .i64 j) (w' := wv) (by simp [execOp, go_sem, e15]) (hK _ _ (fun h => by cases h) rfl fun _ _ _ _ h => h)
          · have e9 := gd hf9
            exact wpOp_value rfl rfl (v := .slice (some ⟨g, 0, none⟩) n dc) (w' := wv) (by simp [execOp, go_sem, e9]) (hK _ _ (fun h => by cases h) rfl fun _ _ _ _ h => h)
          · have e15 := gd hf15
            exact wpOp_value rfl rfl (v := .int .i64 j) (w' := wv) (by simp [execOp, go_sem, e15]) (hK _ _ (fun h => by cases h) rfl fun _ _ _ _ h => h)
          · have e107 := gd (t := 107) (H 4 (by kernel_rfl) (by kernel_rfl))
            have e108 := gd (t := 108) (H 5 (by kernel_rfl) (by kernel_rfl))
            exact wpOp_value rfl rfl (v := .pointer (some ⟨g, j, none⟩)) (w' := wv) (by simp [execOp, go_sem, e107, e108, b2, addr0]) (hK _ _ (fun h => by cases h) rfl fun _ _ _ _ h => h)
          · obtain ⟨r0, kg0⟩ : Rw2 base n g dc cs wv ∧ Kp [g] w13 wv := H 16 (by kernel_rfl) (by kernel_rfl)
            have e109 := gd (t := 109) (H 6 (by kernel_rfl) (by kernel_rfl))
            have hcz := (r0.at_ HZ.out hjn).1
            exact wpOp_value rfl rfl (v := .string z) (w' := wv) (by simp [execOp, go_sem, e109, hcz]) (hK _ _ (fun h => by cases h) rfl fun _ _ _ _ h => h)
          · have e9 := gd hf9
            exact wpOp_value rfl rfl (v := .slice (some ⟨g, 0, none⟩) n dc) (w' := wv) (by simp [execOp, go_sem, e9]) (hK _ _ (fun h => by cases h) rfl fun _ _ _ _ h => h)
          · have e14 := gd hf14
            exact wpOp_value rfl rfl (v := .int .i64 i) (w' := wv) (by simp [execOp, go_sem, e14]) (hK _ _ (fun h => by cases h) rfl fun _ _ _ _ h => h)
          · have e111 := gd (t := 111) (H 8 (by kernel_rfl) (by kernel_rfl))
            have e112 := gd (t := 112) (H 9 (by kernel_rfl) (by kernel_rfl))
            exact wpOp_value rfl rfl (v := .pointer (some ⟨g, i, none⟩)) (w' := wv) (by simp [execOp, go_sem, e111, e112, b1, addr0]) (hK _ _ (fun h => by cases h) rfl fun _ _ _ _ h => h)
          · obtain ⟨r0, kg0⟩ : Rw2 base n g dc cs wv ∧ Kp [g] w13 wv := H 16 (by kernel_rfl) (by kernel_rfl)
            have e113 := gd (t := 113) (H 10 (by kernel_rfl) (by kernel_rfl))
            have hcx := (r0.at_ HX.out hin).1
            exact wpOp_value rfl rfl (v := .string x) (w' := wv) (by simp [execOp, go_sem, e113, hcx]) (hK _ _ (fun h => by cases h) rfl fun _ _ _ _ h => h)
          · have e103 := gd (t := 103) (H 0 (by kernel_rfl) (by kernel_rfl))
            have e104 := gd (t := 104) (H 1 (by kernel_rfl) (by kernel_rfl))
            exact wpOp_value rfl rfl (v := .pointer (some ⟨g, i, none⟩)) (w' := wv) (by simp [execOp, go_sem, e103, e104, b1, addr0]) (hK _ _ (fun h => by cases h) rfl fun _ _ _ _ h => h)
          · obtain ⟨r0, kg0⟩ : Rw2 base n g dc cs wv ∧ Kp [g] w13 wv := H 16 (by kernel_rfl) (by kernel_rfl)
            have e115 := gd (t := 115) (H 12 (by kernel_rfl) (by kernel_rfl))
            have e110 := gd (t := 110) (H 7 (by kernel_rfl) (by kernel_rfl))
            obtain ⟨hcx, hfx⟩ := r0.at_ HX.out hin
            refine wpOp_skipped rfl rfl rfl (w' := wv.setCell ⟨g, i, none⟩ (.string z)) (by simp [execOp, go_sem, e115, e110, hcx, hfx]) ?_
            exact hK undef _ (fun _ => rfl) ⟨r0.set i z, kg0.set (by simp) _⟩ fun q u hq hD h => by
              rcases q with _|_|_|_|_|_|_|_|_|_|_|_|_|_|_|_|_|q
              all_goals first | exact h | exact absurd rfl hq | (simp at hD)
          · have e105 := gd (t := 105) (H 2 (by kernel_rfl) (by kernel_rfl))
            have e106 := gd (t := 106) (H 3 (by kernel_rfl) (by kernel_rfl))
            exact wpOp_value rfl rfl (v := .pointer (some ⟨g, j, none⟩)) (w' := wv) (by simp [execOp, go_sem, e105, e106, b2, addr0]) (hK _ _ (fun h => by cases h) rfl fun _ _ _ _ h => h)
          · simp at hqn; omega
        · intro av wv hS H
          obtain ⟨r1, kg1⟩ : Rw2 base n g dc (cs.set i z) wv ∧ Kp [g] w13 wv := H 13 (by decide) (by kernel_rfl)
          have e116 := gd (t := 116) (H 14 (by decide) (by kernel_rfl))
          have e114 := gd (t := 114) (H 11 (by decide) (by kernel_rfl))
          obtain ⟨u, hu⟩ : ∃ u, (cs.set i z)[j]? = some u := ⟨_, List.getElem?_eq_getElem (by rw [List.length_set, HCL.out]; exact hjn)⟩
          obtain ⟨hcu, hfu⟩ := r1.at_ hu hjn
          have r2 := r1.set j x
          have kg2 : Kp [g] w13 (wv.setCell ⟨g, j, none⟩ (.string x)) := kg1.set (by simp) _
          refine wpOp_skipped rfl rfl rfl (w' := wv.setCell ⟨g, j, none⟩ (.string x)) (by simp [execOp, go_sem, e116, e114, hcu, hfu]) ?_
          rw [same_fold hS [103, 104, 105, 106, 107, 108, 109, 110, 111, 112, 113, 114, 115, 116] (by kernel_rfl) (by kernel_rfl)]
          simp only [List.foldl]
          simp only [Act.put, List.setIfInBounds_toArray, List.set_cons_succ, List.set_cons_zero]
          generalize av.tmps.getD 103 undef = v103
          generalize av.tmps.getD 104 undef = v104
          generalize av.tmps.getD 105 undef = v105
          generalize av.tmps.getD 106 undef = v106
          generalize av.tmps.getD 107 undef = v107
          generalize av.tmps.getD 108 undef = v108
          generalize av.tmps.getD 109 undef = v109
          generalize av.tmps.getD 110 undef = v110
          generalize av.tmps.getD 111 undef = v111
          generalize av.tmps.getD 112 undef = v112
          generalize av.tmps.getD 113 undef = v113
          generalize av.tmps.getD 114 undef = v114
          generalize av.tmps.getD 115 undef = v115
          generalize av.tmps.getD 116 undef = v116
          generalize wv.setCell ⟨g, j, none⟩ (.string x) = w14 at *
          obtain ⟨cse, hcse⟩ : ∃ cse, swapped cs i j x z = cse := ⟨_, rfl⟩
          have hij : i ≠ j := fun h => hxz (by have h3 := HX.out; have h4 := HZ.out; rw [h] at h3; rw [h3] at h4; injection h4)
          have HCE : Hid (∀ x ∈ cse, x.size ≤ 64) := Lib.hid (by rw [← hcse]; exact fun c hc => HC64.out c (swapped_mem HX.out HZ.out c hc))
          have HCEL : Hid (cse.length = n) := Lib.hid (by rw [← hcse, swapped_len]; exact HCL.out)
          have O14 : Rw2 base n g dc cse w14 := by rw [← hcse]; exact r2
          have a14 := aw.kp kg2 (by simp; exact hg1g)
          have L14 := Ls_.kp kg2 (fun hn0 ad had => by have := Ls_.off hn0 ad had; simp; exact hoffA hn0 ad had)
          have hk014 : Kp [] w w14 := hk0s.then kg2 (by simp; omega)
          have HBAD : Hid (bld s.size hm cse = (⟨#[]⟩, 101)) := Lib.hid (by
            refine bld_bad HRT.out (by rw [HCEL.out, HN.out]) (bld_at (k := i) (x := dgs x) (by rw [← hcse]; exact swapped_at HX.out hij) (by rw [← HCM.out, List.getElem?_map, HX.out]; rfl) fun h => hxz ?_)
            exact (HINJ.out z (List.mem_of_getElem? HZ.out) x (List.mem_of_getElem? HX.out) h).symm)
          have HF1 : Hid (∀ x ∈ cse, x.size ≤ maxLen) := Lib.hid fun x hx => by have := HCE.out x hx; unfold maxLen; omega
          have HF2 : Hid ((flat cse).length ≤ 1000000000) := Lib.hid (by
            have h3 := flat_bound (n := 64) cse HCE.out
            rw [HCEL.out] at h3
            omega)
          have c0 : w14.cell? ⟨g1, 0, none⟩ = some (.int .i64 s.size) := a14.cell 0
          have c1 : w14.cell? ⟨g1, 1, none⟩ = some (.slice A n c) := a14.cell 1
          clear hS H r1 r2 kg1 kg2 hcse hu hcu hfu e116 e114 aw Ls_ Os hk0s
          go_wp2_with fail
          refine (build_to s.size A (some ⟨g, 0, none⟩) n c n dc hm cse ⟨#[]⟩ 101 _ HBAD.out (ht.kp hk014 (by simp)) L14 (Ls.of_own O14) (by omega) (by omega) hndc HF1.out HF2.out (fun _ => .inr ⟨_, rfl⟩) (by omega) (by omega)).mono ?_
          rintro e we ⟨rfl, hk15⟩
          have ae := a14.kp hk15 (by simp)
          have Le := L14.kp hk15 (by simp)
          have Oe : Rw2 base n g dc cse we := own_kp O14 hk15 (by simp)
          have hk0e := hk014.trans hk15
          clear c0 c1 a14 L14 O14 hk014 hk15
          have hte := ht.kp hk0e (by simp)
          have e0 : we.cell? ⟨g1, 0, none⟩ = some (.int .i64 s.size) := ae.cell 0
          have e1 : we.cell? ⟨g1, 1, none⟩ = some (.slice A n c) := ae.cell 1
          obtain ⟨Bt, hsl0, hBt⟩ := back_str (k := 1) (c := dc) (Ls.of_own Oe) (by omega) hndc
          have hsl : ∀ w', (Instr.sliceAt 23 (.slice (some ⟨g, 0, none⟩) n dc) (some (.int .i64 1)) none none).run Tryd.prog w' = .ok (.slice Bt (n - 1) (dc - 1)) w' := hsl0
          have HARG : Hid (bld s.size hm (cse.drop 1) = (⟨#[]⟩, 1)) := Lib.hid (bld_arg HRT.out (by rw [List.length_drop, HCEL.out, HN.out]; omega))
          have HD1 : Hid (∀ x ∈ cse.drop 1, x.size ≤ maxLen) := Lib.hid fun x hx => by have := HCE.out x (List.mem_of_mem_drop hx); unfold maxLen; omega
          have HD2 : Hid ((flat (cse.drop 1)).length ≤ 1000000000) := Lib.hid (by
            have h3 := flat_bound (n := 64) (cse.drop 1) fun x hx => HCE.out x (List.mem_of_mem_drop hx)
            rw [List.length_drop, HCEL.out] at h3
            omega)
          clear hsl0 Oe ae
          go_wp2_with fail
          refine region_inv2' (fun q v w' => match q with
            | 0 => v = .agg #[.int .i64 s.size, .slice A n c]
            | 1 => v = .slice (some ⟨g, 0, none⟩) n dc
            | 2 => v = .slice Bt (n - 1) (dc - 1)
            | 3 => v = .tuple #[.string ⟨#[]⟩, .int .i64 1]
            | 4 => v = .tuple #[.string ⟨#[]⟩, .int .i64 1]
            | 5 => v = .string ⟨#[]⟩
            | 6 => v = .int .i64 1
            | 7 => v = .string ⟨#[]⟩
            | _ => v = .int .i64 1) (by kernel_rfl) _ rfl (by kernel_rfl) (by kernel_rfl) (by kernel_rfl) ?_ ?_ ?_
          · intro q v w1 w2 hF hK
            rcases q with _|_|_|_|_|_|_|_|q
            all_goals exact hF
          · intro q o ho av wv K hS hk H hK
            have hf7 : av.eval (.tmp 7) = .pointer (some ⟨g1, 0, none⟩) := (hS.2.2 7 (nofill (by kernel_rfl))).trans rfl
            have hf9 : av.eval (.tmp 9) = .slice (some ⟨g, 0, none⟩) n dc := (hS.2.2 9 (nofill (by kernel_rfl))).trans rfl
            have s0 := cell_kp e0 hk (by simp)
            have s1 := cell_kp e1 hk (by simp)
            rcases q with _|_|_|_|_|_|_|_|_|q
            all_goals try (obtain rfl := Option.some.inj ho)
            · have e7 := gd hf7
              exact wpOp_value rfl rfl (v := .agg #[.int .i64 s.size, .slice A n c]) (w' := wv) (by simp [execOp, go_sem, e7, s0, s1]) (hK _ _ (Kp.rfl_ _ _) rfl)
            · have e9 := gd hf9
              exact wpOp_value rfl rfl (v := .slice (some ⟨g, 0, none⟩) n dc) (w' := wv) (by simp [execOp, go_sem, e9]) (hK _ _ (Kp.rfl_ _ _) rfl)
            · have e127 := gd (H 1 127 (by kernel_rfl) rfl)
              exact wpOp_value rfl rfl (v := .slice Bt (n - 1) (dc - 1)) (w' := wv) (by simp [execOp, go_sem, e127, hsl]) (hK _ _ (Kp.rfl_ _ _) rfl)
            · have e126 := gd (H 0 126 (by kernel_rfl) rfl)
              have e128 := gd (H 2 128 (by kernel_rfl) rfl)
              refine wpOp_call rfl rfl (f := 14) (args := #[.agg #[.int .i64 s.size, .slice A n c], .slice Bt (n - 1) (dc - 1)]) (w1 := wv) (by simp [execOp, go_sem, e126, e128]) ?_
              refine (build_to s.size A Bt n c (n - 1) (dc - 1) hm (cse.drop 1) ⟨#[]⟩ 1 wv HARG.out (hte.kp hk (by simp)) (Le.kp hk (by simp)) (by rw [List.map_drop]; exact hBt.kp hk (by simp)) (by omega) (by omega) (by omega) HD1.out HD2.out (fun h => by omega) (by omega) (by omega)).mono ?_
              rintro e w8 ⟨rfl, k8⟩
              exact ⟨_, rfl, hK _ _ k8 rfl⟩
            · have e129 := gd (H 3 129 (by kernel_rfl) rfl)
              exact wpOp_value rfl rfl (v := .tuple #[.string ⟨#[]⟩, .int .i64 1]) (w' := wv) (by simp [execOp, go_sem, e129]) (hK _ _ (Kp.rfl_ _ _) rfl)
            · have e125 := gd (H 4 125 (by kernel_rfl) rfl)
              exact wpOp_value rfl rfl (v := .string ⟨#[]⟩) (w' := wv) (by simp [execOp, go_sem, e125]) (hK _ _ (Kp.rfl_ _ _) rfl)
            · have e125 := gd (H 4 125 (by kernel_rfl) rfl)
              exact wpOp_value rfl rfl (v := .int .i64 1) (w' := wv) (by simp [execOp, go_sem, e125]) (hK _ _ (Kp.rfl_ _ _) rfl)
            · have e130 := gd (H 5 130 (by kernel_rfl) rfl)
              exact wpOp_value rfl rfl (v := .string ⟨#[]⟩) (w' := wv) (by simp [execOp, go_sem, e130]) (hK _ _ (Kp.rfl_ _ _) rfl)
            · have e131 := gd (H 6 131 (by kernel_rfl) rfl)
              exact wpOp_value rfl rfl (v := .int .i64 1) (w' := wv) (by simp [execOp, go_sem, e131]) (hK _ _ (Kp.rfl_ _ _) rfl)
            · simp at ho
          · intro av wv hS hk H
            have h18 : av.tmps.getD 18 undef = .string ⟨#[]⟩ := H 7 18 rfl
            have h19 : av.tmps.getD 19 undef = .int .i64 1 := H 8 19 rfl
            rw [same_fold hS [126, 127, 128, 129, 125, 130, 131, 18, 19] (by kernel_rfl) (by kernel_rfl)]
            simp only [List.foldl]
            rw [h18, h19]
            simp only [Act.put, List.setIfInBounds_toArray, List.set_cons_succ, List.set_cons_zero]
            generalize av.tmps.getD 125 undef = v125
            generalize av.tmps.getD 126 undef = v126
            generalize av.tmps.getD 127 undef = v127
            generalize av.tmps.getD 128 undef = v128
            generalize av.tmps.getD 129 undef = v129
            generalize av.tmps.getD 130 undef = v130
            generalize av.tmps.getD 131 undef = v131
            have hkv := hk0e.trans hk
            clear hS H e0 e1 hsl
            go_wp2_with fail
            go_ret
            exact ⟨rfl, hkv⟩
  · have hj0 : (j : Int) = 0 := by
      have h3 := HJ.out
      rw [hy] at h3
      rw [← h3, show IntKind.u64.wrap (((0 : UInt8).toNat : Nat) : Int) = 0 from rfl, Int.zero_tmod]
      exact IntWalk.wrap64_in 0 ⟨by omega, by omega⟩
    have hv0 : Value.int .i64 (0 : Int) = Value.int .i64 (j : Int) := by rw [hj0]
    have HV0 := Lib.hid hv0
    have hy0 : (y.toNat : Int) = 0 := by rw [hy]; rfl
    clear hj0 hv0
    obtain ⟨wr, hwr⟩ : ∃ wr, w4 = wr := ⟨_, rfl⟩
    rw [hwr] at a4 L4 O4 hk04 hlg
    rw [hwr]
    clear hwr hk
    have ar := a4
    have Lr := L4
    have Or := O4
    have hk0r := hk04
    clear a4 L4 O4 hk04
    obtain ⟨-, -⟩ := And.intro trivial trivial
    have hkr : g < wr.heap.size := hlg
    go_wp2_with fail
    refine (clash_any (some ⟨g, 0, none⟩) n dc cs _ (Ls.of_own Or) (by omega) (fun x hx => by have := HC64.out x hx; omega)).mono ?_
    rintro e w11 ⟨bc, rfl, hk11, hinj⟩
    have hk0s := hk0r.trans hk11
    have aw := ar.kp hk11 (by simp)
    have Ls_ := Lr.kp hk11 (by simp)
    have Os : Rw2 base n g dc cs w11 := own_kp Or hk11 (by simp)
    clear hk0r hk11 ar Lr Or
    cases bc
    rotate_left
    · clear hinj
      go_wp2_with fail
      go_ret
      exact ⟨rfl, hk0s⟩
    have HINJ := Lib.hid (hinj rfl)
    clear hinj
    have hiI := HI.out
    have hjI := HJ.out
    go_wp2_with fail
    go_quiet (fail)
    have aw := aw.drewN nq
    have Ls_ : Ls (w11.drewN nq) A n (hm.map Value.string) := Ls_
    have Os : Rw2 base n g dc cs (w11.drewN nq) := Os
    have hk0s := hk0s.drewN nq
    generalize w11.drewN nq = w12 at *
    clear hiI hjI
    rw [HV0.out, HI.out]
    clear HV0 hy0
    obtain ⟨x, hx⟩ : ∃ x, cs[i]? = some x := ⟨_, List.getElem?_eq_getElem (by have := HCL.out; omega)⟩
    obtain ⟨z, hz⟩ : ∃ z, cs[j]? = some z := ⟨_, List.getElem?_eq_getElem (by have := HCL.out; omega)⟩
    obtain ⟨ci, fi⟩ := Os.at_ hx hin
    obtain ⟨cj, fj⟩ := Os.at_ hz hjn
    have HX := Lib.hid hx
    have HZ := Lib.hid hz
    have b1 : (i : Int) < (n : Int) := by omega
    have b2 : (j : Int) < (n : Int) := by omega
    have b3 : (0 : Int) ≤ (i : Int) := by omega
    have b4 : (0 : Int) ≤ (j : Int) := by omega
    clear hx hz
    by_cases hxz : x = z
    · subst hxz
      go_wp2_with fail
      go_quiet (fail)
      have ae := aw.drewN nq
      have Le : Ls (w12.drewN nq) A n (hm.map Value.string) := Ls_
      have Oe : Rw2 base n g dc cs (w12.drewN nq) := Os
      have hk0e := hk0s.drewN nq
      clear ci cj fi fj b1 b2 b3 b4 aw Ls_ Os hk0s
      generalize w12.drewN nq = we at *
      obtain ⟨cse, hcse⟩ : ∃ cse, cs = cse := ⟨_, rfl⟩
      rw [hcse] at Oe
      have HCE : Hid (∀ x ∈ cse, x.size ≤ 64) := Lib.hid (by rw [← hcse]; exact HC64.out)
      have HCEL : Hid (cse.length = n) := Lib.hid (by rw [← hcse]; exact HCL.out)
      clear hcse
      have hte := ht.kp hk0e (by simp)
      have e0 : we.cell? ⟨g1, 0, none⟩ = some (.int .i64 s.size) := ae.cell 0
      have e1 : we.cell? ⟨g1, 1, none⟩ = some (.slice A n c) := ae.cell 1
      obtain ⟨Bt, hsl0, hBt⟩ := back_str (k := 1) (c := dc) (Ls.of_own Oe) (by omega) hndc
      have hsl : ∀ w', (Instr.sliceAt 23 (.slice (some ⟨g, 0, none⟩) n dc) (some (.int .i64 1)) none none).run Tryd.prog w' = .ok (.slice Bt (n - 1) (dc - 1)) w' := hsl0
      have HARG : Hid (bld s.size hm (cse.drop 1) = (⟨#[]⟩, 1)) := Lib.hid (bld_arg HRT.out (by rw [List.length_drop, HCEL.out, HN.out]; omega))
      have HD1 : Hid (∀ x ∈ cse.drop 1, x.size ≤ maxLen) := Lib.hid fun x hx => by have := HCE.out x (List.mem_of_mem_drop hx); unfold maxLen; omega
      have HD2 : Hid ((flat (cse.drop 1)).length ≤ 1000000000) := Lib.hid (by
        have h3 := flat_bound (n := 64) (cse.drop 1) fun x hx => HCE.out x (List.mem_of_mem_drop hx)
        rw [List.length_drop, HCEL.out] at h3
        omega)
      clear hsl0 Oe ae
      go_wp2_with fail
      refine region_inv2' (fun q v w' => match q with
        | 0 => v = .agg #[.int .i64 s.size, .slice A n c]
        | 1 => v = .slice (some ⟨g, 0, none⟩) n dc
        | 2 => v = .slice Bt (n - 1) (dc - 1)
        | 3 => v = .tuple #[.string ⟨#[]⟩, .int .i64 1]
        | 4 => v = .tuple #[.string ⟨#[]⟩, .int .i64 1]
        | 5 => v = .string ⟨#[]⟩
        | 6 => v = .int .i64 1
        | 7 => v = .string ⟨#[]⟩
        | _ => v = .int .i64 1) (by kernel_rfl) _ rfl (by kernel_rfl) (by kernel_rfl) (by kernel_rfl) ?_ ?_ ?_
      · intro q v w1 w2 hF hK
        rcases q with _|_|_|_|_|_|_|_|q
        all_goals exact hF
      · intro q o ho av wv K hS hk H hK
        have hf7 : av.eval (.tmp 7) = .pointer (some ⟨g1, 0, none⟩) := (hS.2.2 7 (nofill (by kernel_rfl))).trans rfl
        have hf9 : av.eval (.tmp 9) = .slice (some ⟨g, 0, none⟩) n dc := (hS.2.2 9 (nofill (by kernel_rfl))).trans rfl
        have s0 := cell_kp e0 hk (by simp)
        have s1 := cell_kp e1 hk (by simp)
        rcases q with _|_|_|_|_|_|_|_|_|q
        all_goals try (obtain rfl := Option.some.inj ho)
        · have e7 := gd hf7
          exact wpOp_value rfl rfl (v := .agg #[.int .i64 s.size, .slice A n c]) (w' := wv) (by simp [execOp, go_sem, e7, s0, s1]) (hK _ _ (Kp.rfl_ _ _) rfl)
        · have e9 := gd hf9
          exact wpOp_value rfl rfl (v := .slice (some ⟨g, 0, none⟩) n dc) (w' := wv) (by simp [execOp, go_sem, e9]) (hK _ _ (Kp.rfl_ _ _) rfl)
        · have e127 := gd (H 1 127 (by kernel_rfl) rfl)
          exact wpOp_value rfl rfl (v := .slice Bt (n - 1) (dc - 1)) (w' := wv) (by simp [execOp, go_sem, e127, hsl]) (hK _ _ (Kp.rfl_ _ _) rfl)
        · have e126 := gd (H 0 126 (by kernel_rfl) rfl)
          have e128 := gd (H 2 128 (by kernel_rfl) rfl)
          refine wpOp_call rfl rfl (f := 14) (args := #[.agg #[.int .i64 s.size, .slice A n c], .slice Bt (n - 1) (dc - 1)]) (w1 := wv) (by simp [execOp, go_sem, e126, e128]) ?_
          refine (build_to s.size A Bt n c (n - 1) (dc - 1) hm (cse.drop 1) ⟨#[]⟩ 1 wv HARG.out (hte.kp hk (by simp)) (Le.kp hk (by simp)) (by rw [List.map_drop]; exact hBt.kp hk (by simp)) (by omega) (by omega) (by omega) HD1.out HD2.out (fun h => by omega) (by omega) (by omega)).mono ?_
          rintro e w8 ⟨rfl, k8⟩
          exact ⟨_, rfl, hK _ _ k8 rfl⟩
        · have e129 := gd (H 3 129 (by kernel_rfl) rfl)
          exact wpOp_value rfl rfl (v := .tuple #[.string ⟨#[]⟩, .int .i64 1]) (w' := wv) (by simp [execOp, go_sem, e129]) (hK _ _ (Kp.rfl_ _ _) rfl)
        · have e125 := gd (H 4 125 (by kernel_rfl) rfl)
          exact wpOp_value rfl rfl (v := .string ⟨#[]⟩) (w' := wv) (by simp [execOp, go_sem, e125]) (hK _ _ (Kp.rfl_ _ _) rfl)
        · have e125 := gd (H 4 125 (by kernel_rfl) rfl)
          exact wpOp_value rfl rfl (v := .int .i64 1) (w' := wv) (by simp [execOp, go_sem, e125]) (hK _ _ (Kp.rfl_ _ _) rfl)
        · have e130 := gd (H 5 130 (by kernel_rfl) rfl)
          exact wpOp_value rfl rfl (v := .string ⟨#[]⟩) (w' := wv) (by simp [execOp, go_sem, e130]) (hK _ _ (Kp.rfl_ _ _) rfl)
        · have e131 := gd (H 6 131 (by kernel_rfl) rfl)
          exact wpOp_value rfl rfl (v := .int .i64 1) (w' := wv) (by simp [execOp, go_sem, e131]) (hK _ _ (Kp.rfl_ _ _) rfl)
        · simp at ho
      · intro av wv hS hk H
        have h18 : av.tmps.getD 18 undef = .string ⟨#[]⟩ := H 7 18 rfl
        have h19 : av.tmps.getD 19 undef = .int .i64 1 := H 8 19 rfl
        rw [same_fold hS [126, 127, 128, 129, 125, 130, 131, 18, 19] (by kernel_rfl) (by kernel_rfl)]
        simp only [List.foldl]
        rw [h18, h19]
        simp only [Act.put, List.setIfInBounds_toArray, List.set_cons_succ, List.set_cons_zero]
        generalize av.tmps.getD 125 undef = v125
        generalize av.tmps.getD 126 undef = v126
        generalize av.tmps.getD 127 undef = v127
        generalize av.tmps.getD 128 undef = v128
        generalize av.tmps.getD 129 undef = v129
        generalize av.tmps.getD 130 undef = v130
        generalize av.tmps.getD 131 undef = v131
        have hkv := hk0e.trans hk
        clear hS H e0 e1 hsl
        go_wp2_with fail
        go_ret
        exact ⟨rfl, hkv⟩
    · have hne := toList_ne hxz
      go_wp2_with fail
      go_quiet (fail)
      have aw := aw.drewN nq
      have Ls_ : Ls (w12.drewN nq) A n (hm.map Value.string) := Ls_
      have Os : Rw2 base n g dc cs (w12.drewN nq) := Os
      have hk0s := hk0s.drewN nq
      clear ci cj fi fj hne
      generalize w12.drewN nq = w13 at *
      go_wp2_with fail
      refine region_gen2 (SwF w13 base n g dc i j cs x z) (fun a b => a == 13 && b == 16) (by kernel_rfl) _ rfl (by kernel_rfl) (by kernel_rfl) (by kernel_rfl) (by kernel_rfl) ?_ ?_ ?_
      · intro q hq
        rcases q with _|_|_|_|_|_|_|_|_|_|_|_|_|_|_|_|_|q
        all_goals first
          | exact ⟨Os, (Kp.rfl_ _ _).drew⟩
          | exact trivial
          | exact absurd hq (by decide)
      · intro q o hqn ho av wv K hS H hK
        have hf9 : av.eval (.tmp 9) = .slice (some ⟨g, 0, none⟩) n dc := (hS.2.2 9 (nofill (by kernel_rfl))).trans rfl
        have hf14 : av.eval (.tmp 14) = .int .i64 i := (hS.2.2 14 (nofill (by kernel_rfl))).trans rfl
        have hf15 : av.eval (.tmp 15) = .int .i64 j := (hS.2.2 15 (nofill (by kernel_rfl))).trans rfl
        rcases q with _|_|_|_|_|_|_|_|_|_|_|_|_|_|_|q
        all_goals try (obtain rfl := Option.some.inj ho)
        · have e9 := gd hf9
          exact wpOp_value rfl rfl (v := .slice (some ⟨g, 0, none⟩) n dc) (w' := wv) (by simp [execOp, go_sem, e9]) (hK _ _ (fun h => by cases h) rfl fun _ _ _ _ h => h)
        · have e14 := gd hf14
          exact wpOp_value rfl rfl (v := .int .i64 i) (w' := wv) (by simp [execOp, go_sem, e14]) (hK _ _ (fun h => by cases h) rfl fun _ _ _ _ h => h)
        · have e9 := gd hf9
          exact wpOp_value rfl rfl (v := .slice (some ⟨g, 0, none⟩) n dc) (w' := wv) (by simp [execOp, go_sem, e9]) (hK _ _ (fun h => by cases h) rfl fun _ _ _ _ h => h)
        · have e15 := gd hf15
          exact wpOp_value rfl rfl (v := .int .i64 j) (w' := wv) (by simp [execOp, go_sem, e15]) (hK _ _ (fun h => by cases h) rfl fun _ _ _ _ h => h)
        · have e9 := gd hf9
          exact wpOp_value rfl rfl (v := .slice (some ⟨g, 0, none⟩) n dc) (w' := wv) (by simp [execOp, go_sem, e9]) (hK _ _ (fun h => by cases h) rfl fun _ _ _ _ h => h)
        · have e15 := gd hf15
          exact wpOp_value rfl rfl (v := .int .i64 j) (w' := wv) (by simp [execOp, go_sem, e15]) (hK _ _ (fun h => by cases h) rfl fun _ _ _ _ h => h)
        · have e107 := gd (t := 107) (H 4 (by kernel_rfl) (by kernel_rfl))
          have e108 := gd (t := 108) (H 5 (by kernel_rfl) (by kernel_rfl))
          exact wpOp_value rfl rfl (v := .pointer (some ⟨g, j, none⟩)) (w' := wv) (by simp [execOp, go_sem, e107, e108, b2, addr0]) (hK _ _ (fun h => by cases h) rfl fun _ _ _ _ h => h)
        · obtain ⟨r0, kg0⟩ : Rw2 base n g dc cs wv ∧ Kp [g] w13 wv := H 16 (by kernel_rfl) (by kernel_rfl)
          have e109 := gd (t := 109) (H 6 (by kernel_rfl) (by kernel_rfl))
          have hcz := (r0.at_ HZ.out hjn).1
          exact wpOp_value rfl rfl (v := .string z) (w' := wv) (by simp [execOp, go_sem, e109, hcz]) (hK _ _ (fun h => by cases h) rfl fun _ _ _ _ h => h)
        · have e9 := gd hf9
          exact wpOp_value rfl rfl (v := .slice (some ⟨g, 0, none⟩) n dc) (w' := wv) (by simp [execOp, go_sem, e9]) (hK _ _ (fun h => by cases h) rfl fun _ _ _ _ h => h)
        · have e14 := gd hf14
          exact wpOp_value rfl rfl (v := .int .i64 i) (w' := wv) (by simp [execOp, go_sem, e14]) (hK _ _ (fun h => by cases h) rfl fun _ _ _ _ h => h)
        · have e111 := gd (t := 111) (H 8 (by kernel_rfl) (by kernel_rfl))
          have e112 := gd (t := 112) (H 9 (by kernel_rfl) (by kernel_rfl))
          exact wpOp_value rfl rfl (v := .pointer (some ⟨g, i, none⟩)) (w' := wv) (by simp [execOp, go_sem, e111, e112, b1, addr0]) (hK _ _ (fun h => by cases h) rfl fun _ _ _ _ h => h)
        · obtain ⟨r0, kg0⟩ : Rw2 base n g dc cs wv ∧ Kp [g] w13 wv := H 16 (by kernel_rfl) (by kernel_rfl)
          have e113 := gd (t := 113) (H 10 (by kernel_rfl) (by kernel_rfl))
          have hcx := (r0.at_ HX.out hin).1
          exact wpOp_value rfl rfl (v := .string x) (w' := wv) (by simp [execOp, go_sem, e113, hcx]) (hK _ _ (fun h => by cases h) rfl fun _ _ _ _ h => h)
        · have e103 := gd (t := 103) (H 0 (by kernel_rfl) (by kernel_rfl))
          have e104 := gd (t := 104) (H 1 (by kernel_rfl) (by kernel_rfl))
          exact wpOp_value rfl rfl (v := .pointer (some ⟨g, i, none⟩)) (w' := wv) (by simp [execOp, go_sem, e103, e104, b1, addr0]) (hK _ _ (fun h => by cases h) rfl fun _ _ _ _ h => h)
        · obtain ⟨r0, kg0⟩ : Rw2 base n g dc cs wv ∧ Kp [g] w13 wv := H 16 (by kernel_rfl) (by kernel_rfl)
          have e115 := gd (t := 115) (H 12 (by kernel_rfl) (by kernel_rfl))
          have e110 := gd (t := 110) (H 7 (by kernel_rfl) (by kernel_rfl))
          obtain ⟨hcx, hfx⟩ := r0.at_ HX.out hin
          refine wpOp_skipped rfl rfl rfl (w' := wv.setCell ⟨g, i, none⟩ (.string z)) (by simp [execOp, go_sem, e115, e110, hcx, hfx]) ?_
          exact hK undef _ (fun _ => rfl) ⟨r0.set i z, kg0.set (by simp) _⟩ fun q u hq hD h => by
            rcases q with _|_|_|_|_|_|_|_|_|_|_|_|_|_|_|_|_|q
            all_goals first | exact h | exact absurd rfl hq | (simp at hD)
        · have e105 := gd (t := 105) (H 2 (by kernel_rfl) (by kernel_rfl))
          have e106 := gd (t := 106) (H 3 (by kernel_rfl) (by kernel_rfl))
          exact wpOp_value rfl rfl (v := .pointer (some ⟨g, j, none⟩)) (w' := wv) (by simp [execOp, go_sem, e105, e106, b2, addr0]) (hK _ _ (fun h => by cases h) rfl fun _ _ _ _ h => h)
        · simp at hqn; omega
      · intro av wv hS H
        obtain ⟨r1, kg1⟩ : Rw2 base n g dc (cs.set i z) wv ∧ Kp [g] w13 wv := H 13 (by decide) (by kernel_rfl)
        have e116 := gd (t := 116) (H 14 (by decide) (by kernel_rfl))
        have e114 := gd (t := 114) (H 11 (by decide) (by kernel_rfl))
        obtain ⟨u, hu⟩ : ∃ u, (cs.set i z)[j]? = some u := ⟨_, List.getElem?_eq_getElem (by rw [List.length_set, HCL.out]; exact hjn)⟩
        obtain ⟨hcu, hfu⟩ := r1.at_ hu hjn
        have r2 := r1.set j x
        have kg2 : Kp [g] w13 (wv.setCell ⟨g, j, none⟩ (.string x)) := kg1.set (by simp) _
        refine wpOp_skipped rfl rfl rfl (w' := wv.setCell ⟨g, j, none⟩ (.string x)) (by simp [execOp, go_sem, e116, e114, hcu, hfu]) ?_
        rw [same_fold hS [103, 104, 105, 106, 107, 108, 109, 110, 111, 112, 113, 114, 115, 116] (by kernel_rfl) (by kernel_rfl)]
        simp only [List.foldl]
        simp only [Act.put, List.setIfInBounds_toArray, List.set_cons_succ, List.set_cons_zero]
        generalize av.tmps.getD 103 undef = v103
        generalize av.tmps.getD 104 undef = v104
        generalize av.tmps.getD 105 undef = v105
        generalize av.tmps.getD 106 undef = v106
        generalize av.tmps.getD 107 undef = v107
        generalize av.tmps.getD 108 undef = v108
        generalize av.tmps.getD 109 undef = v109
        generalize av.tmps.getD 110 undef = v110
        generalize av.tmps.getD 111 undef = v111
        generalize av.tmps.getD 112 undef = v112
        generalize av.tmps.getD 113 undef = v113
        generalize av.tmps.getD 114 undef = v114
        generalize av.tmps.getD 115 undef = v115
        generalize av.tmps.getD 116 undef = v116
        generalize wv.setCell ⟨g, j, none⟩ (.string x) = w14 at *
        obtain ⟨cse, hcse⟩ : ∃ cse, swapped cs i j x z = cse := ⟨_, rfl⟩
        have hij : i ≠ j := fun h => hxz (by have h3 := HX.out; have h4 := HZ.out; rw [h] at h3; rw [h3] at h4; injection h4)
        have HCE : Hid (∀ x ∈ cse, x.size ≤ 64) := Lib.hid (by rw [← hcse]; exact fun c hc => HC64.out c (swapped_mem HX.out HZ.out c hc))
        have HCEL : Hid (cse.length = n) := Lib.hid (by rw [← hcse, swapped_len]; exact HCL.out)
        have O14 : Rw2 base n g dc cse w14 := by rw [← hcse]; exact r2
        have a14 := aw.kp kg2 (by simp; exact hg1g)
        have L14 := Ls_.kp kg2 (fun hn0 ad had => by have := Ls_.off hn0 ad had; simp; exact hoffA hn0 ad had)
        have hk014 : Kp [] w w14 := hk0s.then kg2 (by simp; omega)
        have HBAD : Hid (bld s.size hm cse = (⟨#[]⟩, 101)) := Lib.hid (by
          refine bld_bad HRT.out (by rw [HCEL.out, HN.out]) (bld_at (k := i) (x := dgs x) (by rw [← hcse]; exact swapped_at HX.out hij) (by rw [← HCM.out, List.getElem?_map, HX.out]; rfl) fun h => hxz ?_)
          exact (HINJ.out z (List.mem_of_getElem? HZ.out) x (List.mem_of_getElem? HX.out) h).symm)
        have HF1 : Hid (∀ x ∈ cse, x.size ≤ maxLen) := Lib.hid fun x hx => by have := HCE.out x hx; unfold maxLen; omega
        have HF2 : Hid ((flat cse).length ≤ 1000000000) := Lib.hid (by
          have h3 := flat_bound (n := 64) cse HCE.out
          rw [HCEL.out] at h3
          omega)
        have c0 : w14.cell? ⟨g1, 0, none⟩ = some (.int .i64 s.size) := a14.cell 0
        have c1 : w14.cell? ⟨g1, 1, none⟩ = some (.slice A n c) := a14.cell 1
        clear hS H r1 r2 kg1 kg2 hcse hu hcu hfu e116 e114 aw Ls_ Os hk0s
        go_wp2_with fail
        refine (build_to s.size A (some ⟨g, 0, none⟩) n c n dc hm cse ⟨#[]⟩ 101 _ HBAD.out (ht.kp hk014 (by simp)) L14 (Ls.of_own O14) (by omega) (by omega) hndc HF1.out HF2.out (fun _ => .inr ⟨_, rfl⟩) (by omega) (by omega)).mono ?_
        rintro e we ⟨rfl, hk15⟩
        have ae := a14.kp hk15 (by simp)
        have Le := L14.kp hk15 (by simp)
        have Oe : Rw2 base n g dc cse we := own_kp O14 hk15 (by simp)
        have hk0e := hk014.trans hk15
        clear c0 c1 a14 L14 O14 hk014 hk15
        have hte := ht.kp hk0e (by simp)
        have e0 : we.cell? ⟨g1, 0, none⟩ = some (.int .i64 s.size) := ae.cell 0
        have e1 : we.cell? ⟨g1, 1, none⟩ = some (.slice A n c) := ae.cell 1
        obtain ⟨Bt, hsl0, hBt⟩ := back_str (k := 1) (c := dc) (Ls.of_own Oe) (by omega) hndc
        have hsl : ∀ w', (Instr.sliceAt 23 (.slice (some ⟨g, 0, none⟩) n dc) (some (.int .i64 1)) none none).run Tryd.prog w' = .ok (.slice Bt (n - 1) (dc - 1)) w' := hsl0
        have HARG : Hid (bld s.size hm (cse.drop 1) = (⟨#[]⟩, 1)) := Lib.hid (bld_arg HRT.out (by rw [List.length_drop, HCEL.out, HN.out]; omega))
        have HD1 : Hid (∀ x ∈ cse.drop 1, x.size ≤ maxLen) := Lib.hid fun x hx => by have := HCE.out x (List.mem_of_mem_drop hx); unfold maxLen; omega
        have HD2 : Hid ((flat (cse.drop 1)).length ≤ 1000000000) := Lib.hid (by
          have h3 := flat_bound (n := 64) (cse.drop 1) fun x hx => HCE.out x (List.mem_of_mem_drop hx)
          rw [List.length_drop, HCEL.out] at h3
          omega)
        clear hsl0 Oe ae
        go_wp2_with fail
        refine region_inv2' (fun q v w' => match q with
          | 0 => v = .agg #[.int .i64 s.size, .slice A n c]
          | 1 => v = .slice (some ⟨g, 0, none⟩) n dc
          | 2 => v = .slice Bt (n - 1) (dc - 1)
          | 3 => v = .tuple #[.string ⟨#[]⟩, .int .i64 1]
          | 4 => v = .tuple #[.string ⟨#[]⟩, .int .i64 1]
          | 5 => v = .string ⟨#[]⟩
          | 6 => v = .int .i64 1
          | 7 => v = .string ⟨#[]⟩
          | _ => v = .int .i64 1) (by kernel_rfl) _ rfl (by kernel_rfl) (by kernel_rfl) (by kernel_rfl) ?_ ?_ ?_
        · intro q v w1 w2 hF hK
          rcases q with _|_|_|_|_|_|_|_|q
          all_goals exact hF
        · intro q o ho av wv K hS hk H hK
          have hf7 : av.eval (.tmp 7) = .pointer (some ⟨g1, 0, none⟩) := (hS.2.2 7 (nofill (by kernel_rfl))).trans rfl
          have hf9 : av.eval (.tmp 9) = .slice (some ⟨g, 0, none⟩) n dc := (hS.2.2 9 (nofill (by kernel_rfl))).trans rfl
          have s0 := cell_kp e0 hk (by simp)
          have s1 := cell_kp e1 hk (by simp)
          rcases q with _|_|_|_|_|_|_|_|_|q
          all_goals try (obtain rfl := Option.some.inj ho)
          · have e7 := gd hf7
            exact wpOp_value rfl rfl (v := .agg #[.int .i64 s.size, .slice A n c]) (w' := wv) (by simp [execOp, go_sem, e7, s0, s1]) (hK _ _ (Kp.rfl_ _ _) rfl)
          · have e9 := gd hf9
            exact wpOp_value rfl rfl (v := .slice (some ⟨g, 0, none⟩) n dc) (w' := wv) (by simp [execOp, go_sem, e9]) (hK _ _ (Kp.rfl_ _ _) rfl)
          · have e127 := gd (H 1 127 (by kernel_rfl) rfl)
            exact wpOp_value rfl rfl (v := .slice Bt (n - 1) (dc - 1)) (w' := wv) (by simp [execOp, go_sem, e127, hsl]) (hK _ _ (Kp.rfl_ _ _) rfl)
          · have e126 := gd (H 0 126 (by kernel_rfl) rfl)
            have e128 := gd (H 2 128 (by kernel_rfl) rfl)
            refine wpOp_call rfl rfl (f := 14) (args := #[.agg #[.int .i64 s.size, .slice A n c], .slice Bt (n - 1) (dc - 1)]) (w1 := wv) (by simp [execOp, go_sem, e126, e128]) ?_
            refine (build_to s.size A Bt n c (n - 1) (dc - 1) hm (cse.drop 1) ⟨#[]⟩ 1 wv HARG.out (hte.kp hk (by simp)) (Le.kp hk (by simp)) (by rw [List.map_drop]; exact hBt.kp hk (by simp)) (by omega) (by omega) (by omega) HD1.out HD2.out (fun h => by omega) (by omega) (by omega)).mono ?_
            rintro e w8 ⟨rfl, k8⟩
            exact ⟨_, rfl, hK _ _ k8 rfl⟩
          · have e129 := gd (H 3 129 (by kernel_rfl) rfl)
            exact wpOp_value rfl rfl (v := .tuple #[.string ⟨#[]⟩, .int .i64 1]) (w' := wv) (by simp [execOp, go_sem, e129]) (hK _ _ (Kp.rfl_ _ _) rfl)
          · have e125 := gd (H 4 125 (by kernel_rfl) rfl)
            exact wpOp_value rfl rfl (v := .string ⟨#[]⟩) (w' := wv) (by simp [execOp, go_sem, e125]) (hK _ _ (Kp.rfl_ _ _) rfl)
          · have e125 := gd (H 4 125 (by kernel_rfl) rfl)
            exact wpOp_value rfl rfl (v := .int .i64 1) (w' := wv) (by simp [execOp, go_sem, e125]) (hK _ _ (Kp.rfl_ _ _) rfl)
          · have e130 := gd (H 5 130 (by kernel_rfl) rfl)
            exact wpOp_value rfl rfl (v := .string ⟨#[]⟩) (w' := wv) (by simp [execOp, go_sem, e130]) (hK _ _ (Kp.rfl_ _ _) rfl)
          · have e131 := gd (H 6 131 (by kernel_rfl) rfl)
            exact wpOp_value rfl rfl (v := .int .i64 1) (w' := wv) (by simp [execOp, go_sem, e131]) (hK _ _ (Kp.rfl_ _ _) rfl)
          · simp at ho
        · intro av wv hS hk H
          have h18 : av.tmps.getD 18 undef = .string ⟨#[]⟩ := H 7 18 rfl
          have h19 : av.tmps.getD 19 undef = .int .i64 1 := H 8 19 rfl
          rw [same_fold hS [126, 127, 128, 129, 125, 130, 131, 18, 19] (by kernel_rfl) (by kernel_rfl)]
          simp only [List.foldl]
          rw [h18, h19]
          simp only [Act.put, List.setIfInBounds_toArray, List.set_cons_succ, List.set_cons_zero]
          generalize av.tmps.getD 125 undef = v125
          generalize av.tmps.getD 126 undef = v126
          generalize av.tmps.getD 127 undef = v127
          generalize av.tmps.getD 128 undef = v128
          generalize av.tmps.getD 129 undef = v129
          generalize av.tmps.getD 130 undef = v130
          generalize av.tmps.getD 131 undef = v131
          have hkv := hk0e.trans hk
          clear hS H e0 e1 hsl
          go_wp2_with fail
          go_ret
          exact ⟨rfl, hkv⟩
set_option maxHeartbeats 2000000 in
theorem selse_out (s : ByteArray) (at0 : Int) (y : UInt8) (w : World) (ht : Tbk w) (h : s.size < 1 ∨ (1 ≤ s.size ∧ 512 < s.size)) (hz : s.size ≤ 9223372036854775807) :
    Calls Tryd.prog 7 #[.string s, .int .i64 at0, .int .u8 (y.toNat : Int)] w (Yes w) := by
  rcases h with h | ⟨h, h'⟩
  · have hI : (s.size : Int) < 1 := by omega
    go_enter Tryd.func7, Tryd.ntmps7
    go_wp2_with fail
    refine (hsawake _ ht).mono ?_
    rintro e w1 ⟨rfl, hk1⟩
    go_wp2_with fail
    refine (hsawake _ (ht.kp hk1 (by simp))).mono ?_
    rintro e w2 ⟨rfl, hk2⟩
    go_wp2_with fail
    go_ret
    exact ⟨rfl, hk1.trans hk2⟩
  · have hI : ¬ (s.size : Int) < 1 := by omega
    have hI2 : (512 : Int) < (s.size : Int) := by omega
    go_enter Tryd.func7, Tryd.ntmps7
    go_wp2_with fail
    refine (hsawake _ ht).mono ?_
    rintro e w1 ⟨rfl, hk1⟩
    go_wp2_with fail
    refine (hsawake _ (ht.kp hk1 (by simp))).mono ?_
    rintro e w2 ⟨rfl, hk2⟩
    go_wp2_with fail
    go_ret
    exact ⟨rfl, hk1.trans hk2⟩
theorem shelse_walk (v0 v1 v2 : Value) (w : World) (hl : LaidSha w) (i0 : In w 9 v0) (i1 : In w 3 v1) (i2 : In w 5 v2) : Calls Tryd.prog 7 #[v0, v1, v2] w (Yes w) := by
  obtain ⟨s, rfl, hs⟩ := in_string Tryd.underlying9 i0
  obtain ⟨a, rfl, wa⟩ := in_int Tryd.underlying3 i1
  obtain ⟨b, rfl, wb⟩ := in_int Tryd.underlying5 i2
  have ha := bd_i64 wa
  have hb : 0 ≤ b ∧ b ≤ 255 := by
    have h3 := wb
    simp [Lit.wf, IntKind.min, IntKind.max, IntKind.signed, IntKind.bits] at h3
    omega
  have ht := tbk_of hl
  obtain ⟨y, rfl⟩ : ∃ y : UInt8, b = (y.toNat : Int) := ⟨UInt8.ofNat b.toNat, by
    rw [show (UInt8.ofNat b.toNat).toNat = b.toNat by simp; omega]; omega⟩
  by_cases h : 1 ≤ s.size ∧ s.size ≤ 512
  · exact selse_in s a y w ht h.1 h.2 ha.1 ha.2
  · exact selse_out s a y w ht (by omega) (size_leH hs)
end Go.Proofs.YtencpplopdogmaaDoor
