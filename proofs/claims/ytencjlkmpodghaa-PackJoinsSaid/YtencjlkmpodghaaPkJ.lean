/- PackJoins. -/
import Derived.Test.YtencjlkmpodghaaPkD
import Derived.Deep.RegionHeld3
namespace Go.Proofs.Ytencjlkmpodghaa
open Go.RowKit
set_option linter.unusedVariables false

theorem own_some {w : World} {base : Nat} {e : TypeId} {v : Value} {n g : Nat} {xs : List Value} (h : w.ownsRow base e 1 v n xs) (hg : v.ownBlock = some g) :
    ∃ c, v = .slice (some ⟨g, 0, none⟩) n c ∧ Ls w (some ⟨g, 0, none⟩) n xs ∧ n ≤ c ∧ c ≤ maxLen := by
  rcases h.2 with ⟨rfl, rfl⟩ | ⟨g', cap, cur, rfl, hb, hh, hn, hm, hs, ht⟩
  · simp [Value.ownBlock] at hg
  · obtain rfl : g' = g := by simpa [Value.ownBlock] using hg
    exact ⟨cap, rfl, Ls.of_own h, hn, hm⟩
theorem Ls.take {w : World} {A : Option Addr} {n k : Nat} {xs : List Value} (h : Ls w A n xs) (hk : k ≤ n) : Ls w A k (xs.take k) := by
  refine ⟨by rw [List.length_take, h.1]; omega, fun h0 => ?_⟩
  obtain ⟨ad, e, hb, hc⟩ := h.2 (by omega)
  refine ⟨ad, e, hb, fun j u hu => hc j u ?_⟩
  rw [List.getElem?_take] at hu
  split at hu
  · exact hu
  · cases hu
theorem Ls.drop {w : World} {ad : Addr} {n k : Nat} {xs : List Value} (h : Ls w (some ad) n xs) (hk : k ≤ n) : Ls w (some (ad.add k)) (n - k) (xs.drop k) := by
  refine ⟨by rw [List.length_drop, h.1], fun h0 => ?_⟩
  obtain ⟨ad', e, hb, hc⟩ := h.2 (by omega)
  injection e with e
  subst e
  refine ⟨_, rfl, by rw [addr_add_block]; exact hb, fun j u hu => ?_⟩
  rw [addr_add_add]
  exact hc _ u (by rw [List.getElem?_drop] at hu; exact hu)

/-- A row of the call's own, in memory that is there. -/
def Row (base : Nat) (e : TypeId) (w : World) (v : Value) (n : Nat) (xs : List Value) : Prop := w.ownsRow base e 1 v n xs ∧ v.ownBlock ≠ none
theorem Row.open_ {base : Nat} {e : TypeId} {w : World} {v : Value} {n : Nat} {xs : List Value} (h : Row base e w v n xs) :
    ∃ g c, v = .slice (some ⟨g, 0, none⟩) n c ∧ Ls w (some ⟨g, 0, none⟩) n xs ∧ n ≤ c ∧ c ≤ maxLen ∧ base ≤ g := by
  obtain ⟨h1, h2⟩ := h
  obtain ⟨g, hg⟩ := Option.ne_none_iff_exists'.1 h2
  obtain ⟨c, e1, e2, e3, e4⟩ := own_some h1 hg
  exact ⟨g, c, e1, e2, e3, e4, (own_block_lt h1 hg).1⟩
section
variable {ops : Array Oper} {rest : List Oper} {o : Oper} {a : Act} {Q : Exit → Act → World → Prop} (w0 : World) (T e : TypeId) (i : TypeInfo) (z : Value) (bytes : Nat) (ht : Try.prog.underlying T = some (.slice e)) (hi : Try.prog.info? e = some i) (hz : i.zero = some z)
    (hsize : i.size = 1) (hby : i.bytes = bytes) (hzs : z.cells.size = 1) (hgd : o.guard = none) (s x : Operand)
    (ho : o.op = .call { callee := .builtin .append, args := #[s, x], argTypes := #[T, T] })
include ht hi hz hsize hby hzs hgd ho
theorem wpl_first (A : Option Addr) (n c : Nat) (xs : List Value)
    (hs : a.eval s = .slice (some ⟨w0.heap.size, 0, none⟩) 0 0) (hx : a.eval x = .slice A n c) (hr : Ls w0 A n xs) (h1 : ∀ u ∈ xs, u.oneCell' = true) (hn : n ≤ 1099511627776) (hn2 : n * bytes ≤ 140737488355328)
    (h : ∀ v' w', Row w0.heap.size e w' v' n xs → Kp [] w0 w' → wpList Try.prog ops Q rest (a.put o.dst v') w') :
    wpList Try.prog ops Q (o :: rest) a (w0.alloc (.cells #[] e)) := by
  refine wpl_app _ hgd s x T ho w0.heap.size e i z bytes ht hi hz hsize hby hzs _ 0 [] hs (own_empty w0 _) A n c _ hx
    (hr.kp ((Kp.rfl_ [] w0).alloc _) (by simp)) h1 (by unfold maxLen; omega) (by rw [Nat.zero_add]; exact hn2) (by simp) ?_
  intro v' w' hown hg hat
  rw [Nat.zero_add] at hown
  refine h v' w' ⟨hown, by rcases hat with e | e <;> rw [e] <;> simp [Value.ownBlock]⟩ (((Kp.rfl_ [] w0).alloc _).then (Kp.of_grown (S := [w0.heap.size]) hg ?_) (by simp))
  intro k hk _
  simp [Value.ownBlock] at hk
  simp [hk]
theorem wpl_more (base : Nat) (v : Value) (k : Nat) (ys : List Value) (hrow : Row base e w0 v k ys) (A : Option Addr) (n c : Nat) (xs : List Value)
    (hs : a.eval s = v) (hx : a.eval x = .slice A n c) (hr : Ls w0 A n xs) (h1 : ∀ u ∈ xs, u.oneCell' = true) (hn : k + n ≤ 1099511627776) (hn2 : (k + n) * bytes ≤ 140737488355328) (hb : base ≤ w0.heap.size)
    (h : ∀ v' w', Row base e w' v' (k + n) (ys ++ xs) → Below base w0 w' → wpList Try.prog ops Q rest (a.put o.dst v') w') :
    wpList Try.prog ops Q (o :: rest) a w0 := by
  refine wpl_app _ hgd s x T ho base e i z bytes ht hi hz hsize hby hzs v k ys hs hrow.1 A n c _ hx hr h1 (by unfold maxLen; omega) hn2 hb ?_
  intro v' w' hown hg hat
  refine h v' w' ⟨hown, ?_⟩ ((Below.refl _ _).grown hg hb fun g hk => (own_block_lt hrow.1 hk).1)
  rcases hat with e | e
  · rw [e]; exact hrow.2
  · rw [e]; simp
end

theorem texts_append (a b : List ByteArray) : texts (a ++ b) = texts a ++ texts b := by unfold texts; simp

theorem nums_pick {A : Option Addr} {n c : Nat} {zs : List Int} {b : ByteArray} {w : World} (h : Ls w A n (zs.map (Value.int .i64)) ∧ bs (zs.flatMap numB) = b ∧ (∀ z ∈ zs, (Lit.int .i64 z).wf = true) ∧ n ≤ 20000) :
    Calls Try.prog 16 #[.slice A n c] w fun e w' => e = .returned (.string b) ∧ Kp [] w w' := nums_to A n c zs b w h.2.1 h.1 h.2.2.1 h.2.2.2
theorem texts_pick {A : Option Addr} {n c : Nat} {zs : List ByteArray} {b : ByteArray} {w : World} (h : Ls w A n (zs.map Value.string) ∧ bs (texts zs) = b ∧ (texts zs).length ≤ 1000000000 ∧ n ≤ 100000) :
    Calls Try.prog 19 #[.slice A n c] w fun e w' => e = .returned (.string b) ∧ Kp [] w w' := packtext_to A n c zs b w h.2.1 h.1 h.2.2.2 h.2.2.1

set_option maxHeartbeats 1000000 in
theorem pjoins_out (A B C D : Option Addr) (n n' m m' p p' q q' : Nat) (w : World) (h : 4096 < n ∨ 4096 < m) : Calls Try.prog 8 #[.slice A n n', .slice B m m', .slice C p p', .slice D q q'] w (Yes w) := by
  have hc : 4096 < n ∨ (¬ 4096 < n ∧ 4096 < m) := by omega
  clear h
  rcases hc with hc | ⟨hc, hc2⟩
  all_goals
    go_enter Try.func8, Try.ntmps8
    go_wp2_with fail
    refine (pawake _).mono ?_
    rintro e w1 ⟨rfl, hk1⟩
    go_wp2_with fail
    refine (pawake _).mono ?_
    rintro e w2 ⟨rfl, hk2⟩
    go_wp2_with fail
    go_ret
    exact ⟨rfl, hk1.trans hk2⟩

set_option maxRecDepth 100000 in
set_option maxHeartbeats 4000000 in
theorem pjoins_in (A B C D : Option Addr) (n n' m m' p p' q q' : Nat) (az bz : List Int) (cs ds : List ByteArray) (w : World) (hA : Ls w A n (az.map (Value.int .i64))) (hB : Ls w B m (bz.map (Value.int .i64)))
    (hC : Ls w C p (cs.map Value.string)) (hD : Ls w D q (ds.map Value.string)) (wa : ∀ z ∈ az, (Lit.int .i64 z).wf = true) (wb : ∀ z ∈ bz, (Lit.int .i64 z).wf = true) (wc : ∀ z ∈ cs, z.size ≤ maxLen) (wd : ∀ z ∈ ds, z.size ≤ maxLen)
    (hp : p ≤ p') (hp' : p' ≤ maxLen) (hq : q ≤ q') (hq' : q' ≤ maxLen) (hn : n ≤ 4096) (hm : m ≤ 4096) :
    Calls Try.prog 8 #[.slice A n n', .slice B m m', .slice C p p', .slice D q q'] w (Yes w) := by
  have hcl : cs.length = p := by simpa using hC.1
  have hdl : ds.length = q := by simpa using hD.1
  have hal : az.length = n := by simpa using hA.1
  have HCL := Lib.hid hcl
  have HDL := Lib.hid hdl
  have HAL := Lib.hid hal
  have hbl : bz.length = m := by simpa using hB.1
  have HBL := Lib.hid hbl
  clear hcl hdl hal hbl
  go_enter Try.func8, Try.ntmps8
  go_wp2_with fail
  refine (pawake _).mono ?_
  rintro e w1 ⟨rfl, hk1⟩
  have hC1 := hC.kp hk1 (by simp)
  have hD1 := hD.kp hk1 (by simp)
  go_wp2_with fail
  refine (long_any C p p' cs _ hC1 wc hp hp').mono ?_
  rintro e w1' ⟨bl, rfl, rfl, hbl⟩
  cases bl
  rotate_left
  · go_wp2_with fail
    refine (pawake _).mono ?_
    rintro e w2 ⟨rfl, hk2⟩
    go_wp2_with fail
    go_ret
    exact ⟨rfl, hk1.trans hk2⟩
  have hto1 := hbl rfl
  clear hbl
  go_wp2_with fail
  refine (long_any D q q' ds _ hD1 wd hq hq').mono ?_
  rintro e w1' ⟨bl, rfl, rfl, hbl⟩
  cases bl
  rotate_left
  · clear hto1
    go_wp2_with fail
    refine (pawake _).mono ?_
    rintro e w2 ⟨rfl, hk2⟩
    go_wp2_with fail
    go_ret
    exact ⟨rfl, hk1.trans hk2⟩
  have hto2 := hbl rfl
  clear hbl
  have htl1 : (texts cs).length ≤ 163840 := by
    have := tot_texts cs fun s h => by have := wc s h; unfold maxLen at this; omega
    omega
  have htl2 : (texts ds).length ≤ 163840 := by
    have := tot_texts ds fun s h => by have := wd s h; unfold maxLen at this; omega
    omega
  have hpl : p ≤ 16384 := by have := tot_len cs; have := HCL.out; omega
  have hql : q ≤ 16384 := by have := tot_len ds; have := HDL.out; omega
  clear hto1 hto2
  have HT1 := Lib.hid htl1
  have HT2 := Lib.hid htl2
  clear htl1 htl2
  have hA1 := hA.kp hk1 (by simp)
  have hB1 := hB.kp hk1 (by simp)
  obtain ⟨i0, hi, hz, hz1, hz2⟩ := info_parts info_int
  obtain ⟨j0, ji, jz, jz1, jz2⟩ := info_parts info_string
  have hbase0 : w1.heap.size ≤ w1.heap.size := Nat.le_refl _
  go_wp2_with (first
    | (at_builtin; refine wpl_first w1 22 3 i0 _ 8 Try.underlying22 hi hz hz1 hz2 rfl rfl _ _ rfl A n n' _ rfl rfl hA1 oneCell_map_int (by omega) (by omega) ?_; intro v2 w2 hrow2 hk2; have hB2 := hB1.kp hk2 (by simp); have hb2 : w1.heap.size ≤ w2.heap.size := hk2.size)
    | (at_builtin; refine wpl_more w2 22 3 i0 _ 8 Try.underlying22 hi hz hz1 hz2 rfl rfl _ _ rfl w1.heap.size v2 n _ hrow2 B m m' _ rfl rfl hB2 oneCell_map_int (by omega) (by omega) hb2 ?_; intro v3 w3 hrow3 hbl3; have hk3 := Kp.of_below ((hk2.below (Nat.le_refl _) (by simp)).trans hbl3); have hC3 := hC1.kp hk3 (by simp); have hD3 := hD1.kp hk3 (by simp))
    | (at_builtin; refine wpl_first w3 27 9 j0 _ 16 Try.underlying27 ji jz jz1 jz2 rfl rfl _ _ rfl C p p' _ rfl rfl hC3 oneCell_map_string (by omega) (by omega) ?_; intro v4 w4 hrow4 hk4; have hD4 := hD3.kp hk4 (by simp); have hb4 : w3.heap.size ≤ w4.heap.size := hk4.size)
    | (at_builtin; refine wpl_more w4 27 9 j0 _ 16 Try.underlying27 ji jz jz1 jz2 rfl rfl _ _ rfl w3.heap.size v4 p _ hrow4 D q q' _ rfl rfl hD4 oneCell_map_string (by omega) (by omega) hb4 ?_; intro v5 w5 hrow5 hbl5; have hk5 := Kp.of_below ((hk4.below (Nat.le_refl _) (by simp)).trans hbl5); obtain ⟨g3, c3, rfl, hL3, hc3, -, -⟩ := hrow3.open_; obtain ⟨g5, c5, rfl, hL5, hc5, -, -⟩ := hrow5.open_))
  obtain ⟨b1, hb1⟩ : ∃ b, bs (az.flatMap numB) = b := ⟨_, rfl⟩
  obtain ⟨b2, hbb2⟩ : ∃ b, bs (bz.flatMap numB) = b := ⟨_, rfl⟩
  obtain ⟨t1, ht1⟩ : ∃ b, bs (texts cs) = b := ⟨_, rfl⟩
  obtain ⟨t2, ht2⟩ : ∃ b, bs (texts ds) = b := ⟨_, rfl⟩
  obtain ⟨b, hb⟩ : ∃ b, bs ((az ++ bz).flatMap numB) = b := ⟨_, rfl⟩
  obtain ⟨t, ht⟩ : ∃ b, bs (texts (cs ++ ds)) = b := ⟨_, rfl⟩
  have hbq : b = b1 ++ b2 := by rw [← hb, ← hb1, ← hbb2, bs_append, List.flatMap_append]
  have htq : t = t1 ++ t2 := by rw [← ht, ← ht1, ← ht2, bs_append, texts_append]
  have hs1 : b1.size ≤ 100000 := by rw [← hb1, bs_size]; have := flat_len az wa; have := HAL.out; omega
  have hs2 : b2.size ≤ 100000 := by rw [← hbb2, bs_size]; have := flat_len bz wb; have := HBL.out; omega
  have hs3 : t1.size ≤ 200000 := by rw [← ht1, bs_size]; have := HT1.out; omega
  have hs4 : t2.size ≤ 200000 := by rw [← ht2, bs_size]; have := HT2.out; omega
  have hQ1 : (b.toList == (b1 ++ b2).toList) = true := by rw [hbq]; simp
  have hQ2 : (t.toList == (t1 ++ t2).toList) = true := by rw [htq]; simp
  have HB1 := Lib.hid hb1
  have HB2 := Lib.hid hbb2
  have HT1' := Lib.hid ht1
  have HT2' := Lib.hid ht2
  have HB := Lib.hid hb
  have HT := Lib.hid ht
  have hL5k := Ls.take hL5 (k := p) (by omega)
  have hL5d := Ls.drop hL5 (k := p) (by omega)
  have hL3k := Ls.take hL3 (k := n) (by omega)
  rw [← List.map_append, ← List.map_take, List.take_left' HAL.out] at hL3k
  rw [← List.map_append, ← List.map_take, List.take_left' HCL.out] at hL5k
  rw [← List.map_append, ← List.map_drop, List.drop_left' HCL.out, Nat.add_sub_cancel_left] at hL5d
  rw [← List.map_append] at hL3 hL5
  have H3 := Lib.hid (hL3.kp hk5 (by simp))
  have H3k := Lib.hid (hL3k.kp hk5 (by simp))
  have HBB := Lib.hid ((hB1.kp hk3 (by simp)).kp hk5 (by simp))
  have H5 := Lib.hid hL5
  have H5k := Lib.hid hL5k
  have hadd : (⟨g5, 0, none⟩ : Addr).add p = ⟨g5, p, none⟩ := by
    unfold Addr.add
    split <;> simp_all
  rw [hadd] at hL5d
  clear hadd
  have H5d := Lib.hid hL5d
  have hkr : Kp [] w5 w5 := Kp.rfl_ _ _
  have hkw : Kp [] w w5 := (hk1.trans hk3).trans hk5
  have hzz : ∀ z ∈ az ++ bz, (Lit.int .i64 z).wf = true := fun z hz => (List.mem_append.1 hz).elim (wa z) (wb z)
  have HZZ := Lib.hid hzz
  have HWA := Lib.hid wa
  have HWB := Lib.hid wb
  have htl : (texts (cs ++ ds)).length ≤ 1000000000 := by rw [texts_append, List.length_append]; have := HT1.out; have := HT2.out; omega
  have HTL := Lib.hid htl
  have HTT1 : Hid ((texts cs).length ≤ 1000000000) := Lib.hid (by have := HT1.out; omega)
  have HTT2 : Hid ((texts ds).length ≤ 1000000000) := Lib.hid (by have := HT2.out; omega)
  clear hb1 hbb2 ht1 ht2 hb ht hbq htq hzz htl wa wb wc wd hL3 hL5 hL3k hL5k hL5d hk5 hk3 hk1 hrow2 hrow4 hk2 hk4 hbl3 hbl5 hA hB hC hD hA1 hB1 hC1 hD1 hB2 hC3 hD3 hD4 hb2 hb4
  have e1 : Op.stringOp .add b1 b2 = pure (.string (b1 ++ b2)) := by unfold Op.stringOp; dsimp only; rw [if_neg (by rw [show IntKind.i64.max = 9223372036854775807 by decide]; omega)]
  have e2 : Op.stringOp .add t1 t2 = pure (.string (t1 ++ t2)) := by unfold Op.stringOp; dsimp only; rw [if_neg (by rw [show IntKind.i64.max = 9223372036854775807 by decide]; omega)]
  have e3 : ¬ (9223372036854775807 < (b1.size : Int) + (b2.size : Int)) := by omega
  have e4 : ¬ (9223372036854775807 < (t1.size : Int) + (t2.size : Int)) := by omega
  by_cases hpc : p = c5
  · subst hpc
    have H5e : Hid (∀ W A, Ls W A 0 (ds.map Value.string)) := Lib.hid fun W A => ⟨by rw [List.length_map]; have := HDL.out; omega, fun h => absurd h (by omega)⟩
    have i1 : (0 : Int) ≤ (n : Int) := by omega
    have i2 : (n : Int) ≤ (c3 : Int) := by omega
    have i3 : (0 : Int) ≤ (p : Int) := by omega
    have i5 : (p : Int) ≤ (p : Int) + (q : Int) := by omega
    have i6 : (p : Int) + (q : Int) ≤ (p : Int) := by omega
    have i7 : n ≤ c3 := by omega
    have i9 : p ≤ p + q := by omega
    go_region_held3 (fun w' => True) (first | exact trivial | go_keep)
      (first
        | (go_at_call 16; (with_reducible show Calls _ _ #[Value.slice _ (n + m) _] _ _); refine (nums_to _ (n + m) c3 (az ++ bz) b _ HB.out ?_ HZZ.out (by omega)).mono ?_; (first | exact H3.out.kp hkr (by simp) | exact H3.out.kp hkr.drew (by simp)); rintro e w8 ⟨rfl, hk8⟩; (first | (have hkr : Kp [] w5 w8 := hkr.trans hk8; clear hk8) | (have hkr : Kp [] w5 w8 := hkr.drew.trans hk8; clear hk8)))
        | (go_at_call 16; (with_reducible show Calls _ _ #[Value.slice _ n _] _ _); refine (nums_to _ n c3 az b1 _ HB1.out ?_ HWA.out (by omega)).mono ?_; (first | exact H3k.out.kp hkr (by simp) | exact H3k.out.kp hkr.drew (by simp)); rintro e w8 ⟨rfl, hk8⟩; (first | (have hkr : Kp [] w5 w8 := hkr.trans hk8; clear hk8) | (have hkr : Kp [] w5 w8 := hkr.drew.trans hk8; clear hk8)))
        | (go_at_call 16; (with_reducible show Calls _ _ #[Value.slice _ m _] _ _); refine (nums_to _ m m' bz b2 _ HB2.out ?_ HWB.out (by omega)).mono ?_; (first | exact HBB.out.kp hkr (by simp) | exact HBB.out.kp hkr.drew (by simp)); rintro e w8 ⟨rfl, hk8⟩; (first | (have hkr : Kp [] w5 w8 := hkr.trans hk8; clear hk8) | (have hkr : Kp [] w5 w8 := hkr.drew.trans hk8; clear hk8)))
        | (go_at_call 19; (with_reducible show Calls _ _ #[Value.slice _ (p + q) _] _ _); refine (packtext_to _ (p + q) p (cs ++ ds) t _ HT.out ?_ (by omega) HTL.out).mono ?_; (first | exact H5.out.kp hkr (by simp) | exact H5.out.kp hkr.drew (by simp)); rintro e w8 ⟨rfl, hk8⟩; (first | (have hkr : Kp [] w5 w8 := hkr.trans hk8; clear hk8) | (have hkr : Kp [] w5 w8 := hkr.drew.trans hk8; clear hk8)))
        | (go_at_call 19; (with_reducible show Calls _ _ #[Value.slice _ p _] _ _); refine (packtext_to _ p p cs t1 _ HT1'.out ?_ (by omega) HTT1.out).mono ?_; (first | exact H5k.out.kp hkr (by simp) | exact H5k.out.kp hkr.drew (by simp)); rintro e w8 ⟨rfl, hk8⟩; (first | (have hkr : Kp [] w5 w8 := hkr.trans hk8; clear hk8) | (have hkr : Kp [] w5 w8 := hkr.drew.trans hk8; clear hk8)))
        | (go_at_call 19; (with_reducible show Calls _ _ #[Value.slice _ 0 _] _ _); refine (packtext_to _ 0 _ ds t2 _ HT2'.out ?_ (by omega) HTT2.out).mono ?_; exact H5e.out _ _; rintro e w8 ⟨rfl, hk8⟩; (first | (have hkr : Kp [] w5 w8 := hkr.trans hk8; clear hk8) | (have hkr : Kp [] w5 w8 := hkr.drew.trans hk8; clear hk8))))
    all_goals
      go_wp2_with fail
      go_ret
      (first | exact ⟨rfl, hkw.trans hkr⟩ | exact ⟨rfl, hkw.trans hkr.drew⟩)
  · have hpc2 : p < c5 := by omega
    have i1 : (0 : Int) ≤ (n : Int) := by omega
    have i2 : (n : Int) ≤ (c3 : Int) := by omega
    have i3 : (0 : Int) ≤ (p : Int) := by omega
    have i4 : (p : Int) ≤ (c5 : Int) := by omega
    have i5 : (p : Int) ≤ (p : Int) + (q : Int) := by omega
    have i6 : (p : Int) + (q : Int) ≤ (c5 : Int) := by omega
    have i7 : n ≤ c3 := by omega
    have i8 : p ≤ c5 := by omega
    have i9 : p ≤ p + q := by omega
    go_region_held3 (fun w' => True) (first | exact trivial | go_keep)
      (first
        | (go_at_call 16; (with_reducible show Calls _ _ #[Value.slice _ (n + m) _] _ _); refine (nums_to _ (n + m) c3 (az ++ bz) b _ HB.out ?_ HZZ.out (by omega)).mono ?_; (first | exact H3.out.kp hkr (by simp) | exact H3.out.kp hkr.drew (by simp)); rintro e w8 ⟨rfl, hk8⟩; (first | (have hkr : Kp [] w5 w8 := hkr.trans hk8; clear hk8) | (have hkr : Kp [] w5 w8 := hkr.drew.trans hk8; clear hk8)))
        | (go_at_call 16; (with_reducible show Calls _ _ #[Value.slice _ n _] _ _); refine (nums_to _ n c3 az b1 _ HB1.out ?_ HWA.out (by omega)).mono ?_; (first | exact H3k.out.kp hkr (by simp) | exact H3k.out.kp hkr.drew (by simp)); rintro e w8 ⟨rfl, hk8⟩; (first | (have hkr : Kp [] w5 w8 := hkr.trans hk8; clear hk8) | (have hkr : Kp [] w5 w8 := hkr.drew.trans hk8; clear hk8)))
        | (go_at_call 16; (with_reducible show Calls _ _ #[Value.slice _ m _] _ _); refine (nums_to _ m m' bz b2 _ HB2.out ?_ HWB.out (by omega)).mono ?_; (first | exact HBB.out.kp hkr (by simp) | exact HBB.out.kp hkr.drew (by simp)); rintro e w8 ⟨rfl, hk8⟩; (first | (have hkr : Kp [] w5 w8 := hkr.trans hk8; clear hk8) | (have hkr : Kp [] w5 w8 := hkr.drew.trans hk8; clear hk8)))
        | (go_at_call 19; (with_reducible show Calls _ _ #[Value.slice _ (p + q) _] _ _); refine (packtext_to _ (p + q) c5 (cs ++ ds) t _ HT.out ?_ (by omega) HTL.out).mono ?_; (first | exact H5.out.kp hkr (by simp) | exact H5.out.kp hkr.drew (by simp)); rintro e w8 ⟨rfl, hk8⟩; (first | (have hkr : Kp [] w5 w8 := hkr.trans hk8; clear hk8) | (have hkr : Kp [] w5 w8 := hkr.drew.trans hk8; clear hk8)))
        | (go_at_call 19; (with_reducible show Calls _ _ #[Value.slice _ p _] _ _); refine (packtext_to _ p c5 cs t1 _ HT1'.out ?_ (by omega) HTT1.out).mono ?_; (first | exact H5k.out.kp hkr (by simp) | exact H5k.out.kp hkr.drew (by simp)); rintro e w8 ⟨rfl, hk8⟩; (first | (have hkr : Kp [] w5 w8 := hkr.trans hk8; clear hk8) | (have hkr : Kp [] w5 w8 := hkr.drew.trans hk8; clear hk8)))
        | (go_at_call 19; (with_reducible show Calls _ _ #[Value.slice _ q _] _ _); refine (packtext_to _ q (c5 - p) ds t2 _ HT2'.out ?_ (by omega) HTT2.out).mono ?_; (first | exact H5d.out.kp hkr (by simp) | exact H5d.out.kp hkr.drew (by simp)); rintro e w8 ⟨rfl, hk8⟩; (first | (have hkr : Kp [] w5 w8 := hkr.trans hk8; clear hk8) | (have hkr : Kp [] w5 w8 := hkr.drew.trans hk8; clear hk8))))
    all_goals
      go_wp2_with fail
      go_ret
      (first | exact ⟨rfl, hkw.trans hkr⟩ | exact ⟨rfl, hkw.trans hkr.drew⟩)
theorem pjoins_walk (v0 v1 v2 v3 : Value) (w : World) (i0 : In w 22 v0) (i1 : In w 22 v1) (i2 : In w 27 v2) (i3 : In w 27 v3) :
    Calls Try.prog 8 #[v0, v1, v2, v3] w (Yes w) := by
  obtain ⟨A, n, n', az, rfl, h1, h2, h3, h4⟩ := in_ints i0
  obtain ⟨B, m, m', bz, rfl, k1, k2, k3, k4⟩ := in_ints i1
  obtain ⟨C, p, p', cs, rfl, f1, f2, f3, f4⟩ := in_strs i2
  obtain ⟨D, q, q', ds, rfl, g1, g2, g3, g4⟩ := in_strs i3
  by_cases hn : n ≤ 4096
  · by_cases hm : m ≤ 4096
    · exact pjoins_in A B C D n n' m m' p p' q q' az bz cs ds w h3 k3 f3 g3 h4 k4 f4 g4 f1 f2 g1 g2 hn hm
    · exact pjoins_out A B C D n n' m m' p p' q q' w (by omega)
  · exact pjoins_out A B C D n n' m m' p p' q q' w (by omega)
end Go.Proofs.Ytencjlkmpodghaa
