/- Package disk: the names of its files, rising (the walk). -/
import Derived.Test.YtnmogfjbbibeiaaDm
import Derived.Test.YtnmogfjbbibeiaaSh
namespace Go.Proofs.Ytnmogfjbbibeiaa
set_option maxRecDepth 100000
open Go.RowKit Go.Maps Go.WideMaps Go.WideElems Go.ChangeMaps
set_option linter.unusedVariables false

theorem dinfo_str : (Try.prog.info? 9).map (fun i => (i.zero, i.size, i.bytes)) = some (some (.string ByteArray.empty), 1, 16) := by kernel_rfl
/-- append of a literal of one element of one cell (its block made by the step before). -/
theorem wpl_one_kp {ops : Array Oper} {rest : List Oper} {o : Oper} {a : Act} {Q : Exit → Act → World → Prop} {t e : TypeId} {z0 : Value} {bytes : Nat} (hinfo : (Try.prog.info? e).map (fun i => (i.zero, i.size, i.bytes)) = some (some z0, 1, bytes))
    (ht : Try.prog.underlying t = some (.slice e)) (hz0 : z0.cells.size = 1) (hby : bytes ≤ 24) (w0 : World) (base : Nat) (hgd : o.guard = none) (s x : Operand)
    (ho : o.op = .call { callee := .builtin .append, args := #[s, x], argTypes := #[t, t] }) (v : Value) (k : Nat) (xs : List Value) (z : Value) (hz : z.oneCell' = true) (hown : w0.ownsRow base e 1 v k xs)
    (hs : a.eval s = v) (hx : a.eval x = .slice (some ⟨w0.heap.size, 0, none⟩) 1 1) (hb : base ≤ w0.heap.size) (hl : k ≤ 1000000000)
    (h : ∀ v' w', w'.ownsRow base e 1 v' (k + 1) (xs ++ [z]) → Kp v.ownBlock.toList w0 w' → (v'.ownBlock = v.ownBlock ∨ ∃ h, v'.ownBlock = some h ∧ w0.heap.size ≤ h) → wpList Try.prog ops Q rest (a.put o.dst v') w') :
    wpList Try.prog ops Q (o :: rest) a (w0.alloc (.cells #[z] e)) := by
  obtain ⟨i0, hi, hz, h1, h2⟩ := info_parts hinfo
  have k0 : Kp [] w0 (w0.alloc (.cells #[z] e)) := (Kp.rfl_ [] w0).alloc _
  have hkb : (k + 1) * bytes ≤ (k + 1) * 24 := Nat.mul_le_mul_left _ hby
  refine wpl_app _ hgd s x t ho base e i0 _ bytes ht hi hz h1 h2 hz0 v k xs hs (own_kp hown k0 (by simp)) (some ⟨w0.heap.size, 0, none⟩) 1 1 [z] hx
    (Ls.of_at (At.new w0 _ _)) (by intro u hu; obtain rfl : u = z := by simpa using hu
                                   assumption) (by unfold maxLen; omega) (by omega) (by have := k0.size; omega) ?_
  intro v' w' hown' hg hv
  refine h v' w' hown' (k0.mono (T := v.ownBlock.toList) (by simp) |>.trans (Kp.of_grown hg fun k hk _ => by simp [hk])) ?_
  rcases hv with hv | hv
  · exact .inl hv
  · exact .inr ⟨_, hv, k0.size⟩
/-- slices.Sort of a list of the call's own. -/
theorem sort_any (ss : List ByteArray) (v : Value) (w : World) {base : Nat} (h : w.ownsRow base 9 1 v ss.length (ss.map Value.string)) (hs : ss.length ≤ 1000000000) :
    Calls Try.prog 51 #[v] w fun e w' => e = .returned (.tuple #[]) ∧ w'.ownsRow base 9 1 v ss.length ((srt ss).map Value.string) ∧ Kp v.ownBlock.toList w w' := by
  rcases h.2 with ⟨hnil, h0⟩ | ⟨g, cap, cur, rfl, hbase, hb, h1, h2, h3, h4⟩
  · subst hnil
    obtain rfl : ss = [] := List.eq_nil_of_length_eq_zero h0
    refine (Try.slices_Sort_string_none none 0 w).mono ?_
    rintro e w' ⟨rfl, rfl⟩
    exact ⟨rfl, by simpa [srt] using h, Kp.rfl_ _ _⟩
  · have hl : (ss.map fun s : ByteArray => s.data.toList).length = ss.length := by simp
    have hh : Sort.Holds encStr w g 0 (ss.map fun s : ByteArray => s.data.toList).toArray := holds_of_block hb (by rw [hl, ← enc_str]; simpa using h4)
    have := Try.slices_Sort_string g 0 cap (ss.map fun s : ByteArray => s.data.toList) w hh (Array.getElem?_eq_some_iff.1 hb).1 (by rw [hl]; omega)
    rw [hl] at this
    refine this.mono ?_
    rintro e w' ⟨rfl, n, os, rfl⟩
    refine ⟨rfl, ?_, Kp.of_grown (S := [g]) (grownBy_sorted _) (fun k hk _ => by injection hk with hk; simp [hk])⟩
    have := ownsRow_sorted (n := n) (os := os) (ss := ss.map fun s : ByteArray => s.data.toList) (ts := (ss.map fun s : ByteArray => s.data.toList).mergeSort fun x y => decide (x ≤ y)) (e := 9) (by simp) hbase hb (by rw [hl]; exact h1) h2 h3
    rw [hl, srt_enc] at this
    exact this
theorem Kp.grown {w w' : World} (k : Kp [] w w') : w.grownBy w' none := ⟨k.os, k.tape, k.output, k.size, fun i hi _ => k.block i hi (by simp)⟩
theorem Kp.grownS {w w' : World} {v : Value} (k : Kp v.ownBlock.toList w w') : w.grownBy w' v.ownBlock := ⟨k.os, k.tape, k.output, k.size, fun i hi hn => k.block i hi (by simpa using fun e => hn e.symm)⟩
set_option maxHeartbeats 8000000 in
theorem dnamesl_any (p : ByteArray) (w : World) {d b N : Nat} {F : ByteArray → Option Fl} {down fused : Bool} {left steps : Nat} (h : DSt w d b N F down fused left steps) (hN : N < 1000000) :
    Calls Try.prog 37 #[.pointer (some ⟨d, 0, none⟩), .string p] w fun e w' => ∃ v L, e = .returned v ∧ NamesOf F p L ∧ (∀ s ∈ L, s.size ≤ maxLen) ∧ L.length ≤ N ∧ w'.ownsRow w.heap.size 9 1 v L.length (L.map Value.string) ∧ Kp [] w w' := by
  have c0 := h.disk.cell 0
  obtain ⟨D, o1, o2, o3⟩ := h.map
  have hN2 : Maps.size D ≤ N := o1.size_le
  go_enter Try.func37, Try.ntmps37
  go_wp2_with (at_range; go_loud (refine wpList_range_own _ rfl _ 55 rfl 9 65 skey Try.underlying55 Rp b N D rfl o1 ?_; intro w1 hrg hg1 hs1))
  go_frame
  have hk1 : Kp [] w w1 := Kp.of_grown hg1 (by simp)
  go_loopg [5] (Maps.size D) (fun gk v wr => ∃ (lf : Lit → Bool) (cnt : Nat) (ss : List ByteArray), cnt ≤ gk ∧ ss.length + cnt ≤ Maps.size D ∧ wr.ranges Try.prog 9 Rp b w.heap.size N D lf cnt ∧ Kp [] w wr ∧ Coll D p lf ss ∧ (∀ s ∈ ss, s.size ≤ maxLen) ∧ wr.ownsRow w.heap.size 9 1 v ss.length (ss.map Value.string))
  case atStart => exact ⟨_, _, [], Nat.le_refl _, by simp, hrg, hk1, Coll.start D p, by simp, own_none _ _ _⟩
  case round =>
    obtain ⟨lf, cnt, ss, hgk, hcn, hrgr, hkr, hcol, hsz, hown⟩ := hrel
    go_wp2_with (at_next; go_loud (refine wpList_next_ranges _ rfl _ rfl 9 skey Rp Value.string mkP invS invP b w.heap.size N D lf cnt rfl hrgr ?_ ?_))
    · intro hc0 hl0
      have HCOL := Lib.hid (hcol.names hl0 o3)
      have HSZ := Lib.hid hsz
      clear hcol hl0 hsz o3
      go_wp2_with fail
      refine (sort_any ss u5 wr hown (by omega)).mono ?_
      rintro e w2 ⟨rfl, hown2, hk2⟩
      go_wp2_with fail
      go_ret
      refine ⟨_, _, rfl, HCOL.out, fun s hs => HSZ.out s ((srt_perm ss).mem_iff.1 hs), by rw [srt_len]; omega, by rw [srt_len]; exact hown2, hkr.then hk2 fun x hx hlt => ?_⟩
      obtain ⟨hb1, _⟩ := own_block_lt hown (by simpa using hx)
      omega
    · intro x c kl' a ps w' cnt' hkey hlk hR hat hrg' hltc hgr hsz' hen
      obtain ⟨xs', ex, rfl, hxl⟩ := string_of_keyOf Try.underlying9 hkey
      obtain rfl : x = xs' := by injection ex
      have hkl : Lit.string x.data.toList = kl x := rfl
      rw [hkl] at hlk hat hrg'
      have hD : Maps.has D (kl x) = true := has_true_of_atKey hat
      have hk' : Kp [w.heap.size] wr w' := Kp.of_grown hgr (fun k hk _ => by injection hk with hk; simp [hk])
      have hkw : Kp [] w w' := hkr.then hk' (fun z hz hlt => by simp at hz; omega)
      have hnr : ∀ g, u5.ownBlock = some g → g ∉ [w.heap.size] := fun g hg hm => row_ne_iter hown hrgr (by simp at hm; rw [hg, hm])
      have hown' := own_kp hown hk' hnr
      have HCOL := Lib.hid hcol
      have HSZ := Lib.hid hsz
      clear hcol hsz hkey hat hR hgr hk' hsz'
      go_wp2_with fail
      refine (hpre_any x p w').mono ?_
      rintro e w2 ⟨rfl, rfl⟩
      obtain ⟨y, hy⟩ : ∃ y, hpre x p = y := ⟨_, rfl⟩
      have HY := Lib.hid hy
      rw [hy]
      clear hy
      cases y
      · go_wp2_with fail
        go_roundg cnt'
        case measure => omega
        case rel => exact ⟨_, cnt', ss, Nat.le_refl _, by omega, hrg', hkw, HCOL.out.pass HY.out, HSZ.out, hown'⟩
      · have hbw : w.heap.size ≤ w'.heap.size := hkw.size
        go_wp2_with (at_builtin; go_must (refine wpl_one_kp dinfo_str Try.underlying38 rfl (by omega) w' w.heap.size rfl _ _ rfl u5 ss.length (ss.map Value.string) (.string x) rfl hown' rfl rfl hbw (by omega) ?_); intro v8 w8 h8 hk8 hv8; have hr8 := hrg'.kept hk8.grownS (fun e => by have := (own_block_lt hown' e.symm).1; have := o1.lt; omega) (row_ne_iter hown' hrg'); have hkw8 : Kp [] w w8 := hkw.then hk8 (fun z hz hlt => by have := (own_block_lt hown' (g := z) (by simpa using hz)).1; omega))
        go_roundg cnt'
        case measure => omega
        case rel => exact ⟨_, cnt', ss ++ [x], Nat.le_refl _, by simp; omega, hr8, hkw8, HCOL.out.step HY.out hlk hD, fun s hs => (List.mem_append.1 hs).elim (HSZ.out s) (fun h => (List.mem_singleton.1 h) ▸ hxl), by simpa using h8⟩
end Go.Proofs.Ytnmogfjbbibeiaa
