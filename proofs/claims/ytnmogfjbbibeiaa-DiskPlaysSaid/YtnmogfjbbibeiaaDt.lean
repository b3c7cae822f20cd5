/- Package disk: Copy. -/
import Derived.Test.YtnmogfjbbibeiaaDs
namespace Go.Proofs.Ytnmogfjbbibeiaa
set_option maxRecDepth 100000
open Go.RowKit Go.Maps Go.WideMaps Go.WideElems Go.ChangeMaps
set_option linter.unusedVariables false

/-- What a file has, whatever block it lies in. -/
structure AF where
  last : ByteArray
  wait : ByteArray
  sy : Bool
def Fl.af (x : Fl) : AF := ⟨x.last, x.wait, x.sy⟩
/-- The new one's files: those that came. -/
def Cop (w : World) (F : ByteArray → Option Fl) (D : DataW Unit) (lf : Lit → Bool) (F' : ByteArray → Option Fl) : Prop :=
  (∀ s x, F' s = some x → w.heap.size ≤ x.g) ∧ ∀ s, (F' s).map Fl.af = if Maps.has D (kl s) = true ∧ lf (kl s) = false then (F s).map Fl.af else none
theorem Cop.start (w : World) (F : ByteArray → Option Fl) (D : DataW Unit) : Cop w F D (Maps.has D) (fun _ => none) :=
  ⟨by simp, fun s => by rw [if_neg (fun h => by rw [h.1] at h; cases h.2)]; rfl⟩
theorem Cop.step {w : World} {F : ByteArray → Option Fl} {D : DataW Unit} {lf : Lit → Bool} {F' : ByteArray → Option Fl} (h : Cop w F D lf F') {x : ByteArray} {y : Fl} (hx : F x = some y) (hD : Maps.has D (kl x) = true) {g : Nat} (hg : w.heap.size ≤ g) :
    Cop w F D (fun z => lf z && !z.sameKey (kl x)) (upd F' x ⟨g, y.last, y.wait, y.sy⟩) := by
  refine ⟨fun s z hz => ?_, fun s => ?_⟩
  · unfold upd at hz
    split at hz
    · injection hz with hz
      subst hz
      exact hg
    · exact h.1 s z hz
  · unfold upd
    by_cases e : s = x
    · subst e
      rw [if_pos rfl, if_pos ⟨hD, by simp [lit_same.2 rfl]⟩, hx]
      rfl
    · rw [if_neg e, h.2]
      have : Lit.sameKey (kl s) (kl x) = false := by
        cases hh : Lit.sameKey (kl s) (kl x) with
        | false => rfl
        | true => exact absurd (lit_same.1 hh) e
      simp [this]
theorem Cop.done {w : World} {F : ByteArray → Option Fl} {D : DataW Unit} {lf : Lit → Bool} {F' : ByteArray → Option Fl} (h : Cop w F D lf F') (hl : ∀ k, lf k = false) (hD : ∀ s, Maps.has D (kl s) = (F s).isSome) (s : ByteArray) : (F' s).map Fl.af = (F s).map Fl.af := by
  rw [h.2, hl, hD]
  cases F s <;> simp
theorem iter_ne_at {w : World} {b r n cnt g : Nat} {D : DataW Unit} {left : Lit → Bool} {t : TypeId} {cs : Array Value} (h : w.ranges Try.prog 9 Rp b r n D left cnt) (ha : At w g t cs) : g ≠ r := by
  rintro rfl
  obtain ⟨es, clock, since, seen, c0, hb, _, _, _, hr, _⟩ := h
  have h2 : w.heap[g]? = some (.cells cs t (0, 0)) := ha
  rw [hr] at h2
  cases h2
theorem iter_ne_map {w : World} {b r n cnt b' n' : Nat} {D D' : DataW Unit} {left : Lit → Bool} (h : w.ranges Try.prog 9 Rp b r n D left cnt) (ho : w.ownsMap Try.prog 9 Rp b' n' D') : b' ≠ r := by
  rintro rfl
  obtain ⟨es, clock, since, seen, c0, hb, _, _, _, hr, _⟩ := h
  obtain ⟨es', clock', h2, _⟩ := ho
  rw [hr] at h2
  cases h2
theorem DSt.iter {w w' : World} {b0 r n cnt d b N : Nat} {D : DataW Unit} {lf : Lit → Bool} {F : ByteArray → Option Fl} {down fused : Bool} {left steps : Nat} (h : DSt w d b N F down fused left steps) (hr : w.ranges Try.prog 9 Rp b0 r n D lf cnt) (k : Kp [r] w w') : DSt w' d b N F down fused left steps := by
  obtain ⟨D', o1, o2⟩ := h.map
  exact h.off k (by simpa using iter_ne_at hr h.disk) (by simpa using iter_ne_map hr o1) fun s x hx => by simpa using iter_ne_at hr (h.file s x hx)
theorem DSt.mono {w : World} {d b N N' : Nat} {F : ByteArray → Option Fl} {down fused : Bool} {left steps : Nat} (h : DSt w d b N F down fused left steps) (hN : N ≤ N') : DSt w d b N' F down fused left steps := by
  obtain ⟨D, o1, o2⟩ := h.map
  exact ⟨h.disk, ⟨D, o1.mono hN, o2⟩, h.file, h.inj⟩
theorem DSt.put {w w' : World} {d b N : Nat} {F : ByteArray → Option Fl} {down fused : Bool} {left steps : Nat} {D : DataW Unit} {s : ByteArray} {x : Fl} (h : DSt w d b N F down fused left steps) (h1 : w.ownsMap Try.prog 9 Rp b N D)
    (h2 : (∀ s, D.atKey (kl s) .nil = fd (F s)) ∧ ∀ s, Maps.has D (kl s) = (F s).isSome) (o7 : w'.ownsMap Try.prog 9 Rp b (N + 1) (D.put (kl s) (.lit (.int .i64 x.g)))) (k7 : Kp [b] w w')
    (hx : At w x.g 70 #[.string x.last, .string x.wait, .bool x.sy]) (hne : ∀ s' x', F s' = some x' → x'.g = x.g → s' = s) : DSt w' d b (N + 1) (upd F s x) down fused left steps := by
  have hdb := om_ne_at h1 h.disk
  have hxb := om_ne_at h1 hx
  have hfb : ∀ s' x', F s' = some x' → x'.g ≠ b := fun s' x' e => om_ne_at h1 (h.file s' x' e)
  refine ⟨h.disk.kp k7 (by simpa using hdb), ⟨_, o7, fun s' => ?_, fun s' => ?_⟩, fun s' x' e => ?_, fun s1 s2 x1 x2 e1 e2 he => ?_⟩
  · unfold upd
    by_cases e : s' = s
    · subst e
      rw [if_pos rfl, atKey_put_same h1.isMap (kl_key _)]
      rfl
    · rw [if_neg e, atKey_put_other (kl_ne e), h2.1]
  · unfold upd
    by_cases e : s' = s
    · subst e
      rw [if_pos rfl, has_put_same h1.isMap (kl_key _)]
      rfl
    · rw [if_neg e, has_put_other (kl_ne e), h2.2]
  · unfold upd at e
    split at e
    · injection e with e
      subst e
      exact hx.kp k7 (by simpa using hxb)
    · exact (h.file s' x' e).kp k7 (by simpa using hfb s' x' e)
  · unfold upd at e1 e2
    split at e1 <;> split at e2
    · rename_i a1 a2
      rw [a1, a2]
    · rename_i a1 a2
      injection e1 with e1
      subst e1
      rw [a1, hne s2 x2 e2 he.symm]
    · rename_i a1 a2
      injection e2 with e2
      subst e2
      rw [a2, hne s1 x1 e1 he]
    · exact h.inj s1 s2 x1 x2 e1 e2 he
def Copied (w : World) (N : Nat) (F : ByteArray → Option Fl) (down fused : Bool) (left steps : Nat) (e : Ending) (w' : World) : Prop :=
  ∃ d' b' F', e = .returned (.pointer (some ⟨d', 0, none⟩)) ∧ DSt w' d' b' N F' down fused left steps ∧ (∀ s, (F' s).map Fl.af = (F s).map Fl.af) ∧ (∀ x, foot d' b' F' x → w.heap.size ≤ x) ∧ Kp [] w w'
theorem Copied.ret {w : World} {N : Nat} {F : ByteArray → Option Fl} {down fused : Bool} {left steps : Nat} (e : Ending) (w' : World) (h : Copied w N F down fused left steps e w') : ∃ v, e = .returned v := by
  obtain ⟨d', b', F', h, _⟩ := h
  exact ⟨_, h⟩
set_option maxHeartbeats 8000000 in
theorem copy_any (w : World) {d b N : Nat} {F : ByteArray → Option Fl} {down fused : Bool} {left steps : Nat} (h : DSt w d b N F down fused left steps) (hN : N < 1000000) :
    Calls Try.prog 23 #[.pointer (some ⟨d, 0, none⟩)] w (Copied w N F down fused left steps) := by
  have hmm := @run_makeMap Try.prog
  have HBL : Hid (b < w.heap.size) := Lib.hid (by obtain ⟨D0, q0, _⟩ := h.map; exact q0.lt)
  have hd0 : Kp [] w w.drew := (Kp.rfl_ [] w).drew
  have h0 := h.kp hd0
  have e0 := h0.disk.cell 0
  have e1 := h0.disk.cell 1
  have e2 := h0.disk.cell 2
  have e3 := h0.disk.cell 3
  have e4 := h0.disk.cell 4
  have c0 := h.disk.cell 0
  go_enter Try.func23, Try.ntmps23
  go_wp2_with fail
  refine region_plan [.row [1, 2, 3, 4, 5, 6, 7, 8, 9, 10, 11, 12, 13, 14, 15, 16], .kept 0, .row [17, 18, 19]] (by kernel_rfl) (by kernel_rfl) (calm_of (fun _ _ _ h => h.2) (fun _ _ h => h) Copied.ret) ?_
  simp only [wpPlan, pickL, List.filterMap_cons, List.filterMap_nil, List.getElem?_cons_zero, List.getElem?_cons_succ]
  go_wp2_with fail
  have k1 : Kp [] w (w.alloc (.map #[] 0)).drew := ((Kp.rfl_ [] w).alloc _).drew
  refine ⟨⟨k1.size, fun i hi _ => k1.block i hi (by simp)⟩, ?_⟩
  go_wp2_with fail
  refine sqQ_end (by rfl) ?_
  have k0 : Kp [] w (w.alloc (.map #[] 0)) := (Kp.rfl_ [] w).alloc _
  have k2 : Kp [] (w.alloc (.map #[] 0)) (((w.alloc (.map #[] 0)).alloc (.cells #[.map (some w.heap.size), .bool down, .bool fused, .int .i64 left, .int .i64 steps] 57)).drew) := ((Kp.rfl_ [] _).alloc _).drew
  have k3 := k0.trans k2
  have a3 : At (((w.alloc (.map #[] 0)).alloc (.cells #[.map (some w.heap.size), .bool down, .bool fused, .int .i64 left, .int .i64 steps] 57)).drew) (w.heap.size + 1) 57 #[.map (some w.heap.size), .bool down, .bool fused, .int .i64 left, .int .i64 steps] := At.new_ (Array.size_push _)
  have o3 := om_kp (World.ownsMap_made w Try.prog 9 Rp) k2 (by simp)
  have hD3 : DSt (((w.alloc (.map #[] 0)).alloc (.cells #[.map (some w.heap.size), .bool down, .bool fused, .int .i64 left, .int .i64 steps] 57)).drew) (w.heap.size + 1) w.heap.size 0 (fun _ => none) down fused left steps := ⟨a3, ⟨_, o3, fun s => rfl, fun s => rfl⟩, by simp, by simp⟩
  generalize (((w.alloc (.map #[] 0)).alloc (.cells #[.map (some w.heap.size), .bool down, .bool fused, .int .i64 left, .int .i64 steps] 57)).drew) = w3 at *
  have h3 := h.kp k3
  have c3 := h3.disk.cell 0
  obtain ⟨D, o1, o2, oh⟩ := h3.map
  have hN2 : Maps.size D ≤ N := o1.size_le
  obtain ⟨dn, hdn⟩ : ∃ dn, w.heap.size + 1 = dn := ⟨_, rfl⟩
  obtain ⟨bn, hbn⟩ : ∃ bn, w.heap.size = bn := ⟨_, rfl⟩
  have HDN : Hid (w.heap.size ≤ dn ∧ w.heap.size ≤ bn) := Lib.hid (by omega)
  rw [hdn, hbn] at hD3
  rw [hdn]
  clear hdn hbn e0 e1 e2 e3 e4 h0 c0 a3 o3 k0 k2 hd0
  go_wp2_with (at_range; go_loud (refine wpList_range_own _ rfl _ 55 rfl 9 65 skey Try.underlying55 Rp b N D rfl o1 ?_; intro w4 hrg hg4 hs4))
  go_frame
  have k4 : Kp [] w3 w4 := Kp.of_grown hg4 (by simp)
  obtain ⟨r, hr⟩ : ∃ r, w3.heap.size = r := ⟨_, rfl⟩
  rw [hr] at hrg ⊢
  have HR : Hid (w.heap.size ≤ r) := Lib.hid (by rw [← hr]; exact k3.size)
  clear hr
  go_loopg [] (Maps.size D) (fun gk wr => ∃ (lf : Lit → Bool) (cnt nn : Nat) (F' : ByteArray → Option Fl), cnt ≤ gk ∧ nn + cnt ≤ Maps.size D ∧ wr.ranges Try.prog 9 Rp b r N D lf cnt ∧ Kp [] w wr ∧ DSt wr dn bn nn F' down fused left steps ∧ Cop w F D lf F')
  case atStart => exact ⟨_, _, 0, _, Nat.le_refl _, by omega, hrg, k3.trans k4, hD3.kp k4, Cop.start w F D⟩
  case round =>
    obtain ⟨lf, cnt, nn, F', hgk, hcn, hrgr, hkr, hDr, hcop⟩ := hrel
    have HCOP := Lib.hid hcop
    have HOH := Lib.hid oh
    have HO2 := Lib.hid o2
    clear hcop oh o2
    go_wp2_with (at_next; go_loud (refine wpList_next_ranges _ rfl _ rfl 9 skey Rp Value.string mkP invS invP b r N D lf cnt rfl hrgr ?_ ?_))
    · intro hc0 hl0
      have HD := Lib.hid (HCOP.out.done hl0 HOH.out)
      clear hl0
      go_wp2_with fail
      go_ret
      refine ⟨dn, bn, F', rfl, hDr.mono (by omega), HD.out, fun x hx => ?_, hkr⟩
      have h1 := HDN.out
      rcases hx with e | e | ⟨s, y, e1, e2⟩
      · omega
      · omega
      · have := HCOP.out.1 s y e1
        omega
    · intro x c kl' a ps w' cnt' hkey hlk hR hat hrg' hltc hgr hsz' hen
      obtain ⟨xs', ex, rfl, hxl⟩ := string_of_keyOf Try.underlying9 hkey
      obtain rfl : x = xs' := by injection ex
      have hkl : Lit.string x.data.toList = kl x := rfl
      rw [hkl] at hlk hat hrg'
      have hD : Maps.has D (kl x) = true := has_true_of_atKey hat
      obtain ⟨y, hy⟩ : ∃ y, F x = some y := Option.isSome_iff_exists.1 ((HOH.out x).symm.trans hD)
      have ha : a = .lit (.int .i64 y.g) := by rw [← hat .nil, HO2.out x, hy]; rfl
      subst ha
      have hc := Rp_inv hR
      rw [hc] at hen
      have hcs : ∀ g, w.heap.size ≤ g → Cop w F D (fun z => lf z && !z.sameKey (kl x)) (upd F' x ⟨g, y.last, y.wait, y.sy⟩) := fun g hg => HCOP.out.step hy hD hg
      have hk' : Kp [r] wr w' := Kp.of_grown hgr (fun k hk _ => by injection hk with hk; simp [hk])
      have hkw : Kp [] w w' := hkr.then hk' (fun z hz hlt => by simp at hz; have := HR.out; omega)
      have hD' := hDr.iter hrgr hk'
      have hDo := h.kp hkw
      have ay := hDo.file x y hy
      have y0 := ay.cell 0
      have y1 := ay.cell 1
      have y2 := ay.cell 2
      have HCS := Lib.hid hcs
      have HFW := Lib.hid HCOP.out.1
      clear hcs hkey hR hat hgr hk' hD hy hc hsz'
      have k8 : Kp [] w' (w'.alloc (.cells #[.string y.last, .string y.wait, .bool y.sy] 70)) := (Kp.rfl_ [] w').alloc _
      have a8 : At (w'.alloc (.cells #[.string y.last, .string y.wait, .bool y.sy] 70)) w'.heap.size 70 #[.string y.last, .string y.wait, .bool y.sy] := At.new w' _ _
      have hD8 := hD'.kp k8
      have hr8 := hrg'.kept k8.grown (by simp) (by simp)
      have cd := hD8.disk.cell 0
      obtain ⟨Dn, p1, p2⟩ := hD8.map
      have hnew : ∀ s' x', F' s' = some x' → x'.g = w'.heap.size → s' = x := fun s' x' e e2 => by have := (hD'.file s' x' e).lt; omega
      go_wp2_with (at_mapUpdate; go_loud (refine wpList_mapUpdate_own _ rfl _ _ _ 55 rfl 9 65 skey Try.underlying55 Rp bn nn Dn rfl p1 (by unfold maxLen; omega) _ _ (kl x) rfl rfl (skey_of hxl) (.lit (.int .i64 w'.heap.size)) [] rfl ?_; intro w7 o7 hg7))
      have k7 : Kp [bn] (w'.alloc (.cells #[.string y.last, .string y.wait, .bool y.sy] 70)) w7 := Kp.of_grown (S := [bn]) hg7 (fun k hk _ => by injection hk with hk; simp [hk])
      have hD9 := hD8.put (x := ⟨w'.heap.size, y.last, y.wait, y.sy⟩) p1 p2 o7 k7 a8 hnew
      have hr9 := hr8.kept hg7 (fun e => by injection e with e; have := HDN.out; have := HBL.out; omega) (fun e => by injection e with e; exact iter_ne_map hr8 p1 e.symm)
      go_roundg cnt'
      case measure => omega
      case rel => exact ⟨_, cnt', nn + 1, _, Nat.le_refl _, by omega, hr9, (hkw.trans k8).then k7 (fun z hz hlt => by simp at hz; have := HDN.out; omega), hD9, HCS.out _ hkw.size⟩
end Go.Proofs.Ytnmogfjbbibeiaa
