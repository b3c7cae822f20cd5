/- Package disk: Append. -/
import Derived.Test.YtnmogfjbbibeiaaDb
namespace Go.Proofs.Ytnmogfjbbibeiaa
set_option maxRecDepth 100000
open Go.RowKit Go.Maps Go.WideMaps Go.WideElems Go.ChangeMaps
set_option linter.unusedVariables false

theorem DSt.off {w w' : World} {d b N : Nat} {F : ByteArray → Option Fl} {down fused : Bool} {left steps : Nat} {S : List Nat} (h : DSt w d b N F down fused left steps) (k : Kp S w w') (h1 : d ∉ S) (h2 : b ∉ S) (h3 : ∀ s x, F s = some x → x.g ∉ S) : DSt w' d b N F down fused left steps := by
  obtain ⟨D, o1, o2⟩ := h.map
  exact ⟨h.disk.kp k h1, ⟨D, om_kp o1 k h2, o2⟩, fun s x hx => (h.file s x hx).kp k (h3 s x hx), h.inj⟩
theorem DSt.ne_b {w : World} {d b N g : Nat} {F : ByteArray → Option Fl} {down fused : Bool} {left steps : Nat} {t : TypeId} {cs : Array Value} (h : DSt w d b N F down fused left steps) (ha : At w g t cs) : g ≠ b := by
  obtain ⟨D, o1, _⟩ := h.map
  exact om_ne_at o1 ha
theorem upd_upd (F : ByteArray → Option Fl) (s : ByteArray) (x y : Fl) : upd (upd F s x) s y = upd F s y := by
  funext s'
  unfold upd
  split <;> rfl
theorem upd_same (F : ByteArray → Option Fl) (s : ByteArray) (x : Fl) : upd F s x s = some x := by unfold upd; rw [if_pos rfl]
/-- A file's bytes turn. -/
theorem DSt.turn {w w' : World} {d b N : Nat} {F : ByteArray → Option Fl} {down fused : Bool} {left steps : Nat} {s : ByteArray} {x : Fl} (h : DSt w d b N F down fused left steps) (hF : F s = some x) (x' : Fl) (hg : x'.g = x.g) (k : Kp [x.g] w w')
    (ha : At w' x.g 70 #[.string x'.last, .string x'.wait, .bool x'.sy]) : DSt w' d b N (upd F s x') down fused left steps := by
  have hb := h.ne_b (h.file s x hF)
  have hd := (h.file s x hF).ne h.disk (by decide)
  obtain ⟨D, o1, o2⟩ := h.map
  refine ⟨h.disk.kp k (by simp; exact fun e => hd e.symm), ⟨D, om_kp o1 k (by simp; exact fun e => hb e.symm), fun s' => ?_, fun s' => ?_⟩, fun s' y e => ?_, fun s1 s2 x1 x2 e1 e2 he => ?_⟩
  · unfold upd
    by_cases e : s' = s
    · subst e
      rw [if_pos rfl, o2.1, hF]
      show DataW.lit _ = DataW.lit _
      rw [hg]
    · rw [if_neg e, o2.1]
  · unfold upd
    by_cases e : s' = s
    · subst e
      rw [if_pos rfl, o2.2, hF]
      rfl
    · rw [if_neg e, o2.2]
  · unfold upd at e
    split at e
    · injection e with e
      subst e
      rw [hg]
      exact ha
    · rename_i hne
      exact (h.file s' y e).kp k (by simp; exact fun e2 => hne (h.inj s' s y x e hF e2))
  · unfold upd at e1 e2
    split at e1 <;> split at e2
    · rename_i a1 a2
      rw [a1, a2]
    · rename_i a1 a2
      injection e1 with e1
      subst e1
      rw [a1]
      exact h.inj s s2 x x2 hF e2 (by rw [← hg]; exact he)
    · rename_i a1 a2
      injection e2 with e2
      subst e2
      rw [a2]
      exact h.inj s1 s x1 x e1 hF (by rw [← hg]; exact he)
    · exact h.inj s1 s2 x1 x2 e1 e2 he
def lastOf (F : ByteArray → Option Fl) (s : ByteArray) : ByteArray := match F s with | none => ⟨#[]⟩ | some x => x.last
def waitOf (F : ByteArray → Option Fl) (s : ByteArray) : ByteArray := match F s with | none => ⟨#[]⟩ | some x => x.wait
def syOf (F : ByteArray → Option Fl) (s : ByteArray) : Bool := match F s with | none => false | some x => x.sy
def gOf (F : ByteArray → Option Fl) (s : ByteArray) : List Nat := ((F s).map (·.g)).toList
/-- What an Append leaves. -/
def Appd (w : World) (d b N : Nat) (F : ByteArray → Option Fl) (down fused : Bool) (left steps : Nat) (s x : ByteArray) (e : Ending) (w' : World) : Prop :=
  (refE s down ≠ 0 ∧ e = .returned (.int .i64 (refE s down)) ∧ w = w') ∨
  (refE s down = 0 ∧ 1048576 < (lastOf F s).size + (waitOf F s).size + x.size ∧ e = .returned (.int .i64 52) ∧ DSt w' d b N F down fused left steps ∧ Kp [] w w') ∨
  (refE s down = 0 ∧ (lastOf F s).size + (waitOf F s).size + x.size ≤ 1048576 ∧ (fused = true ∧ left = 0) ∧ e = .returned (.int .i64 50) ∧ DSt w' d b N F true fused left steps ∧ Kp [d] w w') ∨
  (refE s down = 0 ∧ (lastOf F s).size + (waitOf F s).size + x.size ≤ 1048576 ∧ ¬ (fused = true ∧ left = 0) ∧ e = .returned (.int .i64 0) ∧
    ∃ g, (∀ y, F s = some y → g = y.g) ∧ (F s = none → w.heap.size ≤ g) ∧ DSt w' d b (N + 1) (upd F s ⟨g, lastOf F s, waitOf F s ++ x, syOf F s⟩) false fused (if fused then left - 1 else left) (steps + 1) ∧ Kp (d :: b :: gOf F s) w w')
theorem refE_down {s : ByteArray} {down : Bool} (h : refE s down = 0) : down = false := by
  unfold refE at h
  cases down
  · rfl
  · split at h
    · omega
    · simp at h
set_option maxHeartbeats 8000000 in
theorem append_any (s x : ByteArray) (w : World) {d b N : Nat} {F : ByteArray → Option Fl} {down fused : Bool} {left steps : Nat} (h : DSt w d b N F down fused left steps) (hs : s.size ≤ maxLen) (hx : x.size ≤ 1099511627776) (hN : N < 1000000)
    (hB : ∀ s x, F s = some x → x.last.size + x.wait.size ≤ 1048576) (hl : left ≤ 9223372036854775807) (hst : steps ≤ 1000000000000) :
    Calls Try.prog 25 #[.pointer (some ⟨d, 0, none⟩), .string s, .string x] w (Appd w d b N F down fused left steps s x) := by
  have c0 := h.disk.cell 0
  have hlk := look_any h hs
  obtain ⟨r, hr⟩ : ∃ r, refE s down = r := ⟨_, rfl⟩
  have HRF := Lib.hid hr
  go_enter Try.func25, Try.ntmps25
  go_wp2_with fail
  refine (refuses_any s w h).mono ?_
  rintro e w2 ⟨rfl, rfl⟩
  rw [hr]
  clear hr
  by_cases h0 : r = 0
  · subst h0
    have hdn := refE_down HRF.out
    subst hdn
    cases hF : F s with
    | none =>
      rw [hF] at hlk
      simp only [Option.map_none] at hlk
      have k3 : Kp [] w (w.alloc (.cells #[.string ⟨#[]⟩, .string ⟨#[]⟩, .bool false] 70)) := (Kp.rfl_ [] w).alloc _
      have a3 : At (w.alloc (.cells #[.string ⟨#[]⟩, .string ⟨#[]⟩, .bool false] 70)) w.heap.size 70 #[.string ⟨#[]⟩, .string ⟨#[]⟩, .bool false] := At.new w _ _
      have h3 := h.kp k3
      obtain ⟨gf, hgf⟩ : ∃ gf, w.heap.size = gf := ⟨_, rfl⟩
      have HGF := Lib.hid hgf
      rw [hgf] at a3
      clear hgf
      have hdl := h.disk.lt
      have hbl : b < w.heap.size := by obtain ⟨D, o, _⟩ := h.map; exact o.lt
      have hfl : ∀ s' y, F s' = some y → y.g < w.heap.size := fun s' y e => (h.file s' y e).lt
      have HL : Hid (lastOf F s = ⟨#[]⟩) := Lib.hid (by unfold lastOf; rw [hF])
      have HW : Hid (waitOf F s = ⟨#[]⟩) := Lib.hid (by unfold waitOf; rw [hF])
      have HY : Hid (syOf F s = false) := Lib.hid (by unfold syOf; rw [hF])
      have HSZ : Hid ((lastOf F s).size + (waitOf F s).size = 0) := Lib.hid (by rw [HL.out, HW.out]; rfl)
      go_wp2_with fail
      simp only [HGF.out]
      generalize w.alloc (.cells #[.string ⟨#[]⟩, .string ⟨#[]⟩, .bool false] 70) = w3 at *
      refine (hsize_any gf _ _ _ w3 a3 (by decide) (by decide)).mono ?_
      rintro e w4 ⟨rfl, hk4⟩
      rw [show ((ByteArray.mk #[]).size + (ByteArray.mk #[]).size : Nat) = 0 from rfl]
      have h4 := h3.kp hk4
      have a4 := a3.kp hk4 (by simp)
      have hk4w := k3.trans hk4
      clear h3 a3 hk4 k3 c0 hlk
      by_cases hbig : (1048576 : Int) < (x.size : Int)
      · go_wp2_with fail
        go_ret
        exact .inr (.inl ⟨HRF.out, by have := HSZ.out; omega, rfl, h4, hk4w⟩)
      · go_wp2_with fail
        refine (step_any w4 h4 hl hst).mono ?_
        rintro e w6 (⟨hf, hl0, rfl, h6, hk6⟩ | ⟨hnf, rfl, h6, hk6⟩)
        · go_wp2_with fail
          go_ret
          exact .inr (.inr (.inl ⟨HRF.out, by have := HSZ.out; omega, ⟨hf, hl0⟩, rfl, h6, (hk4w.mono (T := [d]) (by simp)).trans hk6⟩))
        · have a6 := a4.kp hk6 (by simp; have := HGF.out; omega)
          go_wp2_with fail
          refine (hput_any gf _ _ x _ w6 a6 (by show 0 + x.size ≤ _; omega)).mono ?_
          rintro e w7 ⟨rfl, a7, hk7⟩
          have h7 := h6.off hk7 (by simp; have := HGF.out; omega) (by simp; have := HGF.out; omega) (fun s' y e => by simp; have := hfl s' y e; have := HGF.out; omega)
          go_wp2_with fail
          refine (dset_any s ⟨gf, ⟨#[]⟩, ⟨#[]⟩ ++ x, false⟩ w7 h7 hs hN a7 (fun s' y e e2 => by have := hfl s' y e; have := HGF.out; have e3 : y.g = gf := e2; omega)).mono ?_
          rintro e w8 ⟨rfl, h8, hk8⟩
          go_wp2_with fail
          go_ret
          refine .inr (.inr (.inr ⟨HRF.out, by have := HSZ.out; omega, hnf, rfl, gf, by simp [hF], fun _ => by have := HGF.out; omega, by rw [HL.out, HW.out, HY.out]; exact h8, ?_⟩))
          exact (((hk4w.mono (T := d :: b :: gOf F s) (by simp)).then hk6 (by simp)).then hk7 (fun z hz hlt => by simp at hz; have := HGF.out; omega)).then hk8 (by simp)
    | some y =>
      rw [hF] at hlk
      simp only [Option.map_some] at hlk
      have a3 := h.file s y hF
      have hby := hB s y hF
      have HL : Hid (lastOf F s = y.last) := Lib.hid (by unfold lastOf; rw [hF])
      have HW : Hid (waitOf F s = y.wait) := Lib.hid (by unfold waitOf; rw [hF])
      have HY : Hid (syOf F s = y.sy) := Lib.hid (by unfold syOf; rw [hF])
      have HG : Hid (gOf F s = [y.g]) := Lib.hid (by unfold gOf; rw [hF]; rfl)
      have HF := Lib.hid hF
      obtain ⟨yg, yl, yw, ys⟩ := y
      have hdy : yg ≠ d := a3.ne h.disk (by decide)
      clear hF
      go_wp2_with fail
      refine (hsize_any yg yl yw ys w a3 (by have : yl.size + yw.size ≤ 1048576 := hby; omega) (by have : yl.size + yw.size ≤ 1048576 := hby; omega)).mono ?_
      rintro e w4 ⟨rfl, hk4⟩
      have hby : yl.size + yw.size ≤ 1048576 := hby
      have h4 := h.kp hk4
      have a4 := a3.kp hk4 (by simp)
      clear a3 hlk c0
      obtain ⟨z, hz⟩ : ∃ z, yl.size + yw.size = z := ⟨_, rfl⟩
      have HSZ : Hid ((lastOf F s).size + (waitOf F s).size = z) := Lib.hid (by rw [HL.out, HW.out]; exact hz)
      have HYW : Hid (yw.size ≤ 1048576) := Lib.hid (by omega)
      rw [hz] at hby ⊢
      clear hz
      by_cases hbig : (1048576 : Int) < (z : Int) + (x.size : Int)
      · go_wp2_with fail
        go_ret
        exact .inr (.inl ⟨HRF.out, by have := HSZ.out; omega, rfl, h4, hk4⟩)
      · go_wp2_with fail
        refine (step_any w4 h4 hl hst).mono ?_
        rintro e w6 (⟨hf, hl0, rfl, h6, hk6⟩ | ⟨hnf, rfl, h6, hk6⟩)
        · go_wp2_with fail
          go_ret
          exact .inr (.inr (.inl ⟨HRF.out, by have := HSZ.out; omega, ⟨hf, hl0⟩, rfl, h6, (hk4.mono (T := [d]) (by simp)).trans hk6⟩))
        · have a6 := a4.kp hk6 (by simpa using hdy)
          go_wp2_with fail
          refine (hput_any yg yl yw x ys w6 a6 (by have := HYW.out; omega)).mono ?_
          rintro e w7 ⟨rfl, a7, hk7⟩
          have h7 := h6.turn HF.out ⟨yg, yl, yw ++ x, ys⟩ rfl hk7 a7
          go_wp2_with fail
          refine (dset_any s ⟨yg, yl, yw ++ x, ys⟩ w7 h7 hs hN a7 (fun s' y e e2 => h7.inj s' s y _ e (upd_same F s _) e2)).mono ?_
          rintro e w8 ⟨rfl, h8, hk8⟩
          rw [upd_upd] at h8
          go_wp2_with fail
          go_ret
          refine .inr (.inr (.inr ⟨HRF.out, by have := HSZ.out; omega, hnf, rfl, yg, (fun y e => by rw [HF.out] at e; injection e with e; rw [← e]), (fun e => by rw [HF.out] at e; cases e), by rw [HL.out, HW.out, HY.out]; exact h8, ?_⟩))
          rw [HG.out]
          exact (((hk4.mono (T := [d, b, yg]) (by simp)).then hk6 (by simp)).then hk7 (by simp)).then hk8 (by simp)
  · have hne : (r == 0) = false := by rw [beq_eq_false_iff_ne]; exact h0
    go_wp2_with fail
    go_ret
    exact .inl ⟨by rw [HRF.out]; exact h0, by rw [HRF.out]; rfl, rfl⟩
end Go.Proofs.Ytnmogfjbbibeiaa
