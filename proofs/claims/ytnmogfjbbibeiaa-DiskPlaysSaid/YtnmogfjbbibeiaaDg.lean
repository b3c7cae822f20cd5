/- Package disk: Sync. -/
import Derived.Test.YtnmogfjbbibeiaaDf
namespace Go.Proofs.Ytnmogfjbbibeiaa
set_option maxRecDepth 100000
open Go.RowKit Go.Maps Go.WideMaps Go.WideElems Go.ChangeMaps
set_option linter.unusedVariables false

def Syncd (w : World) (d b N : Nat) (F : ByteArray → Option Fl) (down fused : Bool) (left steps : Nat) (s : ByteArray) (e : Ending) (w' : World) : Prop :=
  (oldE F s down ≠ 0 ∧ e = .returned (.int .i64 (oldE F s down)) ∧ w = w') ∨
  (oldE F s down = 0 ∧ (fused = true ∧ left = 0) ∧ e = .returned (.int .i64 50) ∧ DSt w' d b N F true fused left steps ∧ Kp [d] w w') ∨
  (oldE F s down = 0 ∧ ¬ (fused = true ∧ left = 0) ∧ e = .returned (.int .i64 0) ∧
    ∃ y, F s = some y ∧ DSt w' d b N (upd F s ⟨y.g, y.last ++ y.wait, ⟨#[]⟩, true⟩) false fused (if fused then left - 1 else left) (steps + 1) ∧ Kp [d, y.g] w w')
theorem Syncd.ret {w : World} {d b N : Nat} {F : ByteArray → Option Fl} {down fused : Bool} {left steps : Nat} {s : ByteArray} (e : Ending) (w' : World) (h : Syncd w d b N F down fused left steps s e w') : ∃ v, e = .returned v := by
  rcases h with ⟨_, h, _⟩ | ⟨_, _, h, _⟩ | ⟨_, _, h, _⟩ <;> exact ⟨_, h⟩
theorem oldE_ok {F : ByteArray → Option Fl} {s : ByteArray} {down : Bool} (h : oldE F s down = 0) : down = false ∧ ∃ y, F s = some y := by
  unfold oldE at h
  split at h
  · rename_i h1
    exact absurd h h1
  · rename_i h1
    split at h
    · omega
    · rename_i h2
      refine ⟨refE_down (by simpa using h1), ?_⟩
      cases hF : F s with
      | none => exact absurd hF h2
      | some y => exact ⟨y, rfl⟩
set_option maxHeartbeats 4000000 in
theorem sync_any (s : ByteArray) (w : World) {d b N : Nat} {F : ByteArray → Option Fl} {down fused : Bool} {left steps : Nat} (h : DSt w d b N F down fused left steps) (hs : s.size ≤ maxLen)
    (hB : ∀ s x, F s = some x → x.last.size + x.wait.size ≤ 1048576) (hl : left ≤ 9223372036854775807) (hst : steps ≤ 1000000000000) :
    Calls Try.prog 27 #[.pointer (some ⟨d, 0, none⟩), .string s] w (Syncd w d b N F down fused left steps s) := by
  obtain ⟨r, hr⟩ : ∃ r, oldE F s down = r := ⟨_, rfl⟩
  have HRF := Lib.hid hr
  go_enter Try.func27, Try.ntmps27
  go_wp2_with fail
  refine (refusesOld_any s w h hs).mono ?_
  rintro e w2 ⟨rfl, rfl⟩
  rw [hr]
  clear hr
  by_cases h0 : r = 0
  · subst h0
    obtain ⟨hdn, y, hF⟩ := oldE_ok HRF.out
    subst hdn
    have HF := Lib.hid hF
    have hby := hB s y hF
    clear hF
    go_wp2_with fail
    refine (step_any w h hl hst).mono ?_
    rintro e w6 (⟨hf, hl0, rfl, h6, hk6⟩ | ⟨hnf, rfl, h6, hk6⟩)
    · go_wp2_with fail
      go_ret
      exact .inr (.inl ⟨HRF.out, ⟨hf, hl0⟩, rfl, h6, hk6⟩)
    · have c0 := h6.disk.cell 0
      have hlk := look_any h6 hs
      rw [HF.out] at hlk
      simp only [Option.map_some] at hlk
      have hd : Kp [] w6 w6.drew := (Kp.rfl_ [] w6).drew
      have a6 := (h6.file s y HF.out).kp hd (by simp)
      have HF2 := HF
      obtain ⟨yg, yl, yw, ys⟩ := y
      have hby : yl.size + yw.size ≤ 1048576 := hby
      have q1 := a6.cell 1
      go_wp2_with fail
      refine region_sq_l (by kernel_rfl) (by kernel_rfl) (calm_of (fun _ _ _ h => h.2) (fun _ _ h => h) Syncd.ret) ?_
      go_wp2_with fail
      refine (settle_any yg yl yw ys yw.size yw.size w6.drew a6 (by omega) (.inr (.inl ⟨by omega, Int.le_refl _, rfl⟩))).mono ?_
      rintro e w8 ⟨rfl, a8, hk8⟩
      rw [ByteArray.extract_zero_size] at a8
      have q2 := a8.cell 2
      have f2 := a8.frozen 2
      have a9 := a8.set 2 (.bool true)
      have k9 : Kp [yg] w6 (w8.setCell ⟨yg, 2, none⟩ (.bool true)) := ((hd.mono (T := [yg]) (by simp)).trans hk8).set (by simp) _
      have H9 := Lib.hid (h6.turn HF.out ⟨yg, yl ++ yw, ⟨#[]⟩, true⟩ rfl k9 a9)
      go_wp2_with fail
      refine sqQ_end (by rfl) ?_
      go_wp2_with fail
      go_ret
      exact .inr (.inr ⟨HRF.out, hnf, rfl, _, HF.out, H9.out, (hk6.mono (T := [d, yg]) (fun z _ hz => by simp at hz; simp [hz])).then k9 (by simp)⟩)
  · have hne : (r == 0) = false := by rw [beq_eq_false_iff_ne]; exact h0
    go_wp2_with fail
    go_ret
    exact .inl ⟨by rw [HRF.out]; exact h0, by rw [HRF.out]; rfl, rfl⟩
end Go.Proofs.Ytnmogfjbbibeiaa
