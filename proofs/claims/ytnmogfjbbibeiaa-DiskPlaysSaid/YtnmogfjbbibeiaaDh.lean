/- Package disk: Remove. -/
import Derived.Test.YtnmogfjbbibeiaaDg
namespace Go.Proofs.Ytnmogfjbbibeiaa
set_option maxRecDepth 100000
open Go.RowKit Go.Maps Go.WideMaps Go.WideElems Go.ChangeMaps
set_option linter.unusedVariables false

/-- No file under a name. -/
def cut (F : ByteArray → Option Fl) (s : ByteArray) : ByteArray → Option Fl := fun s' => if s' = s then none else F s'
theorem DSt.drop {w w' : World} {d b N : Nat} {F : ByteArray → Option Fl} {down fused : Bool} {left steps : Nat} {s : ByteArray} {D : DataW Unit} (h : DSt w d b N F down fused left steps) (h2 : (∀ s, D.atKey (kl s) .nil = fd (F s)) ∧ ∀ s, Maps.has D (kl s) = (F s).isSome)
    (o : w'.ownsMap Try.prog 9 Rp b N (D.del (kl s))) (k : Kp [b] w w') : DSt w' d b N (cut F s) down fused left steps := by
  have hdb := h.ne_b h.disk
  refine ⟨h.disk.kp k (by simpa using hdb), ⟨_, o, fun s' => ?_, fun s' => ?_⟩, fun s' x e => ?_, fun s1 s2 x1 x2 e1 e2 he => ?_⟩
  · unfold cut
    by_cases e : s' = s
    · subst e
      rw [if_pos rfl, atKey_del_same]
      rfl
    · rw [if_neg e, atKey_del_other (kl_ne e), h2.1]
  · unfold cut
    by_cases e : s' = s
    · subst e
      rw [if_pos rfl, has_del_same]
      rfl
    · rw [if_neg e, has_del_other (kl_ne e), h2.2]
  · unfold cut at e
    split at e
    · cases e
    · exact (h.file s' x e).kp k (by simpa using h.ne_b (h.file s' x e))
  · unfold cut at e1 e2
    split at e1
    · cases e1
    · split at e2
      · cases e2
      · exact h.inj s1 s2 x1 x2 e1 e2 he
def Removed (w : World) (d b N : Nat) (F : ByteArray → Option Fl) (down fused : Bool) (left steps : Nat) (s : ByteArray) (e : Ending) (w' : World) : Prop :=
  (oldE F s down ≠ 0 ∧ e = .returned (.int .i64 (oldE F s down)) ∧ w = w') ∨
  (oldE F s down = 0 ∧ (fused = true ∧ left = 0) ∧ e = .returned (.int .i64 50) ∧ DSt w' d b N F true fused left steps ∧ Kp [d] w w') ∨
  (oldE F s down = 0 ∧ ¬ (fused = true ∧ left = 0) ∧ e = .returned (.int .i64 0) ∧ DSt w' d b N (cut F s) false fused (if fused then left - 1 else left) (steps + 1) ∧ Kp [d, b] w w')
set_option maxHeartbeats 4000000 in
theorem remove_any (s : ByteArray) (w : World) {d b N : Nat} {F : ByteArray → Option Fl} {down fused : Bool} {left steps : Nat} (h : DSt w d b N F down fused left steps) (hs : s.size ≤ maxLen)
    (hl : left ≤ 9223372036854775807) (hst : steps ≤ 1000000000000) :
    Calls Try.prog 29 #[.pointer (some ⟨d, 0, none⟩), .string s] w (Removed w d b N F down fused left steps s) := by
  obtain ⟨r, hr⟩ : ∃ r, oldE F s down = r := ⟨_, rfl⟩
  have HRF := Lib.hid hr
  go_enter Try.func29, Try.ntmps29
  go_wp2_with fail
  refine (refusesOld_any s w h hs).mono ?_
  rintro e w2 ⟨rfl, rfl⟩
  rw [hr]
  clear hr
  by_cases h0 : r = 0
  · subst h0
    obtain ⟨hdn, y, hF⟩ := oldE_ok HRF.out
    subst hdn
    clear hF
    go_wp2_with fail
    refine (step_any w h hl hst).mono ?_
    rintro e w6 (⟨hf, hl0, rfl, h6, hk6⟩ | ⟨hnf, rfl, h6, hk6⟩)
    · go_wp2_with fail
      go_ret
      exact .inr (.inl ⟨HRF.out, ⟨hf, hl0⟩, rfl, h6, hk6⟩)
    · have c0 := h6.disk.cell 0
      obtain ⟨D, o1, o2⟩ := h6.map
      go_wp2_with (at_delete; go_loud (refine wpList_delete_own _ rfl _ _ 55 9 rfl 65 skey Try.underlying55 Rp b N D rfl o1 _ (kl s) rfl (skey_of hs) ?_; intro w7 o7 ht7))
      have k7 : Kp [b] w6 w7 := Kp.of_grown (S := [b]) ht7.grown (fun k hk _ => by injection hk with hk; simp [hk])
      go_ret
      exact .inr (.inr ⟨HRF.out, hnf, rfl, h6.drop o2 o7 k7, (hk6.mono (T := [d, b]) (fun z _ hz => by simp at hz; simp [hz])).then k7 (by simp)⟩)
  · have hne : (r == 0) = false := by rw [beq_eq_false_iff_ne]; exact h0
    go_wp2_with fail
    go_ret
    exact .inl ⟨by rw [HRF.out]; exact h0, by rw [HRF.out]; rfl, rfl⟩
end Go.Proofs.Ytnmogfjbbibeiaa
