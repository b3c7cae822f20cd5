/- Package disk: what is sure stays; what a loss of power left stays. -/
import Derived.Test.YtnmogfjbbibeiaaEa
namespace Go.Proofs.Ytnmogfjbbibeiaa
set_option maxRecDepth 100000
open Go.RowKit
set_option linter.unusedVariables false

theorem ba_app (a b : ByteArray) : (a ++ b).data.toList = a.data.toList ++ b.data.toList := by
  have := bs_append a.data.toList b.data.toList
  rw [bs_of, bs_of] at this
  rw [this, bs_list]
/-- What is sure of a file. -/
def SureI (A : AD) (name S : ByteArray) (T : Bool) : Prop := T = true → ∃ x, A.F name = some x ∧ x.sy = true ∧ S.data.toList <+: x.last.data.toList
theorem set_eq (F : FA) (s : ByteArray) (v : Option AF) : F.set s v s = v := by unfold FA.set; rw [if_pos rfl]
theorem set_ne {F : FA} {s s' : ByteArray} (h : s' ≠ s) (v : Option AF) : F.set s v s' = F s' := by unfold FA.set; rw [if_neg h]
theorem crashA_keeps : ∀ (L : List ByteArray) (ks : List Int) (F : FA) (name : ByteArray) (x : AF), F name = some x → x.sy = true → ∃ y, crashA L ks F name = some y ∧ y.sy = true ∧ x.last.data.toList <+: y.last.data.toList
  | [], _, F, name, x, h, hs => ⟨x, h, hs, List.prefix_rfl⟩
  | s :: L, ks, F, name, x, h, hs => by
    rw [crashA]
    cases hF : F s with
    | none => exact crashA_keeps L ks F name x h hs
    | some z =>
      simp only []
      by_cases e : name = s
      · subst e
        rw [h] at hF
        injection hF with hF
        subst hF
        have e1 : crashFA F name (x.crash ks) = F.set name (some (x.crash ks)) := by
          unfold crashFA
          rw [if_neg (fun h2 => by have : x.sy = false := h2.1; rw [hs] at this; cases this)]
        rw [e1]
        obtain ⟨y, h1, h2, h3⟩ := crashA_keeps L (if x.wait.size = 0 then ks else ks.tail) (F.set name (some (x.crash ks))) name (x.crash ks) (set_eq _ _ _) hs
        refine ⟨y, h1, h2, List.IsPrefix.trans ?_ h3⟩
        show _ <+: (x.last ++ x.wait.extract 0 (cropK ks x.wait.size)).data.toList
        rw [ba_app]
        exact List.prefix_append _ _
      · refine crashA_keeps L _ _ name x ?_ hs
        unfold crashFA
        split
        · rw [set_ne e]; exact h
        · rw [set_ne e]; exact h
theorem SureI.crash {A A' : AD} {name S : ByteArray} {T : Bool} {ks : List Int} (h : SureI A name S T) (hc : A.crash ks A') : SureI A' name S T := by
  intro hT
  obtain ⟨x, h1, h2, h3⟩ := h hT
  obtain ⟨L, _, rfl⟩ := hc
  obtain ⟨y, e1, e2, e3⟩ := crashA_keeps L ks A.F name x h1 h2
  exact ⟨y, e1, e2, h3.trans e3⟩
theorem SureI.append {A : AD} {name S : ByteArray} {T : Bool} (h : SureI A name S T) (s x : ByteArray) : SureI (A.append s x).2 name S T := by
  intro hT
  obtain ⟨y, h1, h2, h3⟩ := h hT
  unfold AD.append
  split
  · exact ⟨y, h1, h2, h3⟩
  · split
    · exact ⟨y, h1, h2, h3⟩
    · split
      · exact ⟨y, h1, h2, h3⟩
      · by_cases e : name = s
        · subst e
          refine ⟨_, set_eq _ _ _, ?_, ?_⟩
          · show A.F.sy name = true
            unfold FA.sy
            rw [h1]
            exact h2
          · show _ <+: (A.F.last name).data.toList
            unfold FA.last
            rw [h1]
            exact h3
        · exact ⟨y, by show A.F.set s _ name = _; rw [set_ne e]; exact h1, h2, h3⟩
theorem SureI.sync {A : AD} {name S : ByteArray} {T : Bool} (h : SureI A name S T) (s : ByteArray) : SureI (A.sync s).2 name S T := by
  intro hT
  obtain ⟨y, h1, h2, h3⟩ := h hT
  unfold AD.sync
  split
  · exact ⟨y, h1, h2, h3⟩
  · split
    · exact ⟨y, h1, h2, h3⟩
    · by_cases e : name = s
      · subst e
        refine ⟨_, set_eq _ _ _, rfl, ?_⟩
        show _ <+: (A.F.last name ++ A.F.wait name).data.toList
        rw [ba_app]
        refine List.IsPrefix.trans ?_ (List.prefix_append _ _)
        unfold FA.last
        rw [h1]
        exact h3
      · exact ⟨y, by show A.F.set s _ name = _; rw [set_ne e]; exact h1, h2, h3⟩
theorem SureI.remove {A : AD} {name S : ByteArray} {T : Bool} (h : SureI A name S T) (s : ByteArray) (hs : ¬ (s = name ∧ (A.remove s).1 = 0)) : SureI (A.remove s).2 name S T := by
  intro hT
  obtain ⟨y, h1, h2, h3⟩ := h hT
  unfold AD.remove at hs ⊢
  split
  · exact ⟨y, h1, h2, h3⟩
  · split
    · exact ⟨y, h1, h2, h3⟩
    · rename_i a1 a2
      rw [if_neg a1, if_neg a2] at hs
      have e : name ≠ s := fun e => hs ⟨e.symm, rfl⟩
      exact ⟨y, by show A.F.set s _ name = _; rw [set_ne e]; exact h1, h2, h3⟩
theorem old_ok {A : AD} {s : ByteArray} (h : A.oldE s = 0) : A.down = false ∧ ∃ x, A.F s = some x := by
  unfold AD.oldE at h
  split at h
  · rename_i h1
    exact absurd h h1
  · rename_i h1
    split at h
    · omega
    · rename_i h2
      refine ⟨refE_down (by simpa using h1), ?_⟩
      cases hF : A.F s with
      | none => exact absurd hF h2
      | some y => exact ⟨y, rfl⟩
/-- A Sync that was answered OK: all is sure. -/
theorem sync_sure {A : AD} {s : ByteArray} (h : (A.sync s).1 = 0) : SureI (A.sync s).2 s ((A.sync s).2.read s) true := by
  intro _
  unfold AD.sync at h ⊢
  split at h
  · rename_i h1
    exact absurd h h1
  · rename_i h1
    split at h
    · exact absurd h (fun e => by cases e)
    · rename_i h2
      rw [if_neg h1, if_neg h2]
      refine ⟨_, set_eq _ _ _, rfl, ?_⟩
      unfold AD.read
      rw [if_neg (by
        rintro (e | e)
        · cases e
        · rw [show (A.tick (A.F.set s (some ⟨A.F.last s ++ A.F.wait s, ⟨#[]⟩, true⟩))).F = A.F.set s (some ⟨A.F.last s ++ A.F.wait s, ⟨#[]⟩, true⟩) from rfl, set_eq] at e
          cases e)]
      have e1 : (A.tick (A.F.set s (some ⟨A.F.last s ++ A.F.wait s, ⟨#[]⟩, true⟩))).F.last s = A.F.last s ++ A.F.wait s := by
        show FA.last (A.F.set s _) s = _
        unfold FA.last
        rw [set_eq]
      have e2 : (A.tick (A.F.set s (some ⟨A.F.last s ++ A.F.wait s, ⟨#[]⟩, true⟩))).F.wait s = ⟨#[]⟩ := by
        show FA.wait (A.F.set s _) s = _
        unfold FA.wait
        rw [set_eq]
      rw [e1, e2]
      show ((A.F.last s ++ A.F.wait s) ++ ⟨#[]⟩).data.toList <+: _
      rw [ba_app]
      simp
/-- A call: what is told to be sure. -/
theorem SureI.did {A A' : AD} {o : DOp} {e : Int} {name S : ByteArray} {T : Bool} (h : SureI A name S T) (hd : A.Did o e A') (hk : o.kind < 6) (hno : ¬ (o.kind = 3 ∧ o.name = name ∧ e = 0)) : SureI A' name S T := by
  rcases hd with ⟨a, b, rfl⟩ | ⟨a, b, rfl⟩ | ⟨a, b, rfl⟩ | ⟨a, b, rfl⟩ | ⟨a, b, c⟩ | ⟨a, b, c⟩ | ⟨a, b, rfl⟩
  · exact h.append _ _
  · exact h.sync _
  · exact h.remove _ fun h2 => hno ⟨a, h2.1, by rw [b]; exact h2.2⟩
  · exact h
  · exact h.crash c
  · omega
  · exact h
theorem SureI.none (A : AD) (name S : ByteArray) : SureI A name S false := fun h => by cases h
theorem SureI.synced {A A' : AD} {o : DOp} {e : Int} (hd : A.Did o e A') (hk : o.kind = 2) (he : e = 0) : SureI A' o.name (A'.read o.name) (A'.has o.name) := by
  rcases hd with ⟨a, b, rfl⟩ | ⟨a, b, rfl⟩ | ⟨a, b, rfl⟩ | ⟨a, b, rfl⟩ | ⟨a, b, c⟩ | ⟨a, b, c⟩ | ⟨a, b, rfl⟩
  · omega
  · intro _
    exact sync_sure (by rw [← b]; exact he) rfl
  all_goals omega
/-- The steps and what is left of a fuse stay small. -/
theorem did_small {A A' : AD} {o : DOp} {e : Int} (hd : A.Did o e A') (hl : A.left ≤ 9223372036854775807) (ho : o.k ≤ 9223372036854775807) : A'.left ≤ 9223372036854775807 ∧ A'.steps ≤ A.steps + 1 := by
  have ht : ∀ F, (A.tick F).left ≤ 9223372036854775807 ∧ (A.tick F).steps ≤ A.steps + 1 := fun F => ⟨by show (if A.fused then A.left - 1 else A.left) ≤ _; split <;> omega, Nat.le_refl _⟩
  rcases hd with ⟨a, b, rfl⟩ | ⟨a, b, rfl⟩ | ⟨a, b, rfl⟩ | ⟨a, b, rfl⟩ | ⟨a, b, c⟩ | ⟨a, b, rfl⟩ | ⟨a, b, rfl⟩
  · unfold AD.append
    split
    · exact ⟨hl, Nat.le_succ _⟩
    · split
      · exact ⟨hl, Nat.le_succ _⟩
      · split
        · exact ⟨hl, Nat.le_succ _⟩
        · exact ht _
  · unfold AD.sync
    split
    · exact ⟨hl, Nat.le_succ _⟩
    · split
      · exact ⟨hl, Nat.le_succ _⟩
      · exact ht _
  · unfold AD.remove
    split
    · exact ⟨hl, Nat.le_succ _⟩
    · split
      · exact ⟨hl, Nat.le_succ _⟩
      · exact ht _
  · exact ⟨by show o.k.toNat ≤ _; omega, Nat.le_succ _⟩
  · obtain ⟨L, _, rfl⟩ := c
    exact ⟨Nat.zero_le _, Nat.le_succ _⟩
  · unfold AD.flip
    split
    · exact ⟨hl, Nat.le_succ _⟩
    · split
      · exact ⟨hl, Nat.le_succ _⟩
      · exact ⟨hl, Nat.le_succ _⟩
  · exact ⟨hl, Nat.le_succ _⟩
/-- Behind a loss of power what is sure is read, in front of whatever is there. -/
theorem SureI.last {A : AD} {name S : ByteArray} {T : Bool} (h : SureI A name S T) (hd : A.down = false) (hT : T = true) : A.has name = true ∧ S.size ≤ (A.read name).size ∧ (A.read name).extract 0 S.size = S := by
  obtain ⟨x, h1, h2, h3⟩ := h hT
  have hr : A.read name = x.last ++ x.wait := by
    unfold AD.read
    rw [if_neg (by rw [hd, h1]; simp)]
    unfold FA.last FA.wait
    rw [h1]
  refine ⟨by unfold AD.has; rw [hd, h1]; rfl, ?_, ?_⟩
  · have := h3.length_le
    rw [hr, ByteArray.size_append]
    simp at this
    omega
  · obtain ⟨t, ht⟩ := h3
    have e : (x.last ++ x.wait) = bs (S.data.toList ++ (t ++ x.wait.data.toList)) := by
      rw [← bs_of (x.last ++ x.wait), ba_app, ← ht, List.append_assoc]
    rw [hr, e, bs_extract]
    have hl : S.size = S.data.toList.length := by simp
    rw [hl, List.take_left, List.drop_zero]
    exact bs_of S
end Go.Proofs.Ytnmogfjbbibeiaa
