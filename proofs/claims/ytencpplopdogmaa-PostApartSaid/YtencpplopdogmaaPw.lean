/- Package post: a letter there twice; the document's own. -/
import Derived.Test.YtencpplopdogmaaPv
namespace Go.Proofs.Ytencpplopdogmaa
set_option maxRecDepth 100000
open Go.RowKit
set_option linter.unusedVariables false

def Twd (w : World) (g : Nat) (T : TypeId) (vk : Value) (most k : Int) (ls : List Ltr) (e : Ending) (w' : World) : Prop :=
  ((AtL ls k).2 = false ∧ e = .returned (.int .i64 51) ∧ Moved w g T vk most ls w') ∨ (∃ l, AtL ls k = (l, true) ∧ Added w g T vk most ls l e w')
theorem thr_no {ls : List Ltr} {k : Int} (h : thr ls k = false) : AtL ls k = (zeroL, false) := by
  unfold AtL
  unfold thr at h
  by_cases h0 : 0 ≤ k
  · rw [if_pos h0, List.getElem?_eq_none (by simp [h0] at h; omega)]
  · rw [if_neg h0]
theorem thr_yes {ls : List Ltr} {k : Int} (h : thr ls k = true) : ∃ (n : Nat) (l : Ltr), k = (n : Int) ∧ n < ls.length ∧ ls[n]? = some l ∧ AtL ls k = (l, true) := by
  have hb2 : 0 ≤ k ∧ k < ls.length := by unfold thr at h; simpa using h
  obtain ⟨n, rfl⟩ : ∃ n : Nat, k = (n : Int) := ⟨k.toNat, by omega⟩
  have hlt : n < ls.length := by omega
  exact ⟨n, ls[n], rfl, hlt, List.getElem?_eq_getElem hlt, AtL_yes (List.getElem?_eq_getElem hlt)⟩
set_option maxHeartbeats 400000 in
theorem ptwin_nil (k : Int) (w : World) : Calls Try.prog 18 #[.pointer none, .int .i64 k] w fun e w' => e = .returned (.int .i64 2) ∧ w = w' := by
  go_enter Try.func18, Try.ntmps18
  go_wp2_with fail
  go_ret
  exact ⟨rfl, rfl⟩
theorem Twd.ret {w w' : World} {g : Nat} {T : TypeId} {vk : Value} {most k : Int} {ls : List Ltr} {e : Ending} (h : Twd w g T vk most k ls e w') : ∃ r, e = .returned (.int .i64 r) := by
  rcases h with ⟨_, h, _⟩ | ⟨l, _, h⟩
  · exact ⟨_, h⟩
  · exact h.ret
theorem Twd.ret' {w : World} {g : Nat} {T : TypeId} {vk : Value} {most k : Int} {ls : List Ltr} (e : Ending) (w' : World) (h : Twd w g T vk most k ls e w') : ∃ v, e = .returned v := by
  obtain ⟨r, h⟩ := h.ret
  exact ⟨_, h⟩
set_option maxHeartbeats 4000000 in
theorem ptwin_any (g : Nat) (T : TypeId) (vk : Value) (most k : Int) (ls : List Ltr) (w : World) (h : Pst w g T vk most ls) (hl : ls.length ≤ 1000000) :
    Calls Try.prog 18 #[.pointer (some ⟨g, 0, none⟩), .int .i64 k] w (Twd w g T vk most k ls) := by
  obtain ⟨b, hb⟩ : ∃ b, thr ls k = b := ⟨_, rfl⟩
  go_enter Try.func18, Try.ntmps18
  go_wp2_with fail
  refine (there_to g T vk most k ls b w hb h).mono ?_
  rintro e w2 ⟨rfl, rfl⟩
  cases b
  · go_wp2_with fail
    go_ret
    exact .inl ⟨by rw [thr_no hb], rfl, Moved.of_kp h (Kp.rfl_ _ _)⟩
  obtain ⟨kn, l, rfl, hlt, hln, hat⟩ := thr_yes hb
  obtain ⟨A, c, rfl⟩ := h.2.slice
  obtain ⟨gk, rfl, r0, r1, r2⟩ := h.2.at_ hln
  have c0 : w.cell? ⟨g, 0, none⟩ = some (.slice (some ⟨gk, 0, none⟩) ls.length c) := h.1.cell 0
  have b2 : (kn : Int) < (ls.length : Int) := by omega
  go_wp2_with fail
  have HAT := Lib.hid hat
  have hd : Kp [] w w.drew := (Kp.rfl_ [] w).drew
  have c0 : w.drew.cell? ⟨g, 0, none⟩ = some (.slice (some ⟨gk, 0, none⟩) ls.length c) := h.1.cell 0
  have r0 : w.drew.cell? ⟨gk, kn * 3, none⟩ = some (.int .i64 l.f) := r0
  have r1 : w.drew.cell? ⟨gk, kn * 3 + 1, none⟩ = some (.int .i64 l.t) := r1
  have r2 : w.drew.cell? ⟨gk, kn * 3 + 2, none⟩ = some (.string l.d) := r2
  clear hb hat
  refine region_sq_l (by kernel_rfl) (by kernel_rfl) (calm_of (fun _ _ _ h => h.2) (fun _ _ h => h) Twd.ret') ?_
  go_wp2_with fail
  refine (padd_any g T (.slice (some ⟨gk, 0, none⟩) ls.length c) most ls l w.drew (h.kp hd (by simp) (by simp)) hl).mono ?_
  intro e w8 h8
  have h9 := h8.before hd
  obtain ⟨r, rfl⟩ := h8.ret
  go_wp2_with fail
  refine sqQ_end (by rfl) ?_
  go_wp2_with fail
  go_ret
  exact .inr ⟨l, HAT.out, h9⟩
set_option maxHeartbeats 4000000 in
theorem rtwin_any (g : Nat) (T : TypeId) (vk : Value) (most k : Int) (ls : List Ltr) (w : World) (h : Pst w g T vk most ls) (hl : ls.length ≤ 1000000) (hN : ∀ l ∈ ls, isN l.f = true ∧ isN l.t = true) :
    Calls Try.prog 22 #[.pointer (some ⟨g, 0, none⟩), .int .i64 k] w (Twd w g T vk most k ls) := by
  obtain ⟨⟨l, b⟩, hb⟩ : ∃ b, AtL ls k = b := ⟨_, rfl⟩
  go_enter Try.func22, Try.ntmps22
  go_wp2_with fail
  refine (rat_any g T vk most k ls w h hl).mono ?_
  rintro e w2 ⟨rfl, hk2⟩
  rw [hb]
  have hk3 := hk2.alloc (.cells #[.int .i64 l.f, .int .i64 l.t, .string l.d] 33)
  unfold lv
  cases b
  · go_wp2_with fail
    go_ret
    exact .inl ⟨by rw [hb], rfl, Moved.of_kp h hk3⟩
  have hm : isN l.f = true ∧ isN l.t = true := by
    unfold AtL at hb
    split at hb
    · split at hb
      · rename_i x hx
        injection hb with hb _
        subst hb
        exact hN _ (List.mem_of_getElem? hx)
      · injection hb with _ hb; cases hb
    · injection hb with _ hb; cases hb
  go_wp2_with fail
  refine (rpsend_any g T vk most ls l _ ⟨h.1.kp hk3 (by simp), h.2.kp hk3 (by simp)⟩ hl).mono ?_
  intro e w4 h4
  have hA : Added w g T vk most ls l e w4 := by
    rcases h4 with ⟨hno, _⟩ | ⟨_, hA⟩
    · exact absurd hm hno
    · exact hA.before hk3
  have he : ∃ r, e = .returned (.int .i64 r) := by rcases hA with ⟨_, h, _⟩ | ⟨_, h, _⟩ <;> exact ⟨_, h⟩
  obtain ⟨r, rfl⟩ := he
  go_wp2_with fail
  go_ret
  exact .inr ⟨l, hb, hA⟩
end Go.Proofs.Ytencpplopdogmaa
