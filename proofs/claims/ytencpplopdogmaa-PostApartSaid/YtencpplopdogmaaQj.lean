/- Package post: posts of the call's own; two of them; awake. -/
import Derived.Test.YtencpplopdogmaaQi
namespace Go.Proofs.Ytencpplopdogmaa
set_option maxRecDepth 100000
open Go.RowKit
set_option linter.unusedVariables false

/-- A post that was made since w. -/
def PF (w wi : World) (g : Nat) (T : TypeId) (v : Value) (most : Int) (ls : List Ltr) : Prop := Pst wi g T v most ls ∧ Kp [] w wi ∧ w.heap.size ≤ g ∧ ∀ x, v.ownBlock = some x → w.heap.size ≤ x
theorem PF.moved {w wi w' : World} {g : Nat} {T : TypeId} {v : Value} {most : Int} {ls ls' : List Ltr} (h : PF w wi g T v most ls) (hm : Moved wi g T v most ls' w') : ∃ v', PF w w' g T v' most ls' := by
  obtain ⟨v', h1, h2, h3⟩ := hm
  refine ⟨v', h1, h.2.1.then h2 fun x hx hlt => ?_, h.2.2.1, fun x hx => ?_⟩
  · exfalso
    rcases List.mem_cons.1 hx with rfl | hx
    · have := h.2.2.1; omega
    · have := h.2.2.2 x (by simpa using hx); omega
  · rcases h3 x hx with h4 | h4
    · exact h.2.2.2 x h4
    · exact Nat.le_trans h.2.1.size h4
theorem Moved.keeps {w w' : World} {g : Nat} {T : TypeId} {vk : Value} {most : Int} {ls : List Ltr} (h : Moved w g T vk most ls w') : Kp (g :: vk.ownBlock.toList) w w' := by
  obtain ⟨v', _, h, _⟩ := h
  exact h
theorem PF.kp {w wi w' : World} {g : Nat} {T : TypeId} {v : Value} {most : Int} {ls : List Ltr} (h : PF w wi g T v most ls) (k : Kp [] wi w') : PF w w' g T v most ls :=
  ⟨h.1.kp k (by simp) (by simp), h.2.1.trans k, h.2.2⟩
theorem sent_ok {w w' : World} {g : Nat} {T : TypeId} {vk : Value} {most : Int} {ls : List Ltr} {l : Ltr} {e : Ending} (h : Sent w g T vk most ls l e w') (hf : isN l.f = true) (ht : isN l.t = true) (hl : (ls.length : Int) < most) : e = .returned (.int .i64 0) ∧ Moved w g T vk most (ls ++ [l]) w' := by
  rcases h with ⟨h, _⟩ | ⟨_, h | h⟩
  · exact absurd ⟨hf, ht⟩ h
  · exact h.2
  · exact absurd hl h.1
theorem sent_full {w w' : World} {g : Nat} {T : TypeId} {vk : Value} {most : Int} {ls : List Ltr} {l : Ltr} {e : Ending} (h : Sent w g T vk most ls l e w') (hf : isN l.f = true) (ht : isN l.t = true) (hl : ¬ (ls.length : Int) < most) : e = .returned (.int .i64 52) ∧ Moved w g T vk most ls w' := by
  rcases h with ⟨h, _⟩ | ⟨_, h | h⟩
  · exact absurd ⟨hf, ht⟩ h
  · exact absurd h.1 hl
  · exact h.2
set_option maxHeartbeats 4000000 in
theorem awake_any (w : World) : Calls Try.prog 9 #[] w fun e w' => e = .returned (.bool true) ∧ Kp [] w w' := by
  go_enter Try.func9, Try.ntmps9
  go_wp2_with fail
  refine (pnew_any 2 w).mono ?_
  rintro e w1 (⟨_, rfl, hp, hk⟩ | ⟨h, _⟩)
  rotate_left
  · exact absurd (by omega) h
  have h0 : PF w w1 w.heap.size 58 (.slice none 0 0) 2 [] := ⟨hp, hk, Nat.le_refl _, by simp [Value.ownBlock]⟩
  obtain ⟨g, hg⟩ : ∃ g, w.heap.size = g := ⟨_, rfl⟩
  rw [hg] at h0 ⊢
  go_wp2_with fail
  refine (psend_any g _ _ 2 [] ⟨0, 1, ⟨#[97]⟩⟩ w1 h0.1 (by simp)).mono ?_
  intro e w2 hs2
  obtain ⟨rfl, hm2⟩ := sent_ok hs2 rfl rfl (by simp)
  obtain ⟨v2, h2⟩ := h0.moved hm2
  clear hs2 hm2
  clear h0 hp hk
  go_wp2_with fail
  refine (psend_any g _ _ 2 _ ⟨1, 6, ⟨#[98]⟩⟩ w2 h2.1 (by simp)).mono ?_
  intro e w3 hs3
  obtain ⟨rfl, hm3⟩ := sent_ok hs3 rfl rfl (by simp)
  obtain ⟨v3, h3⟩ := h2.moved hm3
  clear hs3 hm3
  clear h2
  go_wp2_with fail
  refine (psend_any g _ _ 2 _ ⟨0, 0, ⟨#[]⟩⟩ w3 h3.1 (by simp)).mono ?_
  intro e w4 hs4
  obtain ⟨rfl, hm4⟩ := sent_full hs4 rfl rfl (by simp)
  obtain ⟨v4, h4⟩ := h3.moved hm4
  clear hs4 hm4
  clear h3
  go_wp2_with fail
  refine (ptake_any g _ _ 2 0 _ w4 h4.1 (by simp)).mono ?_
  rintro e w5 (⟨h, _⟩ | ⟨l, hl, rfl, hm5⟩)
  · cases h
  have hl : l = ⟨0, 1, ⟨#[97]⟩⟩ := by
    have := congrArg Prod.fst hl
    exact this.symm
  subst hl
  obtain ⟨v5, h5⟩ := h4.moved hm5
  clear h4 hl hm5
  unfold lv
  obtain ⟨gt, hgt⟩ : ∃ gt, w5.heap.size = gt := ⟨_, rfl⟩
  have b5 : At (w5.alloc (.cells #[.int .i64 0, .int .i64 1, .string ⟨#[97]⟩] 33)) w5.heap.size 33 #[.int .i64 0, .int .i64 1, .string ⟨#[97]⟩] := At.new w5 _ _
  have hgl : g < gt := by rw [← hgt]; exact h5.1.1.lt
  have hob : ∀ x, v5.ownBlock = some x → x < gt := fun x hx => by rw [← hgt]; exact (h5.1.2.ob hx).2
  have h5a := h5.kp ((Kp.rfl_ [] w5).alloc (.cells #[.int .i64 0, .int .i64 1, .string ⟨#[97]⟩] 33))
  rw [show outL ([] ++ [(⟨0, 1, ⟨#[97]⟩⟩ : Ltr)] ++ [⟨1, 6, ⟨#[98]⟩⟩]) 0 = [⟨1, 6, ⟨#[98]⟩⟩] from rfl] at h5a
  rw [hgt] at b5
  clear h5
  go_wp2_with fail
  generalize w5.alloc (.cells #[.int .i64 0, .int .i64 1, .string ⟨#[97]⟩] 33) = w5a at *
  refine (ptwin_any g _ _ 2 0 _ w5a h5a.1 (by simp)).mono ?_
  rintro e w6 (⟨h, _⟩ | ⟨l, hl, h6⟩)
  · cases h
  have hl : l = ⟨1, 6, ⟨#[98]⟩⟩ := (congrArg Prod.fst hl).symm
  subst hl
  clear hl
  rcases h6 with ⟨_, rfl, hm6⟩ | ⟨h, _⟩
  rotate_left
  · exact absurd (by simp) h
  have b6 := b5.kp hm6.keeps (by simp; exact ⟨by omega, fun e => by have := hob _ e; omega⟩)
  obtain ⟨v6, h6⟩ := h5a.moved hm6
  clear h5a hm6
  go_wp2_with fail
  refine (pnew_any 513 w6).mono ?_
  rintro e w7 (⟨h, _⟩ | ⟨_, rfl, rfl⟩)
  · exact absurd h (by omega)
  have d2 := b6.cell 2
  go_wp2_with fail
  refine (plen_any g _ _ 2 _ w6 h6.1).mono ?_
  rintro e w8 ⟨rfl, rfl⟩
  have k7 : Kp [] w6 (w6.alloc (.cells #[.int .i64 6] 3)) := (Kp.rfl_ [] w6).alloc _
  have b7 : At (w6.alloc (.cells #[.int .i64 6] 3)) w6.heap.size 3 #[.int .i64 6] := At.new w6 _ _
  have h7 := h6.kp k7
  have hls := Ls.of_at b7
  have hne : ∀ ad, (some ⟨w6.heap.size, 0, none⟩ : Option Addr) = some ad → v6.ownBlock ≠ some ad.block := by
    rintro ad ⟨rfl⟩ e
    have := (h6.1.2.ob e).2
    exact Nat.lt_irrefl _ this
  go_wp2_with fail
  refine (ppurge_any _ 1 1 [6] g _ _ 2 _ _ h7.1 hls (by unfold maxLen; omega) (by simp) (fun _ => hne)).mono ?_
  rintro e w8 ⟨rfl, h8⟩
  obtain ⟨v8, h8⟩ := h7.moved h8
  rw [show keepL [6] ([(⟨1, 6, ⟨#[98]⟩⟩ : Ltr)] ++ [⟨1, 6, ⟨#[98]⟩⟩]) = [] from rfl]
  go_wp2_with fail
  go_ret
  exact ⟨rfl, h8.2.1⟩
end Go.Proofs.Ytencpplopdogmaa
