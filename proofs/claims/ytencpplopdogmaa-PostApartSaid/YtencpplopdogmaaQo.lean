/- Package post: two posts beside each other; a call of both. -/
import Derived.Test.YtencpplopdogmaaQm
namespace Go.Proofs.Ytencpplopdogmaa
set_option maxRecDepth 100000
open Go.RowKit
set_option linter.unusedVariables false

/-- A post and the document's, both made since w, apart. -/
structure Two (w wi : World) (g1 : Nat) (v1 : Value) (g2 : Nat) (v2 : Value) (most : Int) (l1 l2 : List Ltr) : Prop where
  p : PF w wi g1 58 v1 most l1
  q : PF w wi g2 48 v2 most l2
  ne : g1 ≠ g2
  a1 : v1.ownBlock ≠ some g2
  a2 : v2.ownBlock ≠ some g1
  ap : ∀ x, v1.ownBlock = some x → v2.ownBlock ≠ some x
theorem Two.kp {w wi w' : World} {g1 g2 : Nat} {v1 v2 : Value} {most : Int} {l1 l2 : List Ltr} (h : Two w wi g1 v1 g2 v2 most l1 l2) (k : Kp [] wi w') : Two w w' g1 v1 g2 v2 most l1 l2 := ⟨h.p.kp k, h.q.kp k, h.ne, h.a1, h.a2, h.ap⟩
theorem PF.movedAt {w wi w' : World} {g : Nat} {T : TypeId} {v v' : Value} {most : Int} {ls ls' : List Ltr} (h : PF w wi g T v most ls) (h1 : Pst w' g T v' most ls') (h2 : Kp (g :: v.ownBlock.toList) wi w') (h3 : ∀ x, v'.ownBlock = some x → v.ownBlock = some x ∨ wi.heap.size ≤ x) : PF w w' g T v' most ls' := by
  obtain ⟨_, hp⟩ := h.moved ⟨v', h1, h2, h3⟩
  exact ⟨h1, hp.2.1, hp.2.2.1, fun x hx => by
    rcases h3 x hx with h4 | h4
    · exact h.2.2.2 x h4
    · exact Nat.le_trans h.2.1.size h4⟩
theorem Two.left {w wi w' : World} {g1 g2 : Nat} {v1 v2 : Value} {most : Int} {l1 l2 l1' : List Ltr} (h : Two w wi g1 v1 g2 v2 most l1 l2) (hm : Moved wi g1 58 v1 most l1' w') : ∃ v1', Two w w' g1 v1' g2 v2 most l1' l2 := by
  obtain ⟨v', h1, h2, h3⟩ := hm
  have hp := h.p.movedAt h1 h2 h3
  have hg2 := h.q.1.1.lt
  refine ⟨v', hp, ⟨h.q.1.kp h2 ?_ fun x hx hm => ?_, hp.2.1, h.q.2.2⟩, h.ne, fun e => ?_, h.a2, fun x hx e => ?_⟩
  · intro hm
    rcases List.mem_cons.1 hm with e | hm
    · exact h.ne e.symm
    · exact h.a1 (by simpa using hm)
  · rcases List.mem_cons.1 hm with rfl | hm
    · exact h.a2 hx
    · exact h.ap x (by simpa using hm) hx
  · rcases h3 _ e with h4 | h4
    · exact h.a1 h4
    · omega
  · rcases h3 _ hx with h4 | h4
    · exact h.ap x h4 e
    · have := (h.q.1.2.ob e).2; omega
theorem Two.right {w wi w' : World} {g1 g2 : Nat} {v1 v2 : Value} {most : Int} {l1 l2 l2' : List Ltr} (h : Two w wi g1 v1 g2 v2 most l1 l2) (hm : Moved wi g2 48 v2 most l2' w') : ∃ v2', Two w w' g1 v1 g2 v2' most l1 l2' := by
  obtain ⟨v', h1, h2, h3⟩ := hm
  have hp := h.q.movedAt h1 h2 h3
  have hg2 := h.p.1.1.lt
  refine ⟨v', ⟨h.p.1.kp h2 ?_ fun x hx hm => ?_, hp.2.1, h.p.2.2⟩, hp, h.ne, h.a1, fun e => ?_, fun x hx e => ?_⟩
  · intro hm
    rcases List.mem_cons.1 hm with e | hm
    · exact h.ne e
    · exact h.a2 (by simpa using hm)
  · rcases List.mem_cons.1 hm with rfl | hm
    · exact h.a1 hx
    · exact h.ap x hx (by simpa using hm)
  · rcases h3 _ e with h4 | h4
    · exact h.a2 h4
    · omega
  · rcases h3 _ e with h4 | h4
    · exact h.ap x hx h4
    · have := (h.p.1.2.ob hx).2; omega
def Okl (most : Int) (ls : List Ltr) : Prop := (ls.length : Int) ≤ most ∧ most ≤ 512 ∧ ∀ l ∈ ls, isN l.f = true ∧ isN l.t = true
theorem Okl.len {most : Int} {ls : List Ltr} (h : Okl most ls) : ls.length ≤ 1000000 := by have := h.1; have := h.2.1; omega
/-- What comes of a letter that is sent. -/
def sentR (most : Int) (ls : List Ltr) (l : Ltr) : Int × List Ltr := if isN l.f = true ∧ isN l.t = true then if (ls.length : Int) < most then (0, ls ++ [l]) else (52, ls) else (1, ls)
theorem Sent.det {w w' : World} {g : Nat} {T : TypeId} {vk : Value} {most : Int} {ls : List Ltr} {l : Ltr} {e : Ending} (h : Sent w g T vk most ls l e w') : e = .returned (.int .i64 (sentR most ls l).1) ∧ Moved w g T vk most (sentR most ls l).2 w' := by
  unfold sentR
  rcases h with ⟨h0, h1, h2⟩ | ⟨h0, ⟨h1, h2, h3⟩ | ⟨h1, h2, h3⟩⟩
  · rw [if_neg h0]; exact ⟨h1, h2⟩
  · rw [if_pos h0, if_pos h1]; exact ⟨h2, h3⟩
  · rw [if_pos h0, if_neg h1]; exact ⟨h2, h3⟩
theorem Okl.sent {most : Int} {ls : List Ltr} (h : Okl most ls) (l : Ltr) : Okl most (sentR most ls l).2 := by
  unfold sentR
  split
  · rename_i hN
    split
    · rename_i hlt
      refine ⟨by simp; omega, h.2.1, fun x hx => ?_⟩
      rcases List.mem_append.1 hx with hx | hx
      · exact h.2.2 x hx
      · have : x = l := by simpa using hx
        subst this
        exact hN
    · exact h
  · exact h
theorem Okl.out {most : Int} {ls : List Ltr} (h : Okl most ls) (k : Int) : Okl most (outL ls k) := by
  refine ⟨?_, h.2.1, fun x hx => ?_⟩
  · have := h.1
    unfold outL
    simp
    omega
  · unfold outL at hx
    rcases List.mem_append.1 hx with hx | hx
    · exact h.2.2 x (List.mem_of_mem_take hx)
    · exact h.2.2 x (List.mem_of_mem_drop hx)
theorem Okl.keep {most : Int} {ls : List Ltr} (h : Okl most ls) (zs : List Int) : Okl most (keepL zs ls) := by
  refine ⟨?_, h.2.1, fun x hx => h.2.2 x ((List.mem_filter.1 hx).1)⟩
  have := h.1
  have := keepL_len zs ls
  omega
/-- What comes of a Twin. -/
def twinR (most : Int) (ls : List Ltr) (k : Int) : Int × List Ltr := if (AtL ls k).2 = true then if (ls.length : Int) < most then (0, ls ++ [(AtL ls k).1]) else (52, ls) else (51, ls)
theorem Twd.det {w w' : World} {g : Nat} {T : TypeId} {vk : Value} {most k : Int} {ls : List Ltr} {e : Ending} (h : Twd w g T vk most k ls e w') : e = .returned (.int .i64 (twinR most ls k).1) ∧ Moved w g T vk most (twinR most ls k).2 w' := by
  unfold twinR
  rcases h with ⟨h0, h1, h2⟩ | ⟨l, h0, ⟨h1, h2, h3⟩ | ⟨h1, h2, h3⟩⟩
  · rw [h0]; exact ⟨h1, h2⟩
  · rw [h0, if_pos rfl, if_pos h1]; exact ⟨h2, h3⟩
  · rw [h0, if_pos rfl, if_neg h1]; exact ⟨h2, h3⟩
theorem Okl.twin {most : Int} {ls : List Ltr} (h : Okl most ls) (k : Int) : Okl most (twinR most ls k).2 := by
  unfold twinR
  split
  · rename_i hN
    split
    · rename_i hlt
      refine ⟨by simp; omega, h.2.1, fun x hx => ?_⟩
      rcases List.mem_append.1 hx with hx | hx
      · exact h.2.2 x hx
      · have : x = (AtL ls k).1 := by simpa using hx
        subst this
        rcases AtL_cases ls k with h1 | ⟨n, l, _, h2, h1⟩
        · rw [h1] at hN; cases hN
        · rw [h1]; exact h.2.2 l (List.mem_of_getElem? h2)
    · exact h
  · exact h
/-- What comes of a Take. -/
def takeR (ls : List Ltr) (k : Int) : (Ltr × Int) × List Ltr := if (AtL ls k).2 = true then (((AtL ls k).1, 0), outL ls k) else ((zeroL, 51), ls)
theorem Taken.det {w w' : World} {g : Nat} {T : TypeId} {vk : Value} {most k : Int} {ls : List Ltr} {e : Ending} (h : Taken w g T vk most k ls e w') : e = .returned (.tuple #[lv (takeR ls k).1.1, .int .i64 (takeR ls k).1.2]) ∧ Moved w g T vk most (takeR ls k).2 w' := by
  unfold takeR
  rcases h with ⟨h0, h1, h2⟩ | ⟨l, h0, h1, h2⟩
  · rw [if_neg (by rw [h0]; simp)]; exact ⟨h1, h2⟩
  · rw [h0, if_pos rfl]; exact ⟨h1, h2⟩
theorem Okl.take {most : Int} {ls : List Ltr} (h : Okl most ls) (k : Int) : Okl most (takeR ls k).2 := by
  unfold takeR
  split
  · exact h.out k
  · exact h
end Go.Proofs.Ytencpplopdogmaa
