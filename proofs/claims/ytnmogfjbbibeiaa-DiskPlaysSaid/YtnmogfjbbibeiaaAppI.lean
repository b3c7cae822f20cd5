/- Slices of integers: copies made by append; arguments that are lists of integers. -/
import Derived.Test.YtnmogfjbbibeiaaIn
import Derived.Test.YtnmogfjbbibeiaaApp
import Derived.RegionTactic
namespace Go.Proofs.Ytnmogfjbbibeiaa
set_option maxRecDepth 100000
open Go.RowKit

/-- The step that copies a slice of integers: 'append([]int{}, l...)'. w0 is the world ahead of the empty literal. -/
theorem wpl_copy_int {ops : Array Oper} {rest : List Oper} {o : Oper} {a : Act} {Q : Exit → Act → World → Prop} (w0 : World) (hgd : o.guard = none) (s x : Operand)
    (ho : o.op = .call { callee := .builtin .append, args := #[s, x], argTypes := #[29, 29] }) (A : Option Addr) (n c : Nat) (zs : List Int)
    (hs : a.eval s = .slice (some ⟨w0.heap.size, 0, none⟩) 0 0) (hx : a.eval x = .slice A n c) (hr : Ls w0 A n (zs.map (Value.int .i64))) (hn : n * 8 ≤ 140737488355328)
    (h : ∀ A' c' w', n ≤ c' → Ls w' A' n (zs.map (Value.int .i64)) → (∀ ad, A' = some ad → w0.heap.size ≤ ad.block) → Kp [] w0 w' → wpList Try.prog ops Q rest (a.put o.dst (.slice A' n c')) w') :
    wpList Try.prog ops Q (o :: rest) a (w0.alloc (.cells #[] 3)) := by
  obtain ⟨i0, hi, hz, h1, h2⟩ := info_parts info_int
  refine wpl_app _ hgd s x 29 ho w0.heap.size 3 i0 _ 8 Try.underlying29 hi hz h1 h2 rfl _ 0 [] hs (own_empty w0 _) A n c _ hx
    (hr.kp ((Kp.rfl_ [] w0).alloc _) (by simp)) oneCell_map_int (by unfold maxLen; omega) (by omega) (by simp) ?_
  intro v' w' hown hg _
  obtain ⟨A', c', rfl, hL, hb, hc, _⟩ := own_open hown
  rw [Nat.zero_add] at hL hc ⊢
  refine h A' c' w' hc hL hb (((Kp.rfl_ [] w0).alloc _).then (Kp.of_grown (S := [w0.heap.size]) hg ?_) (by simp))
  intro k hk _
  simp [Value.ownBlock] at hk
  simp [hk]

/-- The same under a guard: the step that copies a slice of integers: 'append([]int{}, l...)'. w0 is the world ahead of the empty literal. -/
theorem wpl_copy_int_g {ops : Array Oper} {rest : List Oper} {o : Oper} {a : Act} {Q : Exit → Act → World → Prop} (w0 : World) (hw : Region.wanted o (yielded ops a.tmps) = true) (s x : Operand)
    (ho : o.op = .call { callee := .builtin .append, args := #[s, x], argTypes := #[29, 29] }) (A : Option Addr) (n c : Nat) (zs : List Int)
    (hs : a.eval s = .slice (some ⟨w0.heap.size, 0, none⟩) 0 0) (hx : a.eval x = .slice A n c) (hr : Ls w0 A n (zs.map (Value.int .i64))) (hn : n * 8 ≤ 140737488355328)
    (h : ∀ A' c' w', n ≤ c' → Ls w' A' n (zs.map (Value.int .i64)) → (∀ ad, A' = some ad → w0.heap.size ≤ ad.block) → Kp [] w0 w' → wpList Try.prog ops Q rest (a.put o.dst (.slice A' n c')) w') :
    wpList Try.prog ops Q (o :: rest) a (w0.alloc (.cells #[] 3)) := by
  obtain ⟨i0, hi, hz, h1, h2⟩ := info_parts info_int
  refine wpl_app_g _ hw s x 29 ho w0.heap.size 3 i0 _ 8 Try.underlying29 hi hz h1 h2 rfl _ 0 [] hs (own_empty w0 _) A n c _ hx
    (hr.kp ((Kp.rfl_ [] w0).alloc _) (by simp)) oneCell_map_int (by unfold maxLen; omega) (by omega) (by simp) ?_
  intro v' w' hown hg _
  obtain ⟨A', c', rfl, hL, hb, hc, _⟩ := own_open hown
  rw [Nat.zero_add] at hL hc ⊢
  refine h A' c' w' hc hL hb (((Kp.rfl_ [] w0).alloc _).then (Kp.of_grown (S := [w0.heap.size]) hg ?_) (by simp))
  intro k hk _
  simp [Value.ownBlock] at hk
  simp [hk]

/-- The same as one step of a region that draws its order. -/
theorem step_copy_int {ops : Array Oper} {o : Oper} {a : Act} {w1 : World} {K : Act → World → Prop} {Q : Exit → Act → World → Prop} {E : Prop} (base g0 : Nat) (hgd : o.guard = none) (s x : Operand)
    (ho : o.op = .call { callee := .builtin .append, args := #[s, x], argTypes := #[29, 29] }) (A : Option Addr) (n c : Nat) (zs : List Int)
    (hs : a.eval s = .slice (some ⟨g0, 0, none⟩) 0 0) (hx : a.eval x = .slice A n c) (hg : At w1 g0 3 #[]) (hr : Ls w1 A n (zs.map (Value.int .i64))) (hb : base ≤ g0) (hn : n * 8 ≤ 140737488355328)
    (h : ∀ A' c' w', n ≤ c' → Ls w' A' n (zs.map (Value.int .i64)) → (∀ ad, A' = some ad → base ≤ ad.block) → Kp [g0] w1 w' → K (a.put o.dst (.slice A' n c')) w') :
    if Region.wanted o (yielded ops a.tmps) = true then Oper.wp Try.prog o a w1 K Q else E := by
  have hw : Region.wanted o (yielded ops a.tmps) = true := by simp [Region.wanted, hgd]
  rw [if_pos hw]
  obtain ⟨i0, hi, hz, h1, h2⟩ := info_parts info_int
  have hown : w1.ownsRow base 3 1 (.slice (some ⟨g0, 0, none⟩) 0 0) 0 [] := ⟨rfl, .inr ⟨g0, 0, #[], rfl, hb, hg, Nat.le_refl _, Nat.zero_le _, rfl, rfl⟩⟩
  obtain ⟨v', w', hrun, h2, h3, h4⟩ := run_app (P := Try.prog) w1 base 29 o.type 3 i0 _ 8 Try.underlying29 hi hz h1 h2 rfl _ 0 [] hown A n c _ hr oneCell_map_int (by unfold maxLen; omega) (by omega) (by have := At.lt hg; omega)
  obtain ⟨A', c', rfl, hL, hbb, hc, _⟩ := own_open h2
  rw [Nat.zero_add] at hL hc hrun
  unfold Oper.wp execOp
  simp only [ho, resolve, invoke, builtin, Sem.run_bind, Sem.run_pure, Result.andThen_ok, List.map_toArray, List.map_cons, List.map_nil, hs, hx, hrun]
  refine h A' c' w' hc hL hbb (Kp.of_grown h3 ?_)
  intro k hk _
  simp [Value.ownBlock] at hk
  simp [hk]
theorem in_ints {W : World} {v : Value} (h : In W 29 v) : ∃ (A : Option Addr) (n c : Nat) (zs : List Int), v = .slice A n c ∧ n ≤ c ∧ c ≤ maxLen ∧ Ls W A n (zs.map (Value.int .i64)) ∧ ∀ z ∈ zs, (Lit.int .i64 z).wf = true := by
  obtain ⟨A, n, c, xs, rfl, h1, h2, h3, h4, -, -⟩ := rd_slice Try.underlying29 (by kernel_rfl) (in_rd_slice Try.underlying29 h)
  obtain ⟨zs, rfl, hz⟩ := ints_of fun u hu => rd_int Try.underlying3 (h4 u hu)
  exact ⟨A, n, c, zs, rfl, h1, h2, h3, hz⟩
end Go.Proofs.Ytnmogfjbbibeiaa
