/- Package post: a letter put behind the others. -/
import Derived.Test.YtencpplopdogmaaLt
import Derived.Test.YtencpplopdogmaaSv
import Derived.Deep.LoopGhost
import Derived.BigQuiet
import Derived.Deep.QuietTactic
namespace Go.Proofs.Ytencpplopdogmaa
set_option maxRecDepth 100000
open Go.RowKit
set_option linter.unusedVariables false

theorem cell_kpL {w w' : World} {S : List Nat} {p : Addr} {x : Value} (h : w.cell? p = some x) (k : Kp S w w') (hS : p.block ∉ S) : w'.cell? p = some x := (k.cell (cell_block_lt h) hS).trans h
theorem Kp.kept {S : List Nat} {w w' : World} (h : Kp S w w') : KeptT S w w' := ⟨h.size, h.block⟩
theorem Kp.ext {w w' : World} (h : Kp [] w w') : Ext w w' := ⟨h.size, fun k hk => h.block k hk (by simp)⟩
theorem At.shape {w : World} {g : Nat} {t : TypeId} {cs : Array Value} (h : At w g t cs) : (w.shape? g).isSome = true := by
  unfold At at h
  simp [World.shape?, h]
theorem LR.slice {base : Nat} {w : World} {v : Value} {ls : List Ltr} (h : LR base w v ls) : ∃ A c, v = .slice A ls.length c := by
  rcases h.shape with ⟨rfl, rfl⟩ | ⟨g, c, rfl, -⟩
  · exact ⟨none, 0, rfl⟩
  · exact ⟨_, c, rfl⟩
theorem LR.lower {base base' : Nat} {w : World} {v : Value} {ls : List Ltr} (h : LR base w v ls) (hb : base' ≤ base) : LR base' w v ls := by
  obtain ⟨h1, h2⟩ := h
  refine ⟨h1, h2.imp id ?_⟩
  rintro ⟨g, cap, cur, hv, hg, r⟩
  exact ⟨g, cap, cur, hv, Nat.le_trans hb hg, r⟩
theorem exec_lapp {ev : Operand → Value} (s x : Operand) (w : World) (base h : Nat) (v : Value) (ls : List Ltr) (l : Ltr)
    (hown : LR base w v ls) (hs : ev s = v) (hx : ev x = .slice (some ⟨h, 0, none⟩) 1 1) (ha : At w h 33 #[.int .i64 l.f, .int .i64 l.t, .string l.d]) (hb : base ≤ w.heap.size) (hl : ls.length ≤ 1000000) :
    ∃ v' w', (∀ o : Oper, o.op = .call { callee := .builtin .append, args := #[s, x], argTypes := #[40, 40] } → o.type = 40 → (execOp ev o).run Try.prog w = .ok (.value v') w') ∧ LR base w' v' (ls ++ [l]) ∧ w.grownBy w' v.ownBlock ∧ (v'.ownBlock = v.ownBlock ∨ v'.ownBlock = some w.heap.size) := by
  obtain ⟨v', w', hrun, h3, h4, h5⟩ := run_lapp w base v ls [l] hown ⟨h, 0, none⟩ 1 (fun j u hu => by
    rw [addr0, ha.cell j]
    have e : lcs [l] = [.int .i64 l.f, .int .i64 l.t, .string l.d] := rfl
    rw [e] at hu
    simpa using hu) (by simp; omega) hb
  refine ⟨v', w', fun o ho hty => ?_, h3, h4, h5⟩
  have hrun : (Builtin.append_ #[40, 40] 40 #[v, .slice (some ⟨h, 0, none⟩) 1 1]).run Try.prog w = .ok v' w' := hrun
  unfold execOp
  simp only [ho, hty, resolve, invoke, builtin, Sem.run_bind, Sem.run_pure, Result.andThen_ok, List.map_toArray, List.map_cons, List.map_nil, hs, hx, hrun]
/-- append of a literal of one letter (its block made by the step before). -/
theorem wpl_lapp {ops : Array Oper} {rest : List Oper} {o : Oper} {a : Act} {w0 : World} {Q : Exit → Act → World → Prop} (base : Nat) (hgd : o.guard = none) (s x : Operand)
    (ho : o.op = .call { callee := .builtin .append, args := #[s, x], argTypes := #[40, 40] }) (hty : o.type = 40)
    (v : Value) (ls : List Ltr) (l : Ltr) (hs : a.eval s = v) (hown : LR base w0 v ls) (hx : a.eval x = .slice (some ⟨w0.heap.size, 0, none⟩) 1 1) (hb : base ≤ w0.heap.size) (hl : ls.length ≤ 1000000)
    (h : ∀ v' w', LR base w' v' (ls ++ [l]) → Kp v.ownBlock.toList w0 w' → (v'.ownBlock = v.ownBlock ∨ ∃ h, v'.ownBlock = some h ∧ w0.heap.size ≤ h) → wpList Try.prog ops Q rest (a.put o.dst v') w') :
    wpList Try.prog ops Q (o :: rest) a (w0.alloc (.cells #[.int .i64 l.f, .int .i64 l.t, .string l.d] 33)) := by
  have k0 : Kp [] w0 (w0.alloc (.cells #[.int .i64 l.f, .int .i64 l.t, .string l.d] 33)) := (Kp.rfl_ [] w0).alloc _
  have hob : ∀ x, v.ownBlock = some x → x < w0.heap.size := fun x hx => (own_block_ltn hown hx).2
  refine wpList_plain hgd fun K hK => ?_
  obtain ⟨v', w', hrun, h3, h4, h5⟩ := exec_lapp (ev := a.eval) s x _ base w0.heap.size v ls l (hown.kp k0 (by simp)) hs hx (At.new w0 _ _) (Nat.le_trans hb k0.size) hl
  unfold Oper.wp
  rw [hrun o ho hty]
  refine hK _ _ (h v' w' h3 (k0.mono (T := v.ownBlock.toList) (by simp) |>.trans (Kp.of_grown h4 fun k hk _ => by simp [hk])) ?_)
  rcases h5 with h5 | h5
  · exact .inl h5
  · exact .inr ⟨_, h5, k0.size⟩
/-- A row that doesn't lie in block g. -/
def LRn (g : Nat) (w : World) (v : Value) (ls : List Ltr) : Prop := LR 0 w v ls ∧ v.ownBlock ≠ some g
theorem LRn.kp {g : Nat} {w w' : World} {v : Value} {ls : List Ltr} {S : List Nat} (h : LRn g w v ls) (k : Kp S w w') (hS : ∀ x, v.ownBlock = some x → x ∉ S) : LRn g w' v ls := ⟨h.1.kp k hS, h.2⟩
theorem LRn.slice {g : Nat} {w : World} {v : Value} {ls : List Ltr} (h : LRn g w v ls) : ∃ A c, v = .slice A ls.length c := h.1.slice
theorem LRn.at_ {g : Nat} {w : World} {A : Option Addr} {n c k : Nat} {ls : List Ltr} {l : Ltr} (h : LRn g w (.slice A n c) ls) (hk : ls[k]? = some l) :
    ∃ gk, A = some ⟨gk, 0, none⟩ ∧ w.cell? ⟨gk, k * 3, none⟩ = some (.int .i64 l.f) ∧ w.cell? ⟨gk, k * 3 + 1, none⟩ = some (.int .i64 l.t) ∧ w.cell? ⟨gk, k * 3 + 2, none⟩ = some (.string l.d) := by
  have h := h.1
  have hlt := (List.getElem?_eq_some_iff.1 hk).1
  rcases h.shape with ⟨_, h2⟩ | ⟨g, c', h1, hc, hm, hb, hl⟩
  · subst h2; simp at hlt
  · injection h1 with h1 h2 h3
    subst h1
    obtain ⟨c0, c1, c2⟩ := lcs_at ls k l hk
    have h' : w.ownsRow 0 33 3 (.slice (some ⟨g, 0, none⟩) n c) n (lcs ls) := by have := h; unfold LR at this; rw [← h2] at this; exact this
    rw [Nat.mul_comm 3 k] at c0 c1 c2
    refine ⟨g, rfl, ?_, ?_, ?_⟩
    · rw [World.ownsRow.cellAt h' _ (by omega)]; exact c0
    · rw [World.ownsRow.cellAt h' _ (by omega)]; exact c1
    · rw [World.ownsRow.cellAt h' _ (by omega)]; exact c2
theorem LRn.ob {g : Nat} {w : World} {v : Value} {ls : List Ltr} (h : LRn g w v ls) {x : Nat} (hx : v.ownBlock = some x) : x ≠ g ∧ x < w.heap.size := ⟨fun e => h.2 (e ▸ hx), (own_block_ltn h.1 hx).2⟩
theorem LRn.nil_ (g : Nat) (w : World) : LRn g w (.slice none 0 0) [] := ⟨LR.nil_ _ _, by simp [Value.ownBlock]⟩
theorem LRn.of_base {g base : Nat} {w : World} {v : Value} {ls : List Ltr} (h : LR base w v ls) (hb : g < base) : LRn g w v ls := ⟨h.lower (Nat.zero_le _), fun e => by have := (own_block_ltn h e).1; omega⟩
/-- A post: its block, its row. -/
def Pst (w : World) (g : Nat) (T : TypeId) (vk : Value) (most : Int) (ls : List Ltr) : Prop := At w g T #[vk, .int .i64 most] ∧ LRn g w vk ls
theorem Pst.kp {w w' : World} {g : Nat} {T : TypeId} {vk : Value} {most : Int} {ls : List Ltr} {S : List Nat} (h : Pst w g T vk most ls) (k : Kp S w w') (h1 : g ∉ S) (h2 : ∀ x, vk.ownBlock = some x → x ∉ S) : Pst w' g T vk most ls := ⟨h.1.kp k h1, h.2.kp k h2⟩
/-- A call may have moved the row: what it turned, and where the row lies then. -/
def Moved (w : World) (g : Nat) (T : TypeId) (vk : Value) (most : Int) (ls' : List Ltr) (w' : World) : Prop := ∃ v', Pst w' g T v' most ls' ∧ Kp (g :: vk.ownBlock.toList) w w' ∧ (∀ x, v'.ownBlock = some x → vk.ownBlock = some x ∨ w.heap.size ≤ x)
def Added (w : World) (g : Nat) (T : TypeId) (vk : Value) (most : Int) (ls : List Ltr) (l : Ltr) (e : Ending) (w' : World) : Prop :=
  ((ls.length : Int) < most ∧ e = .returned (.int .i64 0) ∧ Moved w g T vk most (ls ++ [l]) w') ∨ (¬ (ls.length : Int) < most ∧ e = .returned (.int .i64 52) ∧ Moved w g T vk most ls w')
theorem Added.ret {w w' : World} {g : Nat} {T : TypeId} {vk : Value} {most : Int} {ls : List Ltr} {l : Ltr} {e : Ending} (h : Added w g T vk most ls l e w') : ∃ r, e = .returned (.int .i64 r) := by
  rcases h with ⟨_, h, _⟩ | ⟨_, h, _⟩ <;> exact ⟨_, h⟩
theorem Added.ret' {w : World} {g : Nat} {T : TypeId} {vk : Value} {most : Int} {ls : List Ltr} {l : Ltr} (e : Ending) (w' : World) (h : Added w g T vk most ls l e w') : ∃ v, e = .returned v := by
  obtain ⟨r, h⟩ := h.ret
  exact ⟨_, h⟩
theorem Moved.of_kp {w w' : World} {g : Nat} {T : TypeId} {vk : Value} {most : Int} {ls : List Ltr} (h : Pst w g T vk most ls) (k : Kp [] w w') : Moved w g T vk most ls w' :=
  ⟨vk, h.kp k (by simp) (by simp), k.mono (by simp), fun x hx => .inl hx⟩
theorem Moved.before {w w1 w' : World} {g : Nat} {T : TypeId} {vk : Value} {most : Int} {ls : List Ltr} (h : Moved w1 g T vk most ls w') (k : Kp [] w w1) : Moved w g T vk most ls w' := by
  obtain ⟨v', h1, h2, h3⟩ := h
  exact ⟨v', h1, (k.mono (T := g :: vk.ownBlock.toList) (by simp)).trans h2, fun x hx => (h3 x hx).imp id fun hh => Nat.le_trans k.size hh⟩
/-- Behind an append: the header stored. -/
theorem Moved.stored {w w6 : World} {g : Nat} {T : TypeId} {vk v6 : Value} {most : Int} {ls ls' : List Ltr} (h : Pst w g T vk most ls) (h6 : LR 0 w6 v6 ls') (k6 : Kp vk.ownBlock.toList w w6) (hv : v6.ownBlock = vk.ownBlock ∨ ∃ h, v6.ownBlock = some h ∧ w.heap.size ≤ h) :
    Moved w g T vk most ls' (w6.setCell ⟨g, 0, none⟩ v6) := by
  have hg := h.1.lt
  have ha : At w6 g T #[vk, .int .i64 most] := h.1.kp k6 (by simp; intro e; exact h.2.2 e)
  have k5 : Kp [g] w6 (w6.setCell ⟨g, 0, none⟩ v6) := (Kp.rfl_ [g] w6).set (by simp) _
  have hne : ∀ x, v6.ownBlock = some x → x ≠ g := fun x hx => by
    rcases hv with hv | ⟨y, hy, hle⟩
    · exact (h.2.ob (hv ▸ hx)).1
    · rw [hx] at hy; injection hy with hy; omega
  refine ⟨v6, ⟨ha.set 0 v6, h6.kp k5 fun x hx => by simpa using hne x hx, fun e => hne g e rfl⟩, (k6.mono (T := g :: vk.ownBlock.toList) fun x _ hx => List.mem_cons_of_mem _ hx).then k5 (by simp), fun x hx => ?_⟩
  rcases hv with hv | ⟨y, hy, hle⟩
  · exact .inl (hv ▸ hx)
  · rw [hx] at hy; injection hy with hy; exact .inr (hy ▸ hle)
set_option maxHeartbeats 4000000 in
theorem padd_any (g : Nat) (T : TypeId) (vk : Value) (most : Int) (ls : List Ltr) (l : Ltr) (w : World) (h : Pst w g T vk most ls) (hl : ls.length ≤ 1000000) :
    Calls Try.prog 26 #[.pointer (some ⟨g, 0, none⟩), .agg #[.int .i64 l.f, .int .i64 l.t, .string l.d]] w (Added w g T vk most ls l) := by
  obtain ⟨A, c, rfl⟩ := h.2.slice
  have hk1 : Kp [] w (w.alloc (.cells #[.int .i64 l.f, .int .i64 l.t, .string l.d] 33)) := (Kp.rfl_ [] w).alloc _
  have b1 : At (w.alloc (.cells #[.int .i64 l.f, .int .i64 l.t, .string l.d] 33)) w.heap.size 33 #[.int .i64 l.f, .int .i64 l.t, .string l.d] := At.new w _ _
  have h1 := h.kp hk1 (by simp) (by simp)
  obtain ⟨gl, hgl⟩ : ∃ gl, w.heap.size = gl := ⟨_, rfl⟩
  rw [hgl] at b1
  have hcase : (ls.length : Int) < most ∨ ¬ (ls.length : Int) < most := by omega
  go_enter Try.func26, Try.ntmps26
  go_wp2_with fail
  generalize w.alloc (.cells #[.int .i64 l.f, .int .i64 l.t, .string l.d] 33) = w0 at *
  have c0 : w0.drew.cell? ⟨g, 0, none⟩ = some (.slice A ls.length c) := h1.1.cell 0
  have c1 : w0.drew.cell? ⟨g, 1, none⟩ = some (.int .i64 most) := h1.1.cell 1
  refine region_sq_l (by kernel_rfl) (by kernel_rfl) (calm_of (fun _ _ _ h => h.2) (fun _ _ h => h) Added.ret') ?_
  rcases hcase with hlt | hlt
  · go_wp2_with fail
    refine sqQ_end (by rfl) ?_
    have hd : Kp [] w0 w0.drew := (Kp.rfl_ [] w0).drew
    have h2 := h1.kp hd (by simp) (by simp)
    have b2 := b1.kp hd (by simp)
    have hk2 := hk1.trans hd
    clear c0 c1 h1 b1 hk1 hd
    generalize w0.drew = w1 at *
    have hd : Kp [] w1 w1.drew := (Kp.rfl_ [] w1).drew
    have h3 := h2.kp hd (by simp) (by simp)
    have b3 := b2.kp hd (by simp)
    have c0 := h3.1.cell 0
    have d0 := b3.cell 0
    have d1 := b3.cell 1
    have d2 := b3.cell 2
    go_wp2_with fail
    refine region_sq_l (by kernel_rfl) (by kernel_rfl) (calm_of (fun _ _ _ h => h.2) (fun _ _ h => h) Added.ret') ?_
    go_wp2_with (at_builtin; go_must (refine wpl_lapp 0 rfl _ _ rfl rfl (.slice A ls.length c) ls l rfl h3.2.1 rfl (Nat.zero_le _) hl ?_); intro v6 w6 hrow6 hk6 hv6; have hN := Moved.stored h3 hrow6 hk6 hv6; have ha6 : At w6 g T #[.slice A ls.length c, .int .i64 most] := h3.1.kp hk6 (by simp; intro e; exact h3.2.2 e); have q0 := ha6.cell 0; have f0 := ha6.frozen 0; obtain ⟨A6, c6, rfl⟩ := hrow6.slice)
    refine sqQ_end (by rfl) ?_
    go_wp2_with fail
    go_ret
    have h9 := hN.before (hk2.trans hd)
    simp only [List.length_append, List.length_cons, List.length_nil, Nat.zero_add] at h9
    exact .inl ⟨by omega, rfl, h9⟩
  · go_wp2_with fail
    refine sqQ_end (by rfl) ?_
    go_wp2_with fail
    go_ret
    exact .inr ⟨by omega, rfl, Moved.of_kp h hk1.drew⟩
end Go.Proofs.Ytencpplopdogmaa
