/- A region that draws its order may be walked in one order: the exchange. -/
import Derived.Test.YtnmogfjbbibeiaaSr
namespace Go.Proofs.Ytnmogfjbbibeiaa
set_option maxRecDepth 100000
open Go
set_option linter.unusedVariables false

def pre (ops : Array Oper) (i j : Nat) : Bool := match ops[i]? with | some o => o.after.any fun e => Region.binds .any e && e.on == j | none => false
def waitsT (ops : Array Oper) : Nat → Nat → Nat → Bool
  | 0, k, i => pre ops k i
  | n + 1, k, i => pre ops k i || (List.range ops.size).any fun m => pre ops k m && waitsT ops n m i
theorem waitsT_mem {ops : Array Oper} {l : List Nat} (hcl : ∀ k j, pre ops k j = true → j ∈ l → k ∈ l) : ∀ (n m c : Nat), c ∈ l → waitsT ops n m c = true → m ∈ l
  | 0, m, c, hc, h => hcl m c h hc
  | n + 1, m, c, hc, h => by
    simp only [waitsT, Bool.or_eq_true, List.any_eq_true, Bool.and_eq_true] at h
    rcases h with h | ⟨x, _, h1, h2⟩
    · exact hcl m c h hc
    · exact hcl m x h1 (waitsT_mem hcl n x c hc h2)
theorem waitsT_ready {ops : Array Oper} {l : List Nat} (hcl : ∀ k j, pre ops k j = true → j ∈ l → k ∈ l) {i : Nat} (hr : ∀ j, pre ops i j = true → j ∉ l) : ∀ (n c : Nat), c ∈ l → waitsT ops n i c = false := by
  intro n c hc
  cases hw : waitsT ops n i c with
  | false => rfl
  | true =>
    cases n with
    | zero => exact absurd hc (hr c hw)
    | succ n =>
      simp only [waitsT, Bool.or_eq_true, List.any_eq_true, Bool.and_eq_true] at hw
      rcases hw with h | ⟨x, _, h1, h2⟩
      · exact absurd hc (hr c h)
      · exact absurd (waitsT_mem hcl n x c hc h2) (hr x h1)
def dstFree (ops : Array Oper) (y x : Oper) : Bool := match y.dst with | some d => !(x.looksAt ops).contains d && x.dst != some d | none => true
def okCls (kept : Bool) (c i : Nat) : Bool := decide (c < 5) && decide (i < 5) && (decide (c ≤ 1) || decide (i ≤ 1) || (c == 2 && (decide (i ≤ 3) || kept)))
/-- x stands ahead of y in the order. -/
def pairOK (ks : List Nat) (P : Program) (ops : Array Oper) (x y : Nat) : Bool := match ops[x]?, ops[y]? with
  | some ox, some oy => (x != y) && !(pre ops x y) && dstFree ops oy ox && (waitsT ops 5 y x || (ox.apart ops oy && okCls (ks.contains y) (cls P ox) (cls P oy)))
  | _, _ => false
def selfOK (P : Program) (ops : Array Oper) (x : Nat) : Bool := match ops[x]? with
  | some ox => decide (cls P ox < 5) && (match ox.dst with | some d => !(ox.looksAt ops).contains d | none => true) && !(pre ops x x)
  | none => false
def pairsB (ks : List Nat) (P : Program) (ops : Array Oper) : List Nat → Bool
  | [] => true
  | x :: l => selfOK P ops x && l.all (pairOK ks P ops x) && pairsB ks P ops l
def sqB (ks : List Nat) (P : Program) (ops : Array Oper) (ord : List Nat) : Bool := decide (ord.length ≤ ops.size) && (List.range ops.size).all (ord.contains ·) && pairsB ks P ops ord
def shapes (P : Program) (ops : Array Oper) (a : Act) : Bool := ops.toList.all fun o => !(cls P o == 1) || !(Region.wanted o (yielded ops a.tmps)) || plain o a.eval
def sqQ (P : Program) (ops : Array Oper) (Q : Exit → Act → World → Prop) : Exit → Act → World → Prop := fun e a w => (e = .normal → shapes P ops a = true) ∧ Q e a w
theorem sqQ_end {P : Program} {ops : Array Oper} {Q : Exit → Act → World → Prop} {a : Act} {w : World} (h : shapes P ops a = true) (hq : Q .normal a w) : sqQ P ops Q .normal a w := ⟨fun _ => h, hq⟩
def Calm (Q : Exit → Act → World → Prop) : Prop := (∀ c a w, ¬ Q (.panic c) a w) ∧ ¬ LetsOut Q

/-- Of the blocks that w has only those of T may have turned. -/
def KeptT (T : List Nat) (w w' : World) : Prop := w.heap.size ≤ w'.heap.size ∧ ∀ k, k < w.heap.size → k ∉ T → w'.heap[k]? = w.heap[k]?
theorem KeptT.rfl_ (T : List Nat) (w : World) : KeptT T w w := ⟨Nat.le_refl _, fun _ _ _ => rfl⟩
theorem KeptT.tr {T : List Nat} {a b c : World} (h : KeptT T a b) (k : KeptT T b c) : KeptT T a c := ⟨Nat.le_trans h.1 k.1, fun i hi hn => (k.2 i (Nat.lt_of_lt_of_le hi h.1) hn).trans (h.2 i hi hn)⟩
theorem Ext.kept {w w' : World} (h : Ext w w') (T : List Nat) : KeptT T w w' := ⟨h.1, fun k hk _ => h.2 k hk⟩
theorem KeptT.ext {w w' : World} (h : KeptT [] w w') : Ext w w' := ⟨h.1, fun k hk => h.2 k hk (by simp)⟩
inductive StillB (b : Nat) : {α : Type} → Sem α → Prop
  | pure {α : Type} (a : α) : StillB b (.pure a)
  | halt {α : Type} (h : Halt) : StillB b (.halt h : Sem α)
  | program {α : Type} {k : Program → Sem α} (h : ∀ p, StillB b (k p)) : StillB b (.program k)
  | mark {α : Type} {m : Mark} {k : Sem α} (h : StillB b k) : StillB b (.mark m k)
  | load {α : Type} {m : Mode} {a : Addr} {k : Value → Sem α} (hb : a.block = b) (h : ∀ v, StillB b (k v)) : StillB b (.load m a k)
/-- It loads from block b alone, and asks nothing else of memory. -/
theorem StillB.run {b : Nat} {α : Type} {m : Sem α} (h : StillB b m) {P : Program} {w w1 : World} {x : α} {c : Array Value} {e : TypeId} {f : Nat × Nat} (hc : w.heap[b]? = some (.cells c e f)) (hr : m.run P w = .ok x w1) :
    w1 = w ∧ ∀ w', w'.heap[b]? = w.heap[b]? → m.run P w' = .ok x w' := by
  induction h with
  | pure a => injection hr with h1 h2; subst h1 h2; exact ⟨rfl, fun _ _ => rfl⟩
  | halt h => cases hr
  | program h ih => exact ih _ hr
  | mark h ih => exact ih hr
  | @load m a k hb h ih =>
    simp only [Sem.run] at hr ⊢
    cases hv : w.cell? a with
    | some v =>
      rw [hv] at hr
      obtain ⟨h1, h2⟩ := ih _ hr
      refine ⟨h1, fun w' hw => ?_⟩
      have : w'.cell? a = some v := by
        unfold World.cell? at hv ⊢
        rw [hb] at hv ⊢
        rw [hw]
        exact hv
      rw [this]
      exact h2 w' hw
    | none =>
      exfalso
      rw [hv] at hr
      unfold World.farLoad World.noCell at hr
      rw [hb, hc] at hr
      cases hr
theorem StillB.bind {b : Nat} {α β : Type} {m : Sem α} {f : α → Sem β} (h : StillB b m) (hf : ∀ a, StillB b (f a)) : StillB b (m >>= f) := by
  show StillB b (m.bind f)
  induction h with
  | pure a => exact hf a
  | halt h => exact .halt h
  | program h ih => exact .program fun p => ih p
  | mark h ih => exact .mark ih
  | load hL h ih => exact .load hL fun v => ih v
theorem StillB.pure' {b : Nat} {α : Type} (a : α) : StillB b (Pure.pure a : Sem α) := .pure a
theorem stillB_underlying {b : Nat} (t : TypeId) : StillB b (underlying t) := by
  unfold underlying
  refine .bind (.program fun p => .pure _) fun p => ?_
  split
  · exact .pure' _
  · exact .halt _
theorem stillB_sizeOf {b : Nat} (t : TypeId) : StillB b (sizeOf t) := by
  unfold sizeOf typeInfo
  refine .bind (.bind (.program fun p => .pure _) fun p => ?_) fun _ => .pure' _
  split
  · exact .pure' _
  · exact .halt _
theorem add_block (a : Addr) (n : Nat) : (a.add n).block = a.block := by
  unfold Addr.add
  split <;> rfl
theorem stillB_cells (a : Addr) : ∀ (n i : Nat) (acc : Array Value), StillB a.block (loadCellsFrom a i n acc)
  | 0, _, _ => .pure' _
  | n + 1, i, acc => .bind (.load (add_block a i) fun _ => .pure _) fun _ => stillB_cells a n (i + 1) _
theorem stillB_load (t : TypeId) (a : Addr) : StillB a.block (do pure (Next.value (← Instr.loadAt t (.pointer (some a)))) : Sem Next) := by
  refine .bind ?_ fun _ => .pure' _
  show StillB a.block (loadVar t a)
  unfold loadVar isAgg
  refine .bind (.bind (stillB_underlying t) fun d => ?_) fun b => ?_
  · split <;> exact .pure' _
  · split
    · exact .bind (stillB_sizeOf t) fun n => .bind (stillB_cells _ _ _ _) fun _ => .pure' _
    · exact .load rfl fun _ => .pure _
/-- What a load looks at lies in plain cells, not in T. -/
def ldOK (T : List Nat) (o : Oper) (a : Act) (w : World) : Prop := match o.op with
  | .load _ x => ∀ ad, a.eval x = .pointer (some ad) → ad.block ∉ T ∧ (w.shape? ad.block).isSome = true
  | _ => True
theorem shape_cells {w : World} {b : Nat} (h : (w.shape? b).isSome = true) : ∃ c e f, w.heap[b]? = some (.cells c e f) := by
  unfold World.shape? at h
  split at h
  · rename_i c e f hb; exact ⟨c, e, f, hb⟩
  · cases h
/-- What an operation yields here, in every world (L: that has what this one has). -/
def YE (T : List Nat) (L : Bool) (P : Program) (ops : Array Oper) (o : Oper) (v : Value) (a : Act) (w : World) : Prop :=
  (Region.wanted o (yielded ops a.tmps) = true ∧ ∀ w', (L = true → KeptT T w w') → (execOp a.eval o).run P w' = .ok (.value v) w') ∨ (Region.wanted o (yielded ops a.tmps) = false ∧ v = undef)
section
variable {P : Program} {ops : Array Oper} {Q : Exit → Act → World → Prop} {L : Bool} {T : List Nat}
theorem YE.wpOp {i : Nat} {o : Oper} {v : Value} {a : Act} {w : World} (hi : ops[i]? = some o) (hy : YE T L P ops o v a w) {K : Act → World → Prop} (h : K (a.put o.dst v) w) : wpOp P ops Q i K a w := by
  unfold Go.wpOp
  simp only [hi]
  rcases hy with ⟨hw, hv⟩ | ⟨hw, rfl⟩
  · simp only [hw, if_true, Oper.wp, hv w (fun _ => KeptT.rfl_ _ _), Oper.upon]; exact .inl h
  · simp only [hw, Bool.false_eq_true, if_false]; exact h
theorem YE.det {i : Nat} {o : Oper} {v : Value} {a : Act} {w : World} (hb : Calm Q) (hi : ops[i]? = some o) (hy : YE T L P ops o v a w) {K : Act → World → Prop} (h : Go.wpOp P ops Q i K a w) : K (a.put o.dst v) w := by
  unfold Go.wpOp at h
  simp only [hi] at h
  rcases hy with ⟨hw, hv⟩ | ⟨hw, rfl⟩
  · simp only [hw, if_true, Oper.wp, hv w (fun _ => KeptT.rfl_ _ _), Oper.upon] at h
    exact h.resolve_right fun h => hb.2 h.2
  · simp only [hw, Bool.false_eq_true, if_false] at h; exact h
theorem YE.of_same {o : Oper} {v : Value} {a a' : Act} {w : World} (hy : YE T L P ops o v a w) (he : execOp a'.eval o = execOp a.eval o)
    (hw : Region.wanted o (yielded ops a'.tmps) = Region.wanted o (yielded ops a.tmps)) : YE T L P ops o v a' w := by
  unfold YE at *
  rw [he, hw]
  exact hy
theorem YE.ext {o : Oper} {v : Value} {a : Act} {w w1 : World} (hy : YE T L P ops o v a w) (h : L = true → KeptT T w w1) : YE T L P ops o v a w1 := by
  rcases hy with ⟨hw, hv⟩ | h2
  · exact .inl ⟨hw, fun w' hE => hv w' fun hL => (h hL).tr (hE hL)⟩
  · exact .inr h2
theorem ye_of_wpOp (hb : Calm Q) {i : Nat} {o : Oper} {a : Act} {w : World} {K : Act → World → Prop} (hi : ops[i]? = some o) (hc : cls P o ≤ 1 ∨ (cls P o = 2 ∧ L = true)) (hld : L = true → T = [] ∨ (Region.wanted o (yielded ops a.tmps) = true → ldOK T o a w))
    (hp : cls P o = 1 → Region.wanted o (yielded ops a.tmps) = true → plain o a.eval = true) (h : Go.wpOp P ops Q i K a w) : ∃ v, YE T L P ops o v a w ∧ K (a.put o.dst v) w := by
  unfold Go.wpOp at h
  simp only [hi] at h
  by_cases hw : Region.wanted o (yielded ops a.tmps) = true
  · simp only [hw, if_true] at h
    have h := h.resolve_right fun h => hb.2 h.2
    obtain ⟨h1, h2⟩ := exec_still (P := P) (o := o) (ρ := a.eval) L hc (fun hc1 => hp hc1 hw)
    unfold Oper.wp at h
    cases hr : (execOp a.eval o).run P w with
    | ok n w1 =>
      obtain ⟨v, rfl⟩ := h2 _ _ _ hr
      obtain ⟨rfl, h4⟩ := h1 _ _ _ hr
      rw [hr] at h
      refine ⟨v, .inl ⟨hw, fun w' hE => ?_⟩, h⟩
      rcases hc with hc | ⟨hc, hL⟩
      · obtain ⟨h5, _⟩ := exec_still (P := P) (o := o) (ρ := a.eval) false (.inl hc) (fun hc1 => hp hc1 hw)
        exact (h5 _ _ _ hr).2 w' (by simp)
      · rcases hld hL with hT | hld
        · subst hT
          exact h4 w' fun hl => (hE hl).ext
        · have hld := hld hw
          have hk := hE hL
          obtain ⟨dst, op, type, pos, after, guard⟩ := o
          cases op with
          | load t x =>
            cases hx : a.eval x with
            | pointer p =>
              cases p with
              | some ad =>
                have hld : ∀ ad, a.eval x = .pointer (some ad) → ad.block ∉ T ∧ (w1.shape? ad.block).isSome = true := hld
                obtain ⟨h5, h6⟩ := hld ad hx
                obtain ⟨c, e, f, h7⟩ := shape_cells h6
                have e1 : execOp a.eval ⟨dst, .load t x, type, pos, after, guard⟩ = (do pure (Next.value (← Instr.loadAt t (.pointer (some ad))))) := by simp only [execOp, hx]
                rw [e1] at hr ⊢
                refine ((stillB_load t ad).run h7 hr).2 w' (hk.2 _ ?_ h5)
                rcases Nat.lt_or_ge ad.block w1.heap.size with h8 | h8
                · exact h8
                · rw [Array.getElem?_eq_none h8] at h7; cases h7
              | none => exact h4 w' fun hl => (by exfalso; simp [execOp, Instr.loadAt, Instr.sureAddr, hx] at hr)
            | _ => exact h4 w' fun hl => (by exfalso; simp [execOp, Instr.loadAt, Instr.sureAddr, hx] at hr)
          | fieldAddr s x f => exfalso; unfold cls at hc; dsimp only at hc; split at hc <;> omega
          | call c => exfalso; unfold cls at hc; dsimp only at hc; split at hc <;> omega
          | binOp op t x y yt => exfalso; unfold cls at hc; dsimp only at hc; split at hc <;> omega
          | _ => exact absurd hc (by simp [cls])
    | halt x w1 =>
      rw [hr] at h
      cases x <;> simp only [Oper.upon] at h
      exact absurd h (hb.1 _ _ _)
  · simp only [hw] at h
    exact ⟨undef, .inr ⟨by simpa using hw, rfl⟩, h⟩
theorem noSel {o : Oper} (h : cls P o < 5) : ∀ cs b, o.op ≠ .select cs b := by
  intro cs b e
  unfold cls at h
  rw [e] at h
  simp at h
def Like (o : Oper) (a a1 : Act) : Prop := ∃ v, a1.tmps = (a.put o.dst v).tmps
theorem put_tmps {a : Act} {d : Option Tmp} {v : Value} : (a.put d v).tmps = match d with | some d => a.tmps.setIfInBounds d v | none => a.tmps := by cases d <;> rfl
theorem Like.eval {o x : Oper} {a a1 : Act} (h : Like o a a1) (hs : ∀ cs b, x.op ≠ .select cs b) (hd : ∀ d, o.dst = some d → d ∉ x.looksAt ops) : execOp a1.eval x = execOp a.eval x ∧ Region.wanted x (yielded ops a1.tmps) = Region.wanted x (yielded ops a.tmps) := by
  obtain ⟨v, hv⟩ := h
  have e : a1.eval = (a.put o.dst v).eval := by
    funext y
    cases y <;> simp [Act.eval, hv]
  rw [e, hv]
  exact ⟨execOp_put x hs a o.dst v hd, wanted_put x a o.dst v hd⟩
/-- What comes of an operation: some value, some world, and what was said of them. -/
theorem wpOp_like {i : Nat} {o : Oper} {a : Act} {w : World} {K : Act → World → Prop} (hi : ops[i]? = some o) (h : Go.wpOp P ops Q i K a w) : Go.wpOp P ops Q i (fun a1 w1 => Like o a a1 ∧ K a1 w1) a w := by
  unfold Go.wpOp at *
  simp only [hi] at *
  by_cases hw : Region.wanted o (yielded ops a.tmps) = true
  · simp only [hw, if_true] at h ⊢
    refine h.imp (fun h => ?_) id
    unfold Oper.wp at *
    cases hr : (execOp a.eval o).run P w with
    | ok n w1 =>
      rw [hr] at h
      cases n <;> simp only [Oper.upon] at h ⊢
      · exact ⟨⟨_, rfl⟩, h⟩
      · exact ⟨⟨_, rfl⟩, h⟩
      · refine h.mono fun e w2 he => ?_
        cases e with
        | returned v => exact ⟨⟨_, rfl⟩, he⟩
        | panicked c => exact he
        | outgrown => exact he
      · exact ⟨⟨undef, by rw [put_tmps, put_tmps]⟩, h⟩
      · exact h.mono fun v w2 he => ⟨⟨_, rfl⟩, he⟩
    | halt x w1 =>
      rw [hr] at h
      cases x <;> simp only [Oper.upon] at h ⊢
      exact h
  · simp only [hw] at h ⊢
    exact ⟨⟨_, rfl⟩, h⟩
theorem wpOp_some (hb : Calm Q) {i : Nat} {o : Oper} {a : Act} {w : World} {K : Act → World → Prop} (hi : ops[i]? = some o) (h : Go.wpOp P ops Q i K a w) : ∃ a1 w', K a1 w' := by
  unfold Go.wpOp at h
  simp only [hi] at h
  by_cases hw : Region.wanted o (yielded ops a.tmps) = true
  · simp only [hw, if_true] at h
    have h := h.resolve_right fun h => hb.2 h.2
    unfold Oper.wp at h
    cases hr : (execOp a.eval o).run P w with
    | ok n w1 =>
      rw [hr] at h
      cases n <;> simp only [Oper.upon] at h
      · exact ⟨_, _, h⟩
      · exact ⟨_, _, h⟩
      · obtain ⟨e, w2, fr, hR, -⟩ := h []
        cases e with
        | returned v => exact ⟨_, _, hR⟩
        | panicked c => exact absurd hR (hb.1 _ _ _)
        | outgrown => exact absurd hR hb.2
      · exact ⟨_, _, h⟩
      · obtain ⟨v, w2, hR, -⟩ := h default []
        exact ⟨_, _, hR⟩
    | halt x w1 =>
      rw [hr] at h
      cases x <;> simp only [Oper.upon] at h
      exact absurd h (hb.1 _ _ _)
  · simp only [hw] at h
    exact ⟨_, _, h⟩
theorem exec_ext {o : Oper} {ρ : Operand → Value} (hc : cls P o ≤ 3) (hp : cls P o = 1 → plain o ρ = true) : GrowAt P (execOp ρ o) ∧ ∀ w n w1, (execOp ρ o).run P w = .ok n w1 → ∃ v, n = .value v := by
  have hcases : cls P o = 3 ∨ (cls P o ≤ 1 ∨ cls P o = 2) := by omega
  rcases hcases.imp id (fun h => h.imp id (fun h => And.intro h (rfl : true = true))) with h | h
  · exact exec_grow h
  · obtain ⟨h1, h2⟩ := exec_still (ρ := ρ) true h hp
    refine ⟨fun w n w1 hr => ?_, h2⟩
    rw [(h1 _ _ _ hr).1]
    exact Ext.rfl_ _
/-- c first, then j: or j first, then c. -/
theorem swap1 (hb : Calm Q) {j : Nat} {oc oj : Oper} {v : Value} {a : Act} {w : World} {K : Act → World → Prop} (hj : ops[j]? = some oj) (hap : oc.apart ops oj = true)
    (hsc : ∀ cs b, oc.op ≠ .select cs b) (hsj : ∀ cs b, oj.op ≠ .select cs b) (hL : L = true → cls P oj ≤ 3 ∨ ∀ a' w', K a' w' → KeptT T w w')
    (hp : cls P oj = 1 → Region.wanted oj (yielded ops a.tmps) = true → plain oj a.eval = true)
    (hy : YE T L P ops oc v a w) (h : Go.wpOp P ops Q j K (a.put oc.dst v) w) : Go.wpOp P ops Q j (fun a' w' => YE T L P ops oc v a' w' ∧ K (a'.put oc.dst v) w') a w := by
  obtain ⟨h1, h2, h3⟩ := Oper.apart_spec hap
  have keep : ∀ u w1, (L = true → KeptT T w w1) → YE T L P ops oc v (a.put oj.dst u) w1 := fun u w1 hE =>
    (hy.of_same (execOp_put oc hsc a oj.dst u h3) (wanted_put oc a oj.dst u h3)).ext hE
  have keepD : ∀ d u w1, (L = true → KeptT T w w1) → YE T L P ops oc v (({ a with defers := d :: a.defers } : Act).put oj.dst u) w1 := fun d u w1 hE =>
    (hy.of_same (a' := ({ a with defers := d :: a.defers } : Act).put oj.dst u) (execOp_put oc hsc { a with defers := d :: a.defers } oj.dst u h3) (wanted_put oc { a with defers := d :: a.defers } oj.dst u h3)).ext hE
  unfold Go.wpOp at *
  simp only [hj] at *
  rw [wanted_put oj a oc.dst v h1] at h
  split
  · rename_i hw
    simp only [hw, if_true] at h
    have h := h.resolve_right fun h => hb.2 h.2
    refine .inl ?_
    unfold Oper.wp at *
    rw [execOp_put oj hsj a oc.dst v h1] at h
    have hE : ∀ n w1, (execOp a.eval oj).run P w = .ok n w1 → L = true → (KeptT T w w1 ∧ ∃ u, n = .value u) ∨ ∀ a' w', K a' w' → KeptT T w w' := fun n w1 hr hL1 =>
      (hL hL1).imp (fun hL1 =>
      have := exec_ext (ρ := a.eval) hL1 (fun hc => hp hc hw)
      ⟨(this.1 _ _ _ hr).kept T, this.2 _ _ _ hr⟩) id
    generalize (execOp a.eval oj).run P w = r at *
    cases r with
    | ok n w' =>
      cases n <;> simp only [Oper.upon] at h ⊢
      case value u => exact ⟨keep u _ fun hl => (hE _ _ rfl hl).elim (·.1) fun hk => hk _ _ h, by rw [← Act.put_comm a v u h2]; exact h⟩
      case skip => exact ⟨keep _ _ fun hl => (hE _ _ rfl hl).elim (·.1) fun hk => hk _ _ h, by rw [← Act.put_comm a v undef h2]; exact h⟩
      case defer d =>
        refine ⟨keepD _ _ _ fun hl => (hE _ _ rfl hl).elim (·.1) fun hk => hk _ _ h, ?_⟩
        rw [← Act.put_comm _ v undef h2, ← Act.put_defers]
        exact h
      case enter f args =>
        refine Calls.mono h fun e w'' he => ?_
        cases e with
        | returned u => exact ⟨keep u _ fun hl => (hE _ _ rfl hl).elim (fun ⟨_, u, hu⟩ => by cases hu) fun hk => hk _ _ he, by rw [← Act.put_comm a v u h2]; exact he⟩
        | panicked c => exact absurd he (hb.1 _ _ _)
        | outgrown => exact he
      case row row args => exact Rows.mono h fun u w'' he => ⟨keep u _ fun hl => (hE _ _ rfl hl).elim (fun ⟨_, u, hu⟩ => by cases hu) fun hk => hk _ _ he, by rw [← Act.put_comm a v u h2]; exact he⟩
    | halt x w' =>
      cases x <;> simp only [Oper.upon] at h ⊢
      case panic u => exact absurd h (hb.1 _ _ _)
  · rename_i hw
    simp only [hw] at h
    exact ⟨keep _ _ fun _ => KeptT.rfl_ _ _, by rw [← Act.put_comm a v undef h2]; exact h⟩
/-- An operation over a slot that it does not look at. -/
theorem put_in (hb : Calm Q) {c : Nat} {oc oi : Oper} {v : Value} {a : Act} {w : World} {K : Act → World → Prop} (hc : ops[c]? = some oc) (hap : oc.apart ops oi = true) (hsc : ∀ cs b, oc.op ≠ .select cs b)
    (h : Go.wpOp P ops Q c (fun a' w' => K (a'.put oi.dst v) w') a w) : Go.wpOp P ops Q c K (a.put oi.dst v) w := by
  obtain ⟨h1, h2, h3⟩ := Oper.apart_spec hap
  unfold Go.wpOp at *
  simp only [hc] at *
  rw [wanted_put oc a oi.dst v h3]
  by_cases hw : Region.wanted oc (yielded ops a.tmps) = true
  · simp only [hw, if_true] at h ⊢
    replace h := h.resolve_right fun h => hb.2 h.2
    refine .inl ?_
    unfold Oper.wp at *
    rw [execOp_put oc hsc a oi.dst v h3]
    generalize (execOp a.eval oc).run P w = r at *
    cases r with
    | ok n w' =>
      cases n <;> simp only [Oper.upon] at h ⊢
      case value u => rw [← Act.put_comm a u v h2]; exact h
      case skip => rw [← Act.put_comm a undef v h2]; exact h
      case defer d =>
        rw [Act.put_defers, ← Act.put_comm _ undef v h2]
        exact h
      case enter f args =>
        refine Calls.mono h fun e w'' he => ?_
        cases e with
        | returned u =>
          show K ((a.put oi.dst v).put oc.dst u) w''
          rw [← Act.put_comm a u v h2]
          exact he
        | panicked c => exact absurd he (hb.1 _ _ _)
        | outgrown => exact he
      case row row args => exact Rows.mono h fun u w'' he => by rw [← Act.put_comm a u v h2]; exact he
    | halt x w' =>
      cases x <;> simp only [Oper.upon] at h ⊢
      case panic u => exact absurd h (hb.1 _ _ _)
  · simp only [hw] at h ⊢
    exact (Act.put_comm a undef v h2) ▸ h
end
end Go.Proofs.Ytnmogfjbbibeiaa
