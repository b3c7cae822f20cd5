/- A region that draws its order, walked in one order: whatever the order, what is done is the same, when every two operations of which neither waits for the other may change places. -/
import Derived.Orders
import Derived.Tactics
import Derived.KernelRfl
import Derived.Laws.Sem
namespace Go.Proofs.Ytnmogfjbbibeiaa
set_option maxRecDepth 100000
open Go
set_option linter.unusedVariables false

/-! ### What an operation asks of memory -/
/-- w' has all that w has, as it was. -/
def Ext (w w' : World) : Prop := w.heap.size ≤ w'.heap.size ∧ ∀ k, k < w.heap.size → w'.heap[k]? = w.heap[k]?
theorem Ext.rfl_ (w : World) : Ext w w := ⟨Nat.le_refl _, fun _ _ => rfl⟩
theorem Ext.tr {a b c : World} (h : Ext a b) (k : Ext b c) : Ext a c := ⟨Nat.le_trans h.1 k.1, fun i hi => (k.2 i (Nat.lt_of_lt_of_le hi h.1)).trans (h.2 i hi)⟩
theorem Ext.obj {w w' : World} (h : Ext w w') {k : Nat} {o : Obj} (ho : w.heap[k]? = some o) : w'.heap[k]? = some o := by
  have hk : k < w.heap.size := by
    rcases Nat.lt_or_ge k w.heap.size with h1 | h1
    · exact h1
    · rw [Array.getElem?_eq_none h1] at ho; cases ho
  exact (h.2 k hk).trans ho
theorem Ext.cell {w w' : World} (h : Ext w w') {a : Addr} {v : Value} (hc : w.cell? a = some v) : w'.cell? a = some v := by
  unfold World.cell? at *
  cases ho : w.heap[a.block]? with
  | none => rw [ho] at hc; cases hc
  | some o => rw [h.obj ho]; rw [ho] at hc; exact hc
theorem Ext.far {P : Program} {w w' : World} (h : Ext w w') {a : Addr} {b : Bool} {r : Value × List Addr} (hn : w.cell? a = none) (hc : w.farLoad P a b = .ok r) : w'.cell? a = none ∧ w'.farLoad P a b = .ok r := by
  unfold World.farLoad at *
  cases ho : w.heap[a.block]? with
  | none => rw [ho] at hc; cases hc
  | some o =>
    rw [ho] at hc
    have ho' := h.obj ho
    refine ⟨?_, ?_⟩
    · unfold World.cell? at *
      rw [ho'] ; rw [ho] at hn; exact hn
    · rw [ho']
      cases o with
      | view at_ u =>
        have hv : w'.viewLoad P at_ u a b = w.viewLoad P at_ u a b := by
          unfold World.viewLoad
          have hs : w'.seen P at_ u a b = w.seen P at_ u a b ∨ ∃ e, w.seen P at_ u a b = .error e := by
            unfold World.seen
            cases hx : w.heap[at_.block]? with
            | some o2 => rw [h.obj hx]; exact .inl rfl
            | none =>
              refine .inr ?_
              simp only []
              split
              · exact ⟨_, rfl⟩
              · split
                · split
                  · split
                    · exact ⟨_, rfl⟩
                    · exact ⟨_, rfl⟩
                  · exact ⟨_, rfl⟩
                · exact ⟨_, rfl⟩
          rcases hs with hs | ⟨e, hs⟩
          · rw [hs]
          · exfalso
            have : w.viewLoad P at_ u a b = .error e := by
              unfold World.viewLoad
              rw [hs]
              rfl
            simp only [this] at hc
            cases hc
        simp only [hv]
        exact hc
      | _ => cases hc

inductive Still (L : Bool) : {α : Type} → Sem α → Prop
  | pure {α : Type} (a : α) : Still L (.pure a)
  | halt {α : Type} (h : Halt) : Still L (.halt h : Sem α)
  | program {α : Type} {k : Program → Sem α} (h : ∀ p, Still L (k p)) : Still L (.program k)
  | mark {α : Type} {m : Mark} {k : Sem α} (h : Still L k) : Still L (.mark m k)
  | load {α : Type} {m : Mode} {a : Addr} {k : Value → Sem α} (hL : L = true) (h : ∀ v, Still L (k v)) : Still L (.load m a k)
  | dead {α : Type} {m : Sem α} (h : ∀ P w x w1, m.run P w ≠ .ok x w1) : Still L m
/-- It asks nothing of memory but to load (if it may), and leaves it as it is. -/
theorem Still.run {L : Bool} {α : Type} {m : Sem α} (h : Still L m) {P : Program} {w w1 : World} {x : α} (hr : m.run P w = .ok x w1) : w1 = w ∧ ∀ w', (L = true → Ext w w') → m.run P w' = .ok x w' := by
  induction h with
  | pure a => injection hr with h1 h2; subst h1 h2; exact ⟨rfl, fun _ _ => rfl⟩
  | halt h => cases hr
  | program h ih => exact ih _ hr
  | mark h ih => exact ih hr
  | load hL h ih =>
    simp only [Sem.run] at hr ⊢
    split at hr
    · rename_i v hv
      obtain ⟨h1, h2⟩ := ih _ hr
      refine ⟨h1, fun w' hE => ?_⟩
      rw [(hE hL).cell hv]
      exact h2 w' hE
    · rename_i hn
      split at hr
      · rename_i v l hf
        obtain ⟨h1, h2⟩ := ih _ hr
        refine ⟨h1, fun w' hE => ?_⟩
        obtain ⟨h3, h4⟩ := (hE hL).far hn hf
        rw [h3, h4]
        exact h2 w' hE
      · cases hr
  | dead h => exact absurd hr (h _ _ _ _)
theorem Still.bind {L : Bool} {α β : Type} {m : Sem α} {f : α → Sem β} (h : Still L m) (hf : ∀ a, Still L (f a)) : Still L (m >>= f) := by
  show Still L (m.bind f)
  induction h with
  | pure a => exact hf a
  | halt h => exact .halt h
  | program h ih => exact .program fun p => ih p
  | mark h ih => exact .mark ih
  | load hL h ih => exact .load hL fun v => ih v
  | dead h =>
    refine .dead fun P w x w1 hr => ?_
    rw [Sem.run_bind'] at hr
    rename_i m
    cases hm : m.run P w with
    | ok y w2 => exact h _ _ _ _ hm
    | halt e w2 => rw [hm] at hr; cases hr
theorem Still.pure' {L : Bool} {α : Type} (a : α) : Still L (Pure.pure a : Sem α) := .pure a
theorem Still.map {L : Bool} {α β : Type} {m : Sem α} {f : α → β} (h : Still L m) : Still L (f <$> m) := h.bind fun a => .pure _
theorem Still.ofFalse {L : Bool} {α : Type} {m : Sem α} (h : Still false m) : Still L m := by
  induction h with
  | pure a => exact .pure a
  | halt h => exact .halt h
  | program h ih => exact .program ih
  | mark h ih => exact .mark ih
  | load hL h ih => cases hL
  | dead h => exact .dead h
theorem dead_bind {α β : Type} {m : Sem α} {f : α → Sem β} (h : ∀ P w x w1, m.run P w ≠ .ok x w1) : ∀ P w x w1, (m >>= f).run P w ≠ .ok x w1 := by
  intro P w x w1 hr
  rw [Sem.run_bind] at hr
  cases hm : m.run P w with
  | ok y w2 => exact h _ _ _ _ hm
  | halt e w2 => rw [hm] at hr; cases hr
theorem bind_dead {α β : Type} {m : Sem α} {f : α → Sem β} (h : ∀ a P w x w1, (f a).run P w ≠ .ok x w1) : ∀ P w x w1, (m >>= f).run P w ≠ .ok x w1 := by
  intro P w x w1 hr
  rw [Sem.run_bind] at hr
  cases hm : m.run P w with
  | ok y w2 => rw [hm] at hr; exact h _ _ _ _ _ hr
  | halt e w2 => rw [hm] at hr; cases hr
theorem dead_halt {α : Type} (h : Halt) : ∀ P w x w1, (Sem.halt h : Sem α).run P w ≠ .ok x w1 := by intro P w x w1 hr; cases hr
theorem dead_runtimePanic {α : Type} (e : RuntimeError) : ∀ P w x w1, (runtimePanic e : Sem α).run P w ≠ .ok x w1 := by
  unfold runtimePanic
  refine bind_dead fun p => ?_
  cases e <;> simp only [] <;> first
    | exact dead_halt _
    | exact bind_dead fun _ => bind_dead fun _ => dead_halt _
theorem dead_bounds {α : Type} (k : IntKind) (x y : Int) (c : BoundsCode) : ∀ P w r w1, (boundsPanic k x y c : Sem α).run P w ≠ .ok r w1 := by
  unfold boundsPanic
  dsimp only
  split
  · exact bind_dead fun _ => dead_runtimePanic _
  · exact bind_dead fun _ => dead_runtimePanic _
section
variable {L : Bool}
theorem still_underlying (t : TypeId) : Still L (underlying t) := by
  unfold underlying
  refine .bind (.program fun p => .pure _) fun p => ?_
  split
  · exact .pure' _
  · exact .halt _
theorem still_typeInfo (t : TypeId) : Still L (typeInfo t) := by
  unfold typeInfo
  refine .bind (.program fun p => .pure _) fun p => ?_
  split
  · exact .pure' _
  · exact .halt _
theorem still_sizeOf (t : TypeId) : Still L (sizeOf t) := .bind (still_typeInfo t) fun _ => .pure' _
theorem still_zeroValue (t : TypeId) : Still L (zeroValue t) := by
  unfold zeroValue
  refine .bind (still_typeInfo t) fun i => ?_
  split
  · exact .pure' _
  · exact .halt _
theorem still_isAgg (t : TypeId) : Still L (isAgg t) := by
  unfold isAgg
  refine .bind (still_underlying t) fun d => ?_
  split <;> exact .pure' _
theorem still_part (t : TypeId) (cs : Array Value) (off : Nat) : Still L (part t cs off) := by
  unfold part
  refine .bind (still_isAgg t) fun b => ?_
  split
  · exact .bind (still_sizeOf t) fun _ => .pure' _
  · split
    · exact .pure' _
    · exact .halt _
theorem still_asIntOf (v : Value) : Still L (asIntOf v) := by
  unfold asIntOf
  split
  · exact .pure' _
  · exact .halt _
  · exact .halt _
theorem still_asBool (v : Value) : Still L (asBool v) := by
  unfold asBool
  split
  · exact .pure' _
  · exact .halt _
theorem still_asAgg (v : Value) : Still L (asAgg v) := by
  unfold asAgg
  split
  · exact .pure' _
  · exact .halt _
theorem still_sureAddr (v : Value) : Still L (Instr.sureAddr v) := by
  unfold Instr.sureAddr
  split
  · exact .pure' _
  · exact .halt _
theorem still_asAddr (v : Value) : Still L (asAddr v) := by
  unfold asAddr
  split
  · exact .pure' _
  · exact .dead (dead_runtimePanic _)
  · exact .halt _
theorem still_field (t : TypeId) (x : Value) (f : Nat) : Still L (Instr.field t x f) := by
  unfold Instr.field
  refine .bind (still_underlying t) fun d => ?_
  split
  · split
    · exact .bind (still_asAgg x) fun _ => still_part _ _ _
    · exact .halt _
  · exact .halt _
theorem still_extract (x : Value) (i : Nat) : Still L (Instr.extract x i) := by
  unfold Instr.extract
  split
  · split
    · exact .pure' _
    · exact .halt _
  · exact .halt _
theorem still_indexAt (t : TypeId) (x i : Value) : Still L (Instr.indexAt t x i) := by
  unfold Instr.indexAt
  repeat' first
    | exact Still.pure' _
    | exact Still.halt _
    | exact still_underlying _
    | exact still_sizeOf _
    | exact still_asIntOf _
    | exact still_sureAddr _
    | exact still_asAddr _
    | exact Still.dead (dead_bounds _ _ _ _)
    | exact Still.dead (dead_runtimePanic _)
    | exact still_part _ _ _
    | refine Still.bind ?_ fun _ => ?_
    | split
    | dsimp only
theorem still_index (t : TypeId) (x i : Value) : Still L (Instr.index t x i) := by
  unfold Instr.index
  repeat' first
    | exact Still.pure' _
    | exact Still.halt _
    | exact still_underlying _
    | exact still_sizeOf _
    | exact still_asIntOf _
    | exact still_sureAddr _
    | exact still_asAddr _
    | exact Still.dead (dead_bounds _ _ _ _)
    | exact Still.dead (dead_runtimePanic _)
    | exact still_part _ _ _
    | refine Still.bind ?_ fun _ => ?_
    | split
    | dsimp only
theorem still_sliceBound (x : Value) (y : Nat) (c : BoundsCode) : Still L (Instr.sliceBound x y c) := by
  unfold Instr.sliceBound
  repeat' first
    | exact Still.pure' _
    | exact Still.halt _
    | exact still_underlying _
    | exact still_sizeOf _
    | exact still_asIntOf _
    | exact still_sureAddr _
    | exact still_asAddr _
    | exact Still.dead (dead_bounds _ _ _ _)
    | exact Still.dead (dead_runtimePanic _)
    | exact still_part _ _ _
    | refine Still.bind ?_ fun _ => ?_
    | split
    | dsimp only
theorem still_sliceBounds (b : Bool) (len cap : Nat) (lo hi mx : Option Value) : Still L (Instr.sliceBounds b len cap lo hi mx) := by
  unfold Instr.sliceBounds
  repeat' first
    | exact Still.pure' _
    | exact Still.halt _
    | exact still_underlying _
    | exact still_sizeOf _
    | exact still_asIntOf _
    | exact still_sureAddr _
    | exact still_asAddr _
    | exact Still.dead (dead_bounds _ _ _ _)
    | exact Still.dead (dead_runtimePanic _)
    | exact still_part _ _ _
    | exact still_sliceBound _ _ _
    | refine Still.bind ?_ fun _ => ?_
    | split
    | dsimp only
theorem still_slice (t : TypeId) (x : Value) (lo hi mx : Option Value) : Still L (Instr.slice t x lo hi mx) := by
  unfold Instr.slice
  repeat' first
    | exact Still.pure' _
    | exact Still.halt _
    | exact still_underlying _
    | exact still_sizeOf _
    | exact still_asIntOf _
    | exact still_sureAddr _
    | exact still_asAddr _
    | exact Still.dead (dead_bounds _ _ _ _)
    | exact Still.dead (dead_runtimePanic _)
    | exact still_part _ _ _
    | exact still_sliceBounds _ _ _ _ _ _
    | refine Still.bind ?_ fun _ => ?_
    | split
    | dsimp only
theorem still_sliceAt (t : TypeId) (x : Value) (lo hi mx : Option Value) : Still L (Instr.sliceAt t x lo hi mx) := by
  unfold Instr.sliceAt
  repeat' first
    | exact Still.pure' _
    | exact Still.halt _
    | exact still_underlying _
    | exact still_sizeOf _
    | exact still_asIntOf _
    | exact still_sureAddr _
    | exact still_asAddr _
    | exact Still.dead (dead_bounds _ _ _ _)
    | exact Still.dead (dead_runtimePanic _)
    | exact still_part _ _ _
    | exact still_sliceBounds _ _ _ _ _ _
    | exact still_slice _ _ _ _ _
    | refine Still.bind ?_ fun _ => ?_
    | split
    | dsimp only
theorem still_mapM {α β : Type} {f : α → Sem β} (h : ∀ a, Still L (f a)) (xs : Array α) : Still L (xs.mapM f) := by
  rw [Array.mapM_eq_mapM_toList]
  refine .map ?_
  induction xs.toList with
  | nil => rw [List.mapM_nil]; exact .pure' _
  | cons x l ih => rw [List.mapM_cons]; exact .bind (h x) fun _ => .bind ih fun _ => .pure' _
theorem still_build (t : TypeId) (ps : Array (Nat × Value)) : Still L (Instr.build t ps) := by
  unfold Instr.build
  refine .bind (still_zeroValue t) fun z => .bind (still_underlying t) fun d => ?_
  split
  · refine .bind (still_mapM (fun f => .bind (still_sizeOf _) fun _ => .pure' _) _) fun places => ?_
    split
    · exact .pure' _
    · exact .halt _
  · refine .bind (still_sizeOf _) fun n => ?_
    split
    · exact .pure' _
    · exact .halt _
  · exact .halt _
theorem still_loadCellsFrom (a : Addr) : ∀ (n i : Nat) (acc : Array Value), Still true (loadCellsFrom a i n acc)
  | 0, _, _ => .pure' _
  | n + 1, i, acc => .bind (.load rfl fun _ => .pure _) fun _ => still_loadCellsFrom a n (i + 1) _
theorem still_loadAt (t : TypeId) (x : Value) : Still true (Instr.loadAt t x) := by
  unfold Instr.loadAt
  refine .bind (still_sureAddr x) fun a => ?_
  unfold loadVar
  refine .bind (still_isAgg t) fun b => ?_
  split
  · exact .bind (still_sizeOf t) fun n => .bind (still_loadCellsFrom _ _ _ _) fun _ => .pure' _
  · exact .load rfl fun _ => .pure _
end
end Go.Proofs.Ytnmogfjbbibeiaa
