/- The classes of operations, and the law: a region that draws its order may be walked in one order. -/
import Derived.Test.YtnmogfjbbibeiaaSq
namespace Go.Proofs.Ytnmogfjbbibeiaa
set_option maxRecDepth 100000
open Go
set_option linter.unusedVariables false

/-- What is done leans on memory no further than by loads (L), and leaves it. -/
def StillAt (L : Bool) (P : Program) {α : Type} (m : Sem α) : Prop := ∀ w x w1, m.run P w = .ok x w1 → w1 = w ∧ ∀ w', (L = true → Ext w w') → m.run P w' = .ok x w'
theorem Still.at_ {L : Bool} {P : Program} {α : Type} {m : Sem α} (h : Still L m) : StillAt L P m := fun _ _ _ hr => h.run hr
theorem StillAt.of_run {L : Bool} {P : Program} {α : Type} {m : Sem α} {x : α} (h : ∀ w, m.run P w = .ok x w) : StillAt L P m := fun w y w1 hr => by
  rw [h w] at hr
  injection hr with h1 h2
  subst h1 h2
  exact ⟨rfl, fun w' _ => h w'⟩
/-- What is done leaves what was there. -/
def GrowAt (P : Program) {α : Type} (m : Sem α) : Prop := ∀ w x w1, m.run P w = .ok x w1 → Ext w w1
theorem Still.grow {L : Bool} {P : Program} {α : Type} {m : Sem α} (h : Still L m) : GrowAt P m := fun w x w1 hr => by
  rw [(h.run hr).1]
  exact Ext.rfl_ _
theorem GrowAt.bind {P : Program} {α β : Type} {m : Sem α} {f : α → Sem β} (h : GrowAt P m) (hf : ∀ a, GrowAt P (f a)) : GrowAt P (m >>= f) := fun w x w1 hr => by
  rw [Sem.run_bind] at hr
  cases hm : m.run P w with
  | ok y w2 => rw [hm] at hr; exact (h _ _ _ hm).tr (hf y _ _ _ hr)
  | halt e w2 => rw [hm] at hr; cases hr
theorem grow_newObj (P : Program) (o : Obj) : GrowAt P (newObj o) := fun w x w1 hr => by
  injection hr with h1 h2
  subst h2
  refine ⟨by simp, fun k hk => ?_⟩
  show (w.heap.push o)[k]? = _
  rw [Array.getElem?_push, if_neg (by omega)]
theorem grow_dead {P : Program} {α : Type} {m : Sem α} (h : ∀ P w x w1, m.run P w ≠ .ok x w1) : GrowAt P m := fun w x w1 hr => absurd hr (h _ _ _ _)
theorem grow_newVar (P : Program) (t : TypeId) (v : Value) : GrowAt P (newVar t v) := .bind (grow_newObj P _) fun _ => (Still.pure' (L := false) _).grow
theorem grow_alloc (P : Program) (t : TypeId) : GrowAt P (Instr.alloc t true (.tuple #[])) := by
  unfold Instr.alloc
  exact .bind (still_zeroValue (L := false) t).grow fun z => .bind (grow_newVar P _ _) fun _ => (Still.pure' (L := false) _).grow
theorem grow_box (P : Program) (t : TypeId) (v : Value) : GrowAt P (Instr.box t v) := .bind (grow_newVar P _ _) fun _ => (Still.pure' (L := false) _).grow
theorem grow_buildSlice (P : Program) (t : TypeId) (n : Nat) (ps : Array (Nat × Value)) : GrowAt P (Instr.buildSlice t n ps) := by
  unfold Instr.buildSlice newRow
  repeat' first
    | exact (Still.pure' (L := false) _).grow
    | exact (Still.halt (L := false) _).grow
    | exact (still_underlying (L := false) _).grow
    | exact (still_sizeOf (L := false) _).grow
    | exact (still_zeroValue (L := false) _).grow
    | exact grow_newObj P _
    | refine GrowAt.bind ?_ fun _ => ?_
    | split
    | dsimp only
theorem grow_makeSlice (P : Program) (t : TypeId) (l c : Value) : GrowAt P (Instr.makeSlice t l c) := by
  unfold Instr.makeSlice newRow askRoom asInt
  repeat' first
    | exact (Still.pure' (L := false) _).grow
    | exact (Still.halt (L := false) _).grow
    | exact (Still.mark (L := false) (Still.pure _)).grow
    | exact (still_underlying (L := false) _).grow
    | exact (still_sizeOf (L := false) _).grow
    | exact (still_asIntOf (L := false) _).grow
    | exact (still_typeInfo (L := false) _).grow
    | exact (still_zeroValue (L := false) _).grow
    | exact grow_dead (dead_bind (dead_runtimePanic _))
    | exact grow_dead (bind_dead fun _ => dead_bind (dead_runtimePanic _))
    | exact grow_dead (dead_runtimePanic _)
    | exact grow_dead (bind_dead fun _ => dead_runtimePanic _)
    | exact grow_newObj P _
    | refine GrowAt.bind ?_ fun _ => ?_
    | split
    | dsimp only

def fldOK (P : Program) (s : TypeId) (f : Nat) : Bool := match P.underlying s with
  | some (.struct fs) => match fs[f]? with
    | some fd => match P.info? fd.type with
      | some i => i.size != 0
      | none => false
    | none => false
  | _ => false
def lenOK (P : Program) (c : Call) : Bool := match c.callee with
  | .builtin .len => match c.argTypes[0]? with
    | some t => match c.args[0]? with
      | some _ => match P.underlying t with
        | some .string => true
        | some (.slice _) => true
        | _ => false
      | none => false
    | none => false
  | _ => false
def typOK (P : Program) (t : TypeId) : Bool := match P.underlying t with
  | some (.int _) => true
  | some .string => true
  | some .bool => true
  | _ => false
/-- 0: whatever its operands hold, it leans on nothing else; 1: so where they are plain; 2: a load; 3: makes memory; 4: else; 5: not borne. -/
def cls (P : Program) (o : Oper) : Nat := match o.op with
  | .move _ | .assign _ | .pick _ _ _ | .build _ _ | .field _ _ _ | .extract _ _ | .indexAddr _ _ _ | .index _ _ _ | .slice _ _ _ _ _ | .makeFunc _ _ _ => 0
  | .fieldAddr s _ f => if fldOK P s f then 0 else 4
  | .nilCheck _ | .unOp _ _ _ => 1
  | .binOp _ t _ _ _ => if typOK P t then 1 else 4
  | .call c => if lenOK P c then 0 else 4
  | .load _ _ => 2
  | .alloc _ | .box _ _ | .buildSlice _ _ _ | .makeSlice _ _ _ => 3
  | .select _ _ | .defer _ | .go _ => 5
  | _ => 4
def plain2 : Value → Value → Bool
  | .int _ _, .int _ _ | .string _, .string _ | .bool _, .bool _ => true
  | _, _ => false
def plain (o : Oper) (ev : Operand → Value) : Bool := match o.op with
  | .nilCheck x => match ev x with | .pointer _ => true | _ => false
  | .binOp _ _ x y _ => plain2 (ev x) (ev y)
  | .unOp _ _ x => plain2 (ev x) (ev x)
  | _ => true
theorem plain_congr {o : Oper} {ev ev' : Operand → Value} (h : ∀ x ∈ o.op.operands, ev x = ev' x) : plain o ev = plain o ev' := by
  unfold plain
  cases ho : o.op <;> simp only [] <;> rw [ho] at h <;> simp only [Op.operands] at h
  · rw [h _ (by simp)]
  · rw [h _ (by simp), h _ (by simp)]
  · rw [h _ (by simp)]
theorem stillAt_valued {L : Bool} {P : Program} {s : Sem Value} (h : StillAt L P s) : StillAt L P (do pure (Next.value (← s)) : Sem Next) ∧ ∀ w n w1, (do pure (Next.value (← s)) : Sem Next).run P w = .ok n w1 → ∃ v, n = .value v := by
  refine ⟨fun w n w1 hr => ?_, fun w n w1 hr => ?_⟩
  · rw [Sem.run_bind] at hr
    cases hm : s.run P w with
    | ok y w2 =>
      rw [hm] at hr
      injection hr with h1 h2
      subst h1 h2
      obtain ⟨h3, h4⟩ := h _ _ _ hm
      refine ⟨h3, fun w' hE => ?_⟩
      rw [Sem.run_bind, h4 w' hE]
      rfl
    | halt e w2 => rw [hm] at hr; cases hr
  · rw [Sem.run_bind] at hr
    cases hm : s.run P w with
    | ok y w2 =>
      rw [hm] at hr
      injection hr with h1 h2
      exact ⟨y, h1.symm⟩
    | halt e w2 => rw [hm] at hr; cases hr
theorem growAt_valued {P : Program} {s : Sem Value} (h : GrowAt P s) : GrowAt P (do pure (Next.value (← s)) : Sem Next) ∧ ∀ w n w1, (do pure (Next.value (← s)) : Sem Next).run P w = .ok n w1 → ∃ v, n = .value v :=
  ⟨.bind h fun _ => (Still.pure' (L := false) _).grow, fun w n w1 hr => by
    rw [Sem.run_bind] at hr
    cases hm : s.run P w with
    | ok y w2 => rw [hm] at hr; injection hr with h1 h2; exact ⟨y, h1.symm⟩
    | halt e w2 => rw [hm] at hr; cases hr⟩
theorem still_stringOp {L : Bool} (op : BinOp) (a b : ByteArray) : Still L (Op.stringOp op a b) := by
  unfold Op.stringOp
  repeat' first
    | exact Still.pure' _
    | exact Still.halt _
    | split
    | dsimp only
theorem still_binOp {L : Bool} (op : BinOp) (t : TypeId) (x y : Value) (h : plain2 x y = true) : Still L (binOp op t x y) := by
  unfold plain2 at h
  split at h
  · rename_i k a k' b
    unfold binOp
    split <;> first
      | (rename_i h1 h2; cases h1; done)
      | skip
    all_goals repeat' first
      | exact Still.pure' _
      | exact Still.halt _
      | exact Still.dead (dead_runtimePanic _)
      | contradiction
      | split
      | (unfold Op.shift; dsimp only)
      | (unfold Op.intArith)
      | (unfold Op.intDiv)
      | (unfold Op.intBits; dsimp only)
      | (unfold Op.intCmp)
      | simp_all
  · rename_i a b
    have e : ∀ op, binOp op t (.string a) (.string b) = Op.stringOp op a b := fun op => by cases op <;> rfl
    rw [e]
    exact still_stringOp _ _ _
  · rename_i a b
    have e1 : ∀ d, Still L (Op.equalIn (d + 1) t (.bool a) (.bool b)) := fun d => by
      unfold Op.equalIn
      refine .bind (still_underlying t) fun dd => ?_
      split <;> first
        | exact Still.pure' _
        | exact Still.halt _
        | (simp_all; done)
    have e2 : Still L (Op.equal t (.bool a) (.bool b)) := e1 9999
    cases op <;> first
      | exact .bind e2 fun _ => .pure' _
      | exact .halt _
  · cases h
theorem still_eqGuard {L : Bool} (op : BinOp) (t : TypeId) (x y : Operand) (a b : Value) (h : plain2 a b = true) : Still L (eqGuard op t x y a b) := by
  have H : eqGuard op t x y a b = Pure.pure () := by
    unfold plain2 at h
    split at h
    · cases op <;> rfl
    · cases op <;> rfl
    · cases op <;> rfl
    · cases h
  rw [H]
  exact .pure' _
theorem still_unary {L : Bool} (op : UnOp) (x : Value) (h : plain2 x x = true) : Still L (Op.unary op x) := by
  unfold plain2 at h
  split at h
  · unfold Op.unary
    split <;> first
      | exact Still.pure' _
      | exact Still.halt _
      | skip
    all_goals (unfold Op.intArith Op.intBits; dsimp only; exact Still.pure' _)
  · unfold Op.unary
    split <;> first
      | exact Still.pure' _
      | exact Still.halt _
      | (simp_all; done)
  · unfold Op.unary
    split <;> first
      | exact Still.pure' _
      | exact Still.halt _
      | (simp_all; done)
  · cases h
/-- An operation of class 0, 1, 2. -/
theorem exec_still {P : Program} {o : Oper} {ρ : Operand → Value} (L : Bool) (hc : cls P o ≤ 1 ∨ (cls P o = 2 ∧ L = true)) (hp : cls P o = 1 → plain o ρ = true) :
    StillAt L P (execOp ρ o) ∧ ∀ w n w1, (execOp ρ o).run P w = .ok n w1 → ∃ v, n = .value v := by
  have V : ∀ {s : Sem Value}, Still L s → StillAt L P (do pure (Next.value (← s)) : Sem Next) ∧ ∀ w n w1, (do pure (Next.value (← s)) : Sem Next).run P w = .ok n w1 → ∃ v, n = .value v := fun h => stillAt_valued h.at_
  have Z : ∀ v : Value, StillAt L P (Pure.pure (Next.value v) : Sem Next) ∧ ∀ w n w1, (Pure.pure (Next.value v) : Sem Next).run P w = .ok n w1 → ∃ v, n = .value v := fun v =>
    ⟨(Still.pure' _).at_, fun w n w1 hr => ⟨v, by injection hr with h1 _; exact h1.symm⟩⟩
  obtain ⟨dst, op, type, pos, after, guard⟩ := o
  cases op
  case move x => exact Z _
  case assign x => exact Z _
  case pick c a b =>
    have e : execOp ρ ⟨dst, .pick c a b, type, pos, after, guard⟩ = (do pure (Next.value (← (do pure (if ← asBool (ρ c) then ρ a else ρ b))))) := by
      unfold execOp
      simp
    rw [e]
    exact V (.bind (still_asBool _) fun _ => .pure' _)
  case build t ps => exact V (still_build _ _)
  case field t x f => exact V (still_field _ _ _)
  case extract t i => exact V (still_extract _ _)
  case indexAddr t x i => exact V (still_indexAt _ _ _)
  case index t x i => exact V (still_index _ _ _)
  case slice t x l h m => exact V (still_sliceAt _ _ _ _ _)
  case makeFunc fn f c => exact V (.pure' _)
  case fieldAddr s x f =>
    have hc : fldOK P s f = true := by
      cases hb : fldOK P s f with
      | true => rfl
      | false => exfalso; simp [cls, hb] at hc
    refine stillAt_valued (s := Instr.fieldAt s (ρ x) f) ?_
    unfold fldOK at hc
    split at hc
    · rename_i fs hfs
      split at hc
      · rename_i fd hfd
        split at hc
        · rename_i i hi
          have hsz : ¬ i.size = 0 := by simpa using hc
          cases hv : ρ x with
          | pointer a? =>
            cases a? with
            | some a =>
              refine .of_run (x := .pointer (some (a.add fd.offset))) fun w => ?_
              simp [Instr.fieldAt, run_underlying hfs, hfd, Instr.sureAddr, fieldPlace, sizeOf, typeInfo, hi, hsz]
            | none => intro w y w1 hr; simp [Instr.fieldAt, run_underlying hfs, hfd, Instr.sureAddr] at hr
          | _ => intro w y w1 hr; simp [Instr.fieldAt, run_underlying hfs, hfd, Instr.sureAddr] at hr
        · cases hc
      · cases hc
    · cases hc
  case nilCheck x =>
    have hp := hp rfl
    unfold plain at hp
    dsimp only at hp
    split at hp
    · rename_i a ha
      cases a with
      | none =>
        refine ⟨fun w y w1 hr => ?_, fun w y w1 hr => ?_⟩
        · simp only [execOp, ha] at hr; exact absurd hr (dead_runtimePanic _ _ _ _ _)
        · simp only [execOp, ha] at hr; exact absurd hr (dead_runtimePanic _ _ _ _ _)
      | some a =>
        have e : execOp ρ ⟨dst, .nilCheck x, type, pos, after, guard⟩ = Pure.pure (Next.value (.pointer (some a))) := by simp only [execOp, ha]
        rw [e]
        exact Z _
    · cases hp
  case binOp op t x y yt =>
    have hb : typOK P t = true := by
      cases hb : typOK P t with
      | true => rfl
      | false => exfalso; simp [cls, hb] at hc
    have hp := hp (by simp [cls, hb])
    exact V (.bind (still_eqGuard _ _ _ _ _ _ hp) fun _ => still_binOp _ _ _ _ hp)
  case unOp op t x => exact V (still_unary _ _ (hp rfl))
  case load t x =>
    rcases hc with hc | ⟨_, rfl⟩
    · exact absurd hc (by simp [cls])
    · exact V (still_loadAt _ _)
  case call c =>
    have hc : lenOK P c = true := by
      cases hb : lenOK P c with
      | true => rfl
      | false => exfalso; simp [cls, hb] at hc
    obtain ⟨callee, args, tys⟩ := c
    unfold lenOK at hc
    dsimp only at hc
    split at hc
    · split at hc
      · rename_i t ht
        split at hc
        · rename_i x hx
          have hx' : (args.map ρ)[0]? = some (ρ x) := by simp [hx]
          refine stillAt_valued (s := Builtin.len_ tys type (args.map ρ)) ?_
          split at hc
          · rename_i hu
            cases hv : ρ x with
            | string b => exact .of_run (x := goInt b.size) fun w => by simp [Builtin.len_, ht, hx, hv, run_underlying hu]
            | _ => intro w y w1 hr; simp [Builtin.len_, ht, hx, hv, run_underlying hu] at hr
          · rename_i e hu
            cases hv : ρ x with
            | slice a n c => exact .of_run (x := goInt n) fun w => by simp [Builtin.len_, ht, hx, hv, run_underlying hu]
            | _ => intro w y w1 hr; simp [Builtin.len_, ht, hx, hv, run_underlying hu] at hr
          · cases hc
        · cases hc
      · cases hc
    · cases hc
  all_goals exact absurd hc (by simp [cls])
theorem exec_grow {P : Program} {o : Oper} {ρ : Operand → Value} (hc : cls P o = 3) :
    GrowAt P (execOp ρ o) ∧ ∀ w n w1, (execOp ρ o).run P w = .ok n w1 → ∃ v, n = .value v := by
  obtain ⟨dst, op, type, pos, after, guard⟩ := o
  cases op
  case alloc t => exact growAt_valued (grow_alloc P t)
  case box t x => exact growAt_valued (grow_box P t _)
  case buildSlice t n ps => exact growAt_valued (grow_buildSlice P t n _)
  case makeSlice t l c => exact growAt_valued (grow_makeSlice P t _ _)
  case fieldAddr s x f => exfalso; unfold cls at hc; dsimp only at hc; split at hc <;> omega
  case call c => exfalso; unfold cls at hc; dsimp only at hc; split at hc <;> omega
  case binOp op t x y yt => exfalso; unfold cls at hc; dsimp only at hc; split at hc <;> omega
  all_goals exact absurd hc (by simp [cls])
end Go.Proofs.Ytnmogfjbbibeiaa
