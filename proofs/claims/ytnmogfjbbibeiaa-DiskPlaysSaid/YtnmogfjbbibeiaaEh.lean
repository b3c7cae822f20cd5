/- The document's drive: laws of its appends; a step; Fuse; New. -/
import Derived.Test.YtnmogfjbbibeiaaEg
namespace Go.Proofs.Ytnmogfjbbibeiaa
set_option maxRecDepth 100000
open Go.RowKit
set_option linter.unusedVariables false

theorem FO.empty (w : World) : FO w.heap.size (w.alloc (.cells #[] 64)) (.slice (some ⟨w.heap.size, 0, none⟩) 0 0) [] :=
  ⟨rfl, .inr ⟨w.heap.size, 0, #[], rfl, Nat.le_refl _, heap_alloc_new w _, Nat.le_refl _, Nat.zero_le _, rfl, rfl⟩⟩
theorem FO.kp {base : Nat} {w w' : World} {v : Value} {fs : List DF} {S : List Nat} (h : FO base w v fs) (k : Kp S w w') (hS : ∀ x, v.ownBlock = some x → x ∉ S) : FO base w' v fs := by
  obtain ⟨h1, h2⟩ := h
  refine ⟨h1, ?_⟩
  rcases h2 with h2 | ⟨g, cap, cur, rfl, hb, hg, r⟩
  · exact .inl h2
  · exact .inr ⟨g, cap, cur, rfl, hb, (k.block g (Array.getElem?_eq_some_iff.1 hg).1 (hS g (by simp [Value.ownBlock]))).trans hg, r⟩
theorem FO.base {base : Nat} {w : World} {v : Value} {fs : List DF} (h : FO base w v fs) {x : Nat} (hx : v.ownBlock = some x) : base ≤ x := by
  rcases h.2 with ⟨rfl, _⟩ | ⟨g, cap, cur, rfl, hb, hg, r⟩
  · simp [Value.ownBlock] at hx
  · have : g = x := by simpa [Value.ownBlock] using hx
    omega
theorem FO.lower {base base' : Nat} {w : World} {v : Value} {fs : List DF} (h : FO base w v fs) (hb : base' ≤ base) : FO base' w v fs := by
  obtain ⟨h1, h2⟩ := h
  refine ⟨h1, h2.imp id ?_⟩
  rintro ⟨g, cap, cur, hv, hg, r⟩
  exact ⟨g, cap, cur, hv, Nat.le_trans hb hg, r⟩
/-- append of a literal of one file onto a row that was cut. -/
theorem wpl_cut {ops : Array Oper} {rest : List Oper} {o : Oper} {a : Act} {Q : Exit → Act → World → Prop} (w0 : World) (hgd : o.guard = none) (s x : Operand)
    (ho : o.op = .call { callee := .builtin .append, args := #[s, x], argTypes := #[58, 58] }) (hty : o.type = 58) (A : Option Addr) (n c i : Nat) (fs : List DF) (f : DF)
    (hrow : FRow w0 (.slice A n c) fs) (hi : i ≤ fs.length) (hs : a.eval s = .slice A i i) (hx : a.eval x = .slice (some ⟨w0.heap.size, 0, none⟩) 1 1) (hn : fs.length ≤ 100000)
    (h : ∀ v' w', FO w0.heap.size w' v' (fs.take i ++ [f]) → Kp [] w0 w' → wpList Try.prog ops Q rest (a.put o.dst v') w') :
    wpList Try.prog ops Q (o :: rest) a (w0.alloc (.cells #[.string f.name, .string f.last, .string f.wait, .bool f.sure] 64)) := by
  have k0 : Kp [] w0 (w0.alloc (.cells #[.string f.name, .string f.last, .string f.wait, .bool f.sure] 64)) := (Kp.rfl_ [] w0).alloc _
  have ha : At (w0.alloc (.cells #[.string f.name, .string f.last, .string f.wait, .bool f.sure] 64)) w0.heap.size 64 #[.string f.name, .string f.last, .string f.wait, .bool f.sure] := At.new w0 _ _
  refine wpList_plain hgd fun K hK => ?_
  obtain ⟨v', w', hrun, h3, h4⟩ := run_cut _ A n c i fs [f] (hrow.kp k0 (by simp)) hi ⟨w0.heap.size, 0, none⟩ 1 (fun j u hu => by
    rw [addr0, ha.cell j]
    have e : fcs [f] = [.string f.name, .string f.last, .string f.wait, .bool f.sure] := rfl
    rw [e] at hu
    simpa using hu) (by simp) (by simp; omega)
  have hrun : (Builtin.append_ #[58, 58] 58 #[.slice A i i, .slice (some ⟨w0.heap.size, 0, none⟩) 1 1]).run Try.prog _ = .ok v' w' := hrun
  unfold Oper.wp execOp
  simp only [ho, hty, resolve, invoke, builtin, Sem.run_bind, Sem.run_pure, Result.andThen_ok, List.map_toArray, List.map_cons, List.map_nil, hs, hx, hrun]
  exact hK _ _ (h v' w' (h3.lower (by simp)) (k0.trans h4))
/-- append of files that are read onto a row of the call's own. -/
theorem wpl_fapp {ops : Array Oper} {rest : List Oper} {o : Oper} {a : Act} {Q : Exit → Act → World → Prop} {w : World} (base : Nat) (hgd : o.guard = none) (s x : Operand)
    (ho : o.op = .call { callee := .builtin .append, args := #[s, x], argTypes := #[58, 58] }) (hty : o.type = 58) (v : Value) (fs : List DF) (hown : FO base w v fs) (hs : a.eval s = v)
    (B : Option Addr) (m c : Nat) (ms : List DF) (hx : a.eval x = .slice B m c) (hm : m = ms.length) (hr : FSrc w B ms) (hn : fs.length + ms.length ≤ 1000000) (hb : base ≤ w.heap.size)
    (h : ∀ v' w', FO base w' v' (fs ++ ms) → Kp v.ownBlock.toList w w' → (v'.ownBlock = v.ownBlock ∨ v'.ownBlock = some w.heap.size) → wpList Try.prog ops Q rest (a.put o.dst v') w') : wpList Try.prog ops Q (o :: rest) a w := by
  subst hm
  refine wpList_plain hgd fun K hK => ?_
  obtain ⟨v', w', hrun, h3, h4, h5⟩ := run_fapp w base v fs ms hown B c hr hn hb
  unfold Oper.wp execOp
  simp only [ho, hty, resolve, invoke, builtin, Sem.run_bind, Sem.run_pure, Result.andThen_ok, List.map_toArray, List.map_cons, List.map_nil, hs, hx, hrun]
  exact hK _ _ (h v' w' h3 (Kp.of_grown h4 fun k hk _ => by simp [hk]) h5)
/-- What the document's drive has. -/
structure RS where
  fs : List DF
  left : Int
  off : Bool
  count : Nat
def RDrv (w : World) (g : Nat) (R : RS) (P : Nat → Prop) : Prop := ∃ v, FSt w g v R.fs R.left R.off R.count ∧ P g ∧ ∀ x, v.ownBlock = some x → P x
def RLeft (w : World) (g : Nat) (R : RS) (P : Nat → Prop) (w' : World) : Prop := RDrv w' g R (fun x => P x ∨ w.heap.size ≤ x) ∧ KX P w w'
theorem RDrv.mono {w : World} {g : Nat} {R : RS} {P Q : Nat → Prop} (h : RDrv w g R P) (hP : ∀ x, P x → x < w.heap.size → Q x) : RDrv w g R Q := by
  obtain ⟨v, h1, h2, h3⟩ := h
  exact ⟨v, h1, hP g h2 h1.blk.lt, fun x hx => hP x (h3 x hx) (h1.row.lt hx)⟩
theorem RDrv.kx {w w' : World} {g : Nat} {R : RS} {P Q : Nat → Prop} (h : RDrv w g R P) (k : KX Q w w') (hd : ∀ x, P x → ¬ Q x) : RDrv w' g R P := by
  obtain ⟨v, h1, h2, h3⟩ := h
  obtain ⟨S, k1, k2⟩ := k
  exact ⟨v, h1.kp k1 (fun hm => hd _ h2 (k2 _ hm)) (fun x hx hm => hd _ (h3 x hx) (k2 _ hm)), h2, h3⟩
theorem RDrv.kp {w w' : World} {g : Nat} {R : RS} {P : Nat → Prop} (h : RDrv w g R P) (k : Kp [] w w') : RDrv w' g R P := h.kx (Q := fun _ => False) ⟨[], k, by simp⟩ (fun _ _ h => h)
theorem rleft_same {w : World} {g : Nat} {R : RS} {P : Nat → Prop} (h : RDrv w g R P) : RLeft w g R P w := ⟨h.mono fun _ h _ => .inl h, KX.rfl_ _ _⟩
theorem rleft_kp {w w' : World} {g : Nat} {R : RS} {P : Nat → Prop} (h : RDrv w g R P) (k : Kp [] w w') : RLeft w g R P w' := ⟨(h.kp k).mono fun _ h _ => .inl h, KX.of k (by simp)⟩
theorem RLeft.before {w w1 w' : World} {g : Nat} {R : RS} {P : Nat → Prop} (h : RLeft w1 g R P w') (k : Kp [] w w1) : RLeft w g R P w' :=
  ⟨h.1.mono fun x hx _ => hx.imp id fun hx => Nat.le_trans k.size hx, (KX.of (P := P) k (by simp)).then h.2 fun x hx _ => hx⟩
def RStp (w : World) (g : Nat) (v : Value) (fs : List DF) (left : Int) (off : Bool) (count : Nat) (e : Ending) (w' : World) : Prop :=
  (left = 0 ∧ e = .returned (.bool false) ∧ FSt w' g v fs left true count ∧ Kp [g] w w') ∨ (left ≠ 0 ∧ e = .returned (.bool true) ∧ FSt w' g v fs (if 0 < left then left - 1 else left) off (count + 1) ∧ Kp [g] w w')
set_option maxHeartbeats 4000000 in
theorem rstep_any (w : World) {g : Nat} {v : Value} {fs : List DF} {left : Int} {off : Bool} {count : Nat} (h : FSt w g v fs left off count) (hl : -1 ≤ left ∧ left ≤ 9223372036854775807) (hc : count ≤ 1000000000000) :
    Calls Try.prog 49 #[.pointer (some ⟨g, 0, none⟩)] w (RStp w g v fs left off count) := by
  have c1 := h.blk.cell 1
  have c2 := h.blk.cell 2
  have c3 := h.blk.cell 3
  have f1 := h.blk.frozen 1
  have f2 := h.blk.frozen 2
  have f3 := h.blk.frozen 3
  by_cases h0 : left = 0
  · subst h0
    have a1 := h.blk.set 2 (.bool true)
    have k1 : Kp [g] w (w.setCell ⟨g, 2, none⟩ (.bool true)) := (Kp.rfl_ [g] w).set (by simp) _
    have H1 := Lib.hid (h.own (left' := 0) (off' := true) (count' := count) k1 a1)
    clear a1
    go_enter Try.func49, Try.ntmps49
    go_wp2_with fail
    go_ret
    exact .inl ⟨rfl, rfl, H1.out, k1⟩
  · have hne : (left == 0) = false := by rw [beq_eq_false_iff_ne]; exact h0
    by_cases hp : 0 < left
    · have hw : IntKind.i64.wrap (left - 1) = left - 1 := IntWalk.i64_in _ (by omega)
      have a0 := h.blk.set 1 (.int .i64 (left - 1))
      have a1 := a0.set 3 (.int .i64 (count + 1 : Nat))
      have q3 := a0.cell 3
      have g3 := a0.frozen 3
      have k1 : Kp [g] w ((w.setCell ⟨g, 1, none⟩ (.int .i64 (left - 1))).setCell ⟨g, 3, none⟩ (.int .i64 (count + 1 : Nat))) := ((Kp.rfl_ [g] w).set (by simp) _).set (by simp) _
      have H1 := Lib.hid (h.own (left' := left - 1) (off' := off) (count' := count + 1) k1 a1)
      have H0 := Lib.hid h0
      clear a0 a1 h0
      go_enter Try.func49, Try.ntmps49
      go_wp2_with fail
      go_ret
      exact .inr ⟨H0.out, rfl, by rw [if_pos hp]; exact H1.out, k1⟩
    · have a1 := h.blk.set 3 (.int .i64 (count + 1 : Nat))
      have k1 : Kp [g] w (w.setCell ⟨g, 3, none⟩ (.int .i64 (count + 1 : Nat))) := (Kp.rfl_ [g] w).set (by simp) _
      have H1 := Lib.hid (h.own (left' := left) (off' := off) (count' := count + 1) k1 a1)
      have H0 := Lib.hid h0
      clear a1 h0
      go_enter Try.func49, Try.ntmps49
      go_wp2_with fail
      go_ret
      exact .inr ⟨H0.out, rfl, by rw [if_neg (by omega)]; exact H1.out, k1⟩
def RS.fuse (R : RS) (n : Int) : RS := { R with left := max n (-1) }
set_option maxHeartbeats 1000000 in
theorem rfuse_any (n : Int) {w : World} {g : Nat} {R : RS} {P : Nat → Prop} (h : RDrv w g R P) :
    Calls Try.prog 34 #[.pointer (some ⟨g, 0, none⟩), .int .i64 n] w fun e w' => e = .returned (.tuple #[]) ∧ RLeft w g (R.fuse n) P w' := by
  obtain ⟨v, h1, h2, h3⟩ := h
  have f1 := h1.blk.frozen 1
  have c1 := h1.blk.cell 1
  have a1 := h1.blk.set 1 (.int .i64 (max n (-1)))
  have k1 : Kp [g] w (w.setCell ⟨g, 1, none⟩ (.int .i64 (max n (-1)))) := (Kp.rfl_ [g] w).set (by simp) _
  have H1 := Lib.hid (h1.own (left' := max n (-1)) (off' := R.off) (count' := R.count) k1 a1)
  clear a1
  go_enter Try.func34, Try.ntmps34
  go_wp2_with fail
  go_end0
  exact ⟨rfl, ⟨v, H1.out, .inl h2, fun x hx => .inl (h3 x hx)⟩, KX.of k1 (fun x hx => by simp at hx; rw [hx]; exact h2)⟩
def rs0 : RS := ⟨[], -1, false, 0⟩
set_option maxHeartbeats 1000000 in
theorem rdnew_any (w : World) : Calls Try.prog 12 #[] w fun e w' => ∃ g, e = .returned (.pointer (some ⟨g, 0, none⟩)) ∧ RDrv w' g rs0 (fun x => w.heap.size ≤ x) ∧ Kp [] w w' := by
  go_enter Try.func12, Try.ntmps12
  go_wp2_with fail
  go_ret
  exact ⟨_, rfl, ⟨.slice none 0 0, ⟨At.new w _ _, .inl ⟨rfl, rfl⟩, by simp [Value.ownBlock]⟩, Nat.le_refl _, by simp [Value.ownBlock]⟩, (Kp.rfl_ [] w).alloc _⟩
end Go.Proofs.Ytnmogfjbbibeiaa
