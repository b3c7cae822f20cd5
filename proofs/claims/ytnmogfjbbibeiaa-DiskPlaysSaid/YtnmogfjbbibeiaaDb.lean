/- Package disk: a drive; its calls. -/
import Derived.Test.YtnmogfjbbibeiaaDa
namespace Go.Proofs.Ytnmogfjbbibeiaa
set_option maxRecDepth 100000
open Go.RowKit Go.Maps Go.WideMaps Go.WideElems Go.ChangeMaps
set_option linter.unusedVariables false

/-- How a pointer to a file reads. -/
def Rp (v : Value) : Option (DataW Unit × List MemPlace) := match v with
  | .pointer (some ⟨g, 0, none⟩) => some (.lit (.int .i64 g), [])
  | .pointer none => some (.nil, [])
  | _ => none
theorem Rp_inv_nil {v : Value} {ps : List MemPlace} (h : Rp v = some (.nil, ps)) : v = .pointer none := by
  unfold Rp at h
  split at h
  · cases h
  · rfl
  · cases h
theorem Rp_inv {v : Value} {g : Nat} {ps : List MemPlace} (h : Rp v = some (.lit (.int .i64 g), ps)) : v = .pointer (some ⟨g, 0, none⟩) := by
  unfold Rp at h
  split at h
  · rename_i g'
    simp only [Option.some.injEq, Prod.mk.injEq, DataW.lit.injEq, Lit.int.injEq, true_and] at h
    have : g' = g := by omega
    rw [this]
  · cases h
  · cases h
def kl (s : ByteArray) : Lit := .string s.data.toList
theorem kl_key (s : ByteArray) : WideAt.IsKeyLit (kl s) := trivial
theorem kl_ne {s s' : ByteArray} (h : s ≠ s') : kl s ≠ kl s' := fun e => h (by
  unfold kl at e
  injection e with e
  exact bs_eq e)
theorem skey : Keyed Try.prog 9 := string_keyed Try.underlying9
theorem skey_of {s : ByteArray} (h : s.size ≤ maxLen) : keyOf Try.prog 9 (.string s) = some (kl s) := keyOf_string_mk Try.underlying9 h
theorem zeroP (w : World) : (zeroValue 65).run Try.prog w = .ok (.pointer none) w := by kernel_rfl
structure Fl where
  g : Nat
  last : ByteArray
  wait : ByteArray
  sy : Bool
def fd (x : Option Fl) : DataW Unit := match x with | none => .nil | some x => .lit (.int .i64 x.g)
/-- A drive. -/
structure DSt (w : World) (d b N : Nat) (F : ByteArray → Option Fl) (down fused : Bool) (left steps : Nat) : Prop where
  disk : At w d 57 #[.map (some b), .bool down, .bool fused, .int .i64 left, .int .i64 steps]
  map : ∃ D, w.ownsMap Try.prog 9 Rp b N D ∧ (∀ s, D.atKey (kl s) .nil = fd (F s)) ∧ ∀ s, Maps.has D (kl s) = (F s).isSome
  file : ∀ s x, F s = some x → At w x.g 70 #[.string x.last, .string x.wait, .bool x.sy]
  inj : ∀ s s' x x', F s = some x → F s' = some x' → x.g = x'.g → s = s'
theorem om_kp {w w' : World} {b n : Nat} {D : DataW Unit} {S : List Nat} (h : w.ownsMap Try.prog 9 Rp b n D) (kk : Kp S w w') (hb : b ∉ S) : w'.ownsMap Try.prog 9 Rp b n D := by
  have hlt := h.lt
  obtain ⟨es, clock, h1, F, hs, hD⟩ := h
  exact ⟨es, clock, (kk.block b hlt hb).trans h1, F, hs, hD⟩
theorem om_ne_at {w : World} {b n g : Nat} {D : DataW Unit} {t : TypeId} {cs : Array Value} (h : w.ownsMap Try.prog 9 Rp b n D) (ha : At w g t cs) : g ≠ b := by
  rintro rfl
  obtain ⟨es, clock, h1, _⟩ := h
  have h2 : w.heap[g]? = some (.cells cs t (0, 0)) := ha
  rw [h1] at h2
  cases h2
theorem DSt.kp {w w' : World} {d b N : Nat} {F : ByteArray → Option Fl} {down fused : Bool} {left steps : Nat} (h : DSt w d b N F down fused left steps) (k : Kp [] w w') : DSt w' d b N F down fused left steps := by
  obtain ⟨D, h1, h2⟩ := h.map
  exact ⟨h.disk.kp k (by simp), ⟨D, om_kp h1 k (by simp), h2⟩, fun s x hx => (h.file s x hx).kp k (by simp), h.inj⟩
/-- What is left when the drive's own cells turn. -/
theorem DSt.own {w w' : World} {d b N : Nat} {F : ByteArray → Option Fl} {down fused down' fused' : Bool} {left steps left' steps' : Nat} (h : DSt w d b N F down fused left steps) (k : Kp [d] w w')
    (hd : At w' d 57 #[.map (some b), .bool down', .bool fused', .int .i64 left', .int .i64 steps']) : DSt w' d b N F down' fused' left' steps' := by
  obtain ⟨D, h1, h2⟩ := h.map
  exact ⟨hd, ⟨D, om_kp h1 k (by simp; exact fun e => om_ne_at h1 h.disk e.symm), h2⟩, fun s x hx => (h.file s x hx).kp k (by simp; exact (h.file s x hx).ne h.disk (by decide)), h.inj⟩
set_option maxHeartbeats 1000000 in
theorem dnew_any (w : World) : Calls Try.prog 11 #[] w fun e w' => ∃ d b, e = .returned (.pointer (some ⟨d, 0, none⟩)) ∧ w.heap.size ≤ d ∧ w.heap.size ≤ b ∧ DSt w' d b 0 (fun _ => none) false false 0 0 ∧ Kp [] w w' := by
  have hmm := @run_makeMap Try.prog
  have o1 := World.ownsMap_made w Try.prog 9 Rp
  have k1 : Kp [] w (w.alloc (.map #[] 0)) := (Kp.rfl_ [] w).alloc _
  go_enter Try.func11, Try.ntmps11
  go_wp2_with fail
  go_ret
  have k2 : Kp [] (w.alloc (.map #[] 0)) ((w.alloc (.map #[] 0)).alloc (.cells #[.map (some w.heap.size), .bool false, .bool false, .int .i64 0, .int .i64 0] 57)) := (Kp.rfl_ [] _).alloc _
  exact ⟨_, w.heap.size, rfl, Nat.le_succ _, Nat.le_refl _, ⟨At.new_ (Array.size_push _), ⟨_, om_kp o1 k2 (by simp), fun s => rfl, fun s => rfl⟩, by simp, by simp⟩, k1.trans k2⟩
/-- Why a name is refused. -/
def refE (s : ByteArray) (down : Bool) : Int := if okName s = false then 1 else if down then 50 else 0
set_option maxHeartbeats 1000000 in
theorem refuses_any (s : ByteArray) (w : World) {d b N : Nat} {F : ByteArray → Option Fl} {down fused : Bool} {left steps : Nat} (h : DSt w d b N F down fused left steps) :
    Calls Try.prog 42 #[.pointer (some ⟨d, 0, none⟩), .string s] w fun e w' => e = .returned (.int .i64 (refE s down)) ∧ w = w' := by
  have c1 := h.disk.cell 1
  obtain ⟨ok, hok⟩ : ∃ ok, okName s = ok := ⟨_, rfl⟩
  unfold refE
  rw [hok]
  cases ok <;> cases down
  all_goals
    go_enter Try.func42, Try.ntmps42
    go_wp2_with fail
    refine (mayBe_to s _ hok w).mono ?_
    rintro e w2 ⟨rfl, rfl⟩
    go_wp2_with fail
    go_ret
    exact ⟨rfl, rfl⟩
/-- A step: is the power on behind it? -/
def stepR (fused : Bool) (left steps : Nat) : Bool × Nat × Nat := if fused = true ∧ left = 0 then (false, left, steps) else (true, if fused then left - 1 else left, steps + 1)
def Stepd (w : World) (d b N : Nat) (F : ByteArray → Option Fl) (fused : Bool) (left steps : Nat) (e : Ending) (w' : World) : Prop :=
  (fused = true ∧ left = 0 ∧ e = .returned (.int .i64 50) ∧ DSt w' d b N F true fused left steps ∧ Kp [d] w w') ∨
  (¬ (fused = true ∧ left = 0) ∧ e = .returned (.int .i64 0) ∧ DSt w' d b N F false fused (if fused then left - 1 else left) (steps + 1) ∧ Kp [d] w w')
set_option maxHeartbeats 4000000 in
theorem step_any (w : World) {d b N : Nat} {F : ByteArray → Option Fl} {fused : Bool} {left steps : Nat} (h : DSt w d b N F false fused left steps) (hl : left ≤ 9223372036854775807) (hs : steps ≤ 1000000000000) :
    Calls Try.prog 43 #[.pointer (some ⟨d, 0, none⟩)] w (Stepd w d b N F fused left steps) := by
  have c1 := h.disk.cell 1
  have c2 := h.disk.cell 2
  have c3 := h.disk.cell 3
  have c4 := h.disk.cell 4
  have f1 := h.disk.frozen 1
  have f3 := h.disk.frozen 3
  have f4 := h.disk.frozen 4
  cases fused
  · have a1 := h.disk.set 4 (.int .i64 (steps + 1 : Nat))
    have k1 : Kp [d] w (w.setCell ⟨d, 4, none⟩ (.int .i64 (steps + 1 : Nat))) := (Kp.rfl_ [d] w).set (by simp) _
    have H1 := Lib.hid (h.own (down' := false) (fused' := false) (left' := left) (steps' := steps + 1) k1 a1)
    go_enter Try.func43, Try.ntmps43
    go_wp2_with fail
    go_ret
    exact .inr ⟨by simp, rfl, H1.out, k1⟩
  · by_cases h0 : left = 0
    · subst h0
      have a1 := h.disk.set 1 (.bool true)
      have k1 : Kp [d] w (w.setCell ⟨d, 1, none⟩ (.bool true)) := (Kp.rfl_ [d] w).set (by simp) _
      have H1 := Lib.hid (h.own (down' := true) (fused' := true) (left' := 0) (steps' := steps) k1 a1)
      go_enter Try.func43, Try.ntmps43
      go_wp2_with fail
      go_ret
      exact .inl ⟨rfl, rfl, rfl, H1.out, k1⟩
    · have hne : ((left : Int) == 0) = false := by rw [beq_eq_false_iff_ne]; omega
      obtain ⟨l1, hl1⟩ : ∃ l1, left = l1 + 1 := ⟨left - 1, by omega⟩
      subst hl1
      have a1 := (h.disk.set 3 (.int .i64 (l1 : Nat))).set 4 (.int .i64 (steps + 1 : Nat))
      have a0 := h.disk.set 3 (.int .i64 (l1 : Nat))
      have q4 := a0.cell 4
      have g4 := a0.frozen 4
      have k1 : Kp [d] w ((w.setCell ⟨d, 3, none⟩ (.int .i64 (l1 : Nat))).setCell ⟨d, 4, none⟩ (.int .i64 (steps + 1 : Nat))) := ((Kp.rfl_ [d] w).set (by simp) _).set (by simp) _
      have H1 := Lib.hid (h.own (down' := false) (fused' := true) (left' := l1) (steps' := steps + 1) k1 a1)
      go_enter Try.func43, Try.ntmps43
      go_wp2_with fail
      go_ret
      exact .inr ⟨by simp, rfl, H1.out, k1⟩
theorem look_any {w : World} {d b N : Nat} {F : ByteArray → Option Fl} {down fused : Bool} {left steps : Nat} (h : DSt w d b N F down fused left steps) {s : ByteArray} (hs : s.size ≤ maxLen) :
    (Instr.lookup 55 (.map (some b)) (.string s) false).run Try.prog w = .ok (.pointer ((F s).map fun x => ⟨x.g, 0, none⟩)) w := by
  obtain ⟨D, h1, h2⟩ := h.map
  obtain ⟨v, ps, hrun, hv⟩ := h1.lookup (t := 55) (e := 65) skey Try.underlying55 (zeroP w) (z := .pointer none) (zd := .nil) (zp := []) rfl (skey_of hs)
  rw [h2.1 s] at hv
  rw [hrun]
  cases hF : F s with
  | none =>
    rw [hF] at hv
    rw [Rp_inv_nil hv]
    rfl
  | some x =>
    rw [hF] at hv
    rw [Rp_inv hv]
    rfl
theorem run_eql_map_nil {P : Program} {t k e : TypeId} (ht : P.underlying t = some (.map k e)) (b : Nat) (w : World) : (binOp .eql t (.map (some b)) (.map none)).run P w = .ok (.bool false) w := by
  have e1 : (Op.equal t (.map (some b)) (.map none)).run P w = .ok false w := by
    show (Op.equalIn (9999 + 1) t (.map (some b)) (.map none)).run P w = .ok false w
    unfold Op.equalIn
    simp [run_underlying ht]
  show (do pure (Value.bool (← Op.equal t (.map (some b)) (.map none))) : Sem Value).run P w = _
  rw [Sem.run_bind, e1]
  rfl
/-- A file under a name. -/
def upd (F : ByteArray → Option Fl) (s : ByteArray) (x : Fl) : ByteArray → Option Fl := fun s' => if s' = s then some x else F s'
set_option maxHeartbeats 1000000 in
theorem dset_any (s : ByteArray) (x : Fl) (w : World) {d b N : Nat} {F : ByteArray → Option Fl} {down fused : Bool} {left steps : Nat} (h : DSt w d b N F down fused left steps) (hs : s.size ≤ maxLen) (hN : N < 1000000)
    (hx : At w x.g 70 #[.string x.last, .string x.wait, .bool x.sy]) (hne : ∀ s' x', F s' = some x' → x'.g = x.g → s' = s) :
    Calls Try.prog 45 #[.pointer (some ⟨d, 0, none⟩), .string s, .pointer (some ⟨x.g, 0, none⟩)] w fun e w' => e = .returned (.tuple #[]) ∧ DSt w' d b (N + 1) (upd F s x) down fused left steps ∧ Kp [b] w w' := by
  have c0 := h.disk.cell 0
  have hq := run_eql_map_nil (P := Try.prog) Try.underlying55 b w
  obtain ⟨D, h1, h2⟩ := h.map
  have hdb := om_ne_at h1 h.disk
  have hxb := om_ne_at h1 hx
  have hfb : ∀ s' x', F s' = some x' → x'.g ≠ b := fun s' x' e => om_ne_at h1 (h.file s' x' e)
  go_enter Try.func45, Try.ntmps45
  go_wp2_with (at_mapUpdate; go_loud (refine wpList_mapUpdate_own _ rfl _ _ _ 55 rfl 9 65 skey Try.underlying55 Rp b N D rfl h1 (by unfold maxLen; omega) _ _ (kl s) rfl rfl (skey_of hs) (.lit (.int .i64 x.g)) [] rfl ?_; intro w7 o7 hg7))
  go_end0
  have k7 : Kp [b] w w7 := Kp.of_grown (S := [b]) hg7 (fun k hk _ => by injection hk with hk; simp [hk])
  refine ⟨rfl, ⟨h.disk.kp k7 (by simpa using hdb), ⟨_, o7, fun s' => ?_, fun s' => ?_⟩, fun s' x' e => ?_, fun s1 s2 x1 x2 e1 e2 he => ?_⟩, k7⟩
  · unfold upd
    by_cases e : s' = s
    · subst e
      rw [if_pos rfl, atKey_put_same h1.isMap (kl_key _)]
      rfl
    · rw [if_neg e, atKey_put_other (kl_ne e), h2.1]
  · unfold upd
    by_cases e : s' = s
    · subst e
      rw [if_pos rfl, has_put_same h1.isMap (kl_key _)]
      rfl
    · rw [if_neg e, has_put_other (kl_ne e), h2.2]
  · unfold upd at e
    split at e
    · injection e with e
      subst e
      exact hx.kp k7 (by simpa using hxb)
    · exact (h.file s' x' e).kp k7 (by simpa using hfb s' x' e)
  · unfold upd at e1 e2
    split at e1 <;> split at e2
    · rename_i a1 a2
      rw [a1, a2]
    · rename_i a1 a2
      injection e1 with e1
      subst e1
      rw [a1, hne s2 x2 e2 he.symm]
    · rename_i a1 a2
      injection e2 with e2
      subst e2
      rw [a2, hne s1 x1 e1 he]
    · exact h.inj s1 s2 x1 x2 e1 e2 he
end Go.Proofs.Ytnmogfjbbibeiaa
