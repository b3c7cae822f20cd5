/- The document's Tick (hunt): rows of texts. -/
import Derived.Test.YtoanghpakdfiaaaNb
namespace Go.Proofs.Ytoanghpakdfiaaa
set_option maxRecDepth 100000
open Go.RowKit
set_option linter.unusedVariables false

theorem cell_kpS {w w' : World} {S : List Nat} {p : Addr} {x : Value} (h : w.cell? p = some x) (k : Kp S w w') (hS : p.block ∉ S) : w'.cell? p = some x := (k.cell (cell_block_lt h) hS).trans h
theorem own_setn {w : World} {base g n c o : Nat} {e : TypeId} {size : Nat} {xs : List Value} (h : w.ownsRow base e size (.slice (some ⟨g, 0, none⟩) n c) n xs) (u : Value) :
    (w.setCell ⟨g, o, none⟩ u).ownsRow base e size (.slice (some ⟨g, 0, none⟩) n c) n (xs.set o u) := by
  obtain ⟨h1, h2⟩ := h
  refine ⟨by simpa using h1, ?_⟩
  rcases h2 with ⟨h2, _⟩ | ⟨g', cap, cur, hv, hb, hg, hn, hm, hs, ht⟩
  · cases h2
  · injection hv with e1 e2 e3
    injection e1 with e1
    injection e1 with e1
    subst e1 e3
    refine .inr ⟨g, c, cur.setIfInBounds o u, rfl, hb, ?_, hn, hm, by simpa using hs, ?_⟩
    · simp [World.setCell, Array.getElem?_modify, hg]
    · rw [Array.toList_setIfInBounds, List.take_set, ht]
/-- append of a literal of one element of one cell (its block made by the step before). -/
theorem wpl_one {ops : Array Oper} {rest : List Oper} {o : Oper} {a : Act} {Q : Exit → Act → World → Prop} {t e : TypeId} {z0 : Value} {bytes : Nat} (hinfo : (Try.prog.info? e).map (fun i => (i.zero, i.size, i.bytes)) = some (some z0, 1, bytes))
    (ht : Try.prog.underlying t = some (.slice e)) (hz0 : z0.cells.size = 1) (hby : bytes ≤ 24) (w0 : World) (base : Nat) (hgd : o.guard = none) (s x : Operand)
    (ho : o.op = .call { callee := .builtin .append, args := #[s, x], argTypes := #[t, t] }) (v : Value) (k : Nat) (xs : List Value) (z : Value) (hz : z.oneCell' = true) (hown : w0.ownsRow base e 1 v k xs)
    (hs : a.eval s = v) (hx : a.eval x = .slice (some ⟨w0.heap.size, 0, none⟩) 1 1) (hb : base ≤ w0.heap.size) (hl : k ≤ 1000000000)
    (h : ∀ v' w', w'.ownsRow base e 1 v' (k + 1) (xs ++ [z]) → Kp v.ownBlock.toList w0 w' → (v'.ownBlock = v.ownBlock ∨ ∃ h, v'.ownBlock = some h ∧ w0.heap.size ≤ h) → wpList Try.prog ops Q rest (a.put o.dst v') w') :
    wpList Try.prog ops Q (o :: rest) a (w0.alloc (.cells #[z] e)) := by
  obtain ⟨i0, hi, hz, h1, h2⟩ := info_parts hinfo
  have k0 : Kp [] w0 (w0.alloc (.cells #[z] e)) := (Kp.rfl_ [] w0).alloc _
  have hkb : (k + 1) * bytes ≤ (k + 1) * 24 := Nat.mul_le_mul_left _ hby
  refine wpl_app _ hgd s x t ho base e i0 _ bytes ht hi hz h1 h2 hz0 v k xs hs (own_kp hown k0 (by simp)) (some ⟨w0.heap.size, 0, none⟩) 1 1 [z] hx
    (Ls.of_at (At.new w0 _ _)) (by intro u hu; obtain rfl : u = z := by simpa using hu
                                   assumption) (by unfold maxLen; omega) (by omega) (by have := k0.size; omega) ?_
  intro v' w' hown' hg hv
  refine h v' w' hown' (k0.mono (T := v.ownBlock.toList) (by simp) |>.trans (Kp.of_grown hg fun k hk _ => by simp [hk])) ?_
  rcases hv with hv | hv
  · exact .inl hv
  · exact .inr ⟨_, hv, k0.size⟩
theorem info_strs : (Try.prog.info? 28).map (fun i => (i.zero, i.size, i.bytes)) = some (some (.slice none 0 0), 1, 24) := by kernel_rfl
/-- Rows of texts; the last one may still grow. -/
structure RW (base : Nat) (w : World) (v8 : Value) (es : List (Value × List ByteArray)) (lv : Value) (ll : List ByteArray) : Prop where
  own8 : w.ownsRow base 28 1 v8 (es.length + 1) (es.map Prod.fst ++ [lv])
  ownl : w.ownsRow base 9 1 lv ll.length (ll.map Value.string)
  apl : ∀ x, lv.ownBlock = some x → v8.ownBlock ≠ some x
  each : ∀ p ∈ es, ∃ A c, p.1 = .slice A p.2.length c ∧ p.2.length ≤ c ∧ c ≤ maxLen ∧ Ls w A p.2.length (p.2.map Value.string) ∧ ∀ ad, A = some ad → v8.ownBlock ≠ some ad.block ∧ lv.ownBlock ≠ some ad.block ∧ ad.block < w.heap.size
theorem RW.kp {base : Nat} {w w' : World} {v8 lv : Value} {es : List (Value × List ByteArray)} {ll : List ByteArray} (h : RW base w v8 es lv ll) (k : Kp [] w w') : RW base w' v8 es lv ll :=
  ⟨own_kp h.own8 k (by simp), own_kp h.ownl k (by simp), h.apl, fun p hp => by
    obtain ⟨A, c, h1, h2, h3, h4, h5⟩ := h.each p hp
    exact ⟨A, c, h1, h2, h3, h4.kp k (by simp), fun ad e => ⟨(h5 ad e).1, (h5 ad e).2.1, Nat.lt_of_lt_of_le (h5 ad e).2.2 k.size⟩⟩⟩
theorem RW.begin {base : Nat} {w' : World} {v8 : Value} (h : w'.ownsRow base 28 1 v8 (0 + 1) ([] ++ [Value.slice none 0 0])) : RW base w' v8 [] (.slice none 0 0) [] :=
  ⟨h, own_none _ _ _, by simp [Value.ownBlock], by simp⟩
theorem RW.next {base : Nat} {w w' : World} {v8 v8' lv : Value} {es : List (Value × List ByteArray)} {ll : List ByteArray} (h : RW base w v8 es lv ll)
    (h8 : w'.ownsRow base 28 1 v8' (es.length + 1 + 1) (es.map Prod.fst ++ [lv] ++ [Value.slice none 0 0])) (k : Kp v8.ownBlock.toList w w') (hv : v8'.ownBlock = v8.ownBlock ∨ ∃ h, v8'.ownBlock = some h ∧ w.heap.size ≤ h) :
    RW base w' v8' (es ++ [(lv, ll)]) (.slice none 0 0) [] := by
  refine ⟨by simpa using h8, own_none _ _ _, by simp [Value.ownBlock], fun p hp => ?_⟩
  rcases List.mem_append.1 hp with hp | hp
  · obtain ⟨A, c, h1, h2, h3, h4, h5⟩ := h.each p hp
    refine ⟨A, c, h1, h2, h3, h4.kp k (fun _ ad e hm => (h5 ad e).1 (by simpa using hm)), fun ad e => ⟨fun e8 => ?_, by simp [Value.ownBlock], Nat.lt_of_lt_of_le (h5 ad e).2.2 k.size⟩⟩
    rcases hv with hv | ⟨x, hx, hle⟩
    · exact (h5 ad e).1 (hv ▸ e8)
    · rw [e8] at hx; injection hx with hx; have := (h5 ad e).2.2; omega
  · obtain rfl : p = (lv, ll) := by simpa using hp
    obtain ⟨A, c, hlv, hL, hb, hc, hm⟩ := own_open h.ownl
    have hob : ∀ ad, A = some ad → lv.ownBlock = some ad.block := by
      intro ad e
      rcases own_cases h.ownl with ⟨h1, _⟩ | ⟨g, c', h1, _⟩
      · rw [hlv, e] at h1; cases h1
      · rw [hlv, e] at h1
        injection h1 with h1
        injection h1 with h1
        rw [hlv, e, h1]
        rfl
    refine ⟨A, c, hlv, hc, hm, hL.kp k (fun _ ad e hm => h.apl _ (hob ad e) (by simpa using hm)), fun ad e => ⟨fun e8 => ?_, by simp [Value.ownBlock], ?_⟩⟩
    · rcases hv with hv | ⟨x, hx, hle⟩
      · exact h.apl _ (hob ad e) (hv ▸ e8)
      · rw [e8] at hx; injection hx with hx; have := (own_block_lt h.ownl (hob ad e)).2; omega
    · exact Nat.lt_of_lt_of_le (own_block_lt h.ownl (hob ad e)).2 k.size
theorem RW.grow {base : Nat} {w w1 : World} {g8 c8 : Nat} {lv lv' : Value} {es : List (Value × List ByteArray)} {ll : List ByteArray} {z : ByteArray} (h : RW base w (.slice (some ⟨g8, 0, none⟩) (es.length + 1) c8) es lv ll)
    (hl : w1.ownsRow base 9 1 lv' (ll.length + 1) (ll.map Value.string ++ [Value.string z])) (k : Kp lv.ownBlock.toList w w1) (hv : lv'.ownBlock = lv.ownBlock ∨ ∃ h, lv'.ownBlock = some h ∧ w.heap.size ≤ h) :
    RW base (w1.setCell ⟨g8, es.length, none⟩ lv') (.slice (some ⟨g8, 0, none⟩) (es.length + 1) c8) es lv' (ll ++ [z]) := by
  have hg8 : g8 < w.heap.size := (own_block_lt h.own8 rfl).2
  have h8 := own_kp h.own8 k (fun g hg hm => h.apl g (by simpa using hm) hg)
  have k1 : Kp [g8] w1 (w1.setCell ⟨g8, es.length, none⟩ lv') := (Kp.rfl_ [g8] w1).set (by simp) _
  have hne : lv'.ownBlock ≠ some g8 := fun e => by
    rcases hv with hv | ⟨x, hx, hle⟩
    · exact h.apl g8 (hv ▸ e) rfl
    · rw [e] at hx; injection hx with hx; omega
  refine ⟨?_, ?_, fun x hx e => ?_, fun p hp => ?_⟩
  · have := own_setn (o := es.length) h8 lv'
    rwa [show (es.map Prod.fst ++ [lv]).set es.length lv' = es.map Prod.fst ++ [lv'] by rw [List.set_append_right _ _ (by simp)]; simp] at this
  · have := own_kp hl k1 (fun g hg hm => hne (by simp at hm; exact hm ▸ hg))
    simpa using this
  · have e : g8 = x := by injection e
    exact hne (e ▸ hx)
  · obtain ⟨A, c, h1, h2, h3, h4, h5⟩ := h.each p hp
    refine ⟨A, c, h1, h2, h3, (h4.kp k (fun _ ad e hm => (h5 ad e).2.1 (by simpa using hm))).kp k1 (fun _ ad e hm => (h5 ad e).1 (by simp at hm; rw [hm]; rfl)), fun ad e => ⟨(h5 ad e).1, fun e8 => ?_, Nat.lt_of_lt_of_le (h5 ad e).2.2 (Nat.le_trans k.size k1.size)⟩⟩
    rcases hv with hv | ⟨x, hx, hle⟩
    · exact (h5 ad e).2.1 (hv ▸ e8)
    · rw [e8] at hx; injection hx with hx; have := (h5 ad e).2.2; omega
/-- What the rows are. -/
def Spc (ss : List ByteArray) (m : Nat) (es : List (Value × List ByteArray)) (ll : List ByteArray) : Prop := (∀ j p, es[j]? = some p → p.2 = (ss.drop (j * 4)).take 4) ∧ ll = (ss.take m).drop (es.length * 4) ∧ m = es.length * 4 + ll.length
theorem Spc.zero (ss : List ByteArray) : Spc ss 0 [] [] := ⟨by simp, by simp, by simp⟩
theorem Spc.next {ss : List ByteArray} {m : Nat} {es : List (Value × List ByteArray)} {ll : List ByteArray} (h : Spc ss m es ll) (lv : Value) (h4 : ll.length = 4) : Spc ss m (es ++ [(lv, ll)]) [] := by
  obtain ⟨h1, h2, h3⟩ := h
  refine ⟨fun j p hj => ?_, ?_, by simp; omega⟩
  · rcases Nat.lt_or_ge j es.length with hlt | hge
    · rw [List.getElem?_append_left hlt] at hj
      exact h1 j p hj
    · rw [List.getElem?_append_right hge] at hj
      have hje : j = es.length := by
        have := (List.getElem?_eq_some_iff.1 hj).1
        simp at this
        omega
      subst hje
      simp at hj
      subst hj
      show ll = _
      rw [h2, List.drop_take]
      congr 1
      omega
  · symm
    rw [List.drop_eq_nil_iff]
    simp
    omega
theorem Spc.grow {ss : List ByteArray} {m : Nat} {es : List (Value × List ByteArray)} {ll : List ByteArray} {z : ByteArray} (h : Spc ss m es ll) (hz : ss[m]? = some z) : Spc ss (m + 1) es (ll ++ [z]) := by
  obtain ⟨h1, h2, h3⟩ := h
  refine ⟨h1, ?_, by simp; omega⟩
  have hm : m < ss.length := (List.getElem?_eq_some_iff.1 hz).1
  rw [List.take_add_one, hz, List.drop_append_of_le_length (by simp; omega), ← h2]
  rfl
end Go.Proofs.Ytoanghpakdfiaaa
