/- Package post: Clone, Copy. -/
import Derived.Test.YtencpplopdogmaaQh
namespace Go.Proofs.Ytencpplopdogmaa
set_option maxRecDepth 100000
open Go.RowKit
set_option linter.unusedVariables false

theorem run_eql_slice_nil {P : Program} {t e : TypeId} (ht : P.underlying t = some (.slice e)) (a : Addr) (n c : Nat) (w : World) : (binOp .eql t (.slice (some a) n c) (.slice none 0 0)).run P w = .ok (.bool false) w := by
  have e1 : (Op.equal t (.slice (some a) n c) (.slice none 0 0)).run P w = .ok false w := by
    show (Op.equalIn (9999 + 1) t (.slice (some a) n c) (.slice none 0 0)).run P w = .ok false w
    unfold Op.equalIn
    simp [run_underlying ht]
  show (do pure (Value.bool (← Op.equal t (.slice (some a) n c) (.slice none 0 0))) : Sem Value).run P w = _
  rw [Sem.run_bind, e1]
  rfl
theorem run_eql_slice_nil0 {P : Program} {t e : TypeId} (ht : P.underlying t = some (.slice e)) (w : World) : (binOp .eql t (.slice none 0 0) (.slice none 0 0)).run P w = .ok (.bool true) w := by
  have e1 : (Op.equal t (.slice none 0 0) (.slice none 0 0)).run P w = .ok true w := by
    show (Op.equalIn (9999 + 1) t (.slice none 0 0) (.slice none 0 0)).run P w = .ok true w
    unfold Op.equalIn
    simp [run_underlying ht]
  show (do pure (Value.bool (← Op.equal t (.slice none 0 0) (.slice none 0 0))) : Sem Value).run P w = _
  rw [Sem.run_bind, e1]
  rfl
theorem wpl_lapps {ops : Array Oper} {rest : List Oper} {o : Oper} {a : Act} {w : World} {Q : Exit → Act → World → Prop} (base : Nat) (hgd : o.guard = none) (s x : Operand)
    (ho : o.op = .call { callee := .builtin .append, args := #[s, x], argTypes := #[40, 40] }) (hty : o.type = 40)
    (v : Value) (ls ms : List Ltr) (hs : a.eval s = v) (hown : LR base w v ls) (g m c b2 : Nat) (hx : a.eval x = .slice (some ⟨g, 0, none⟩) m c) (hm : ms.length = m) (hsrc : LR b2 w (.slice (some ⟨g, 0, none⟩) m c) ms) (hb : base ≤ w.heap.size) (hl : ls.length + ms.length ≤ 1000000)
    (h : ∀ v' w', LR base w' v' (ls ++ ms) → Kp v.ownBlock.toList w w' → (v'.ownBlock = v.ownBlock ∨ v'.ownBlock = some w.heap.size) → wpList Try.prog ops Q rest (a.put o.dst v') w') :
    wpList Try.prog ops Q (o :: rest) a w := by
  refine wpList_plain hgd fun K hK => ?_
  subst hm
  obtain ⟨v', w', hrun, h3, h4, h5⟩ := run_lapp w base v ls ms hown ⟨g, 0, none⟩ c (fun j u hu => by
    have hj : j < (lcs ms).length := (List.getElem?_eq_some_iff.1 hu).1
    rw [lcs_len] at hj
    rw [addr0, World.ownsRow.cellAt hsrc _ hj]
    exact hu) (by omega) hb
  unfold Oper.wp execOp
  simp only [ho, hty, resolve, invoke, builtin, Sem.run_bind, Sem.run_pure, Result.andThen_ok, List.map_toArray, List.map_cons, List.map_nil, hs, hx, hrun]
  exact hK _ _ (h v' w' h3 (Kp.of_grown h4 fun k hk _ => by simp [hk]) h5)
set_option maxHeartbeats 1000000 in
theorem lclone_any (base : Nat) (v : Value) (ls : List Ltr) (w : World) (h : LR base w v ls) (hl : ls.length ≤ 1000000) :
    Calls Try.prog 29 #[v] w fun e w' => ∃ v', e = .returned v' ∧ LR w.heap.size w' v' ls ∧ Kp [] w w' := by
  rcases h.shape with ⟨rfl, rfl⟩ | ⟨g, c, rfl, hc, hm, hb, hlt⟩
  · have hq := run_eql_slice_nil0 (P := Try.prog) Try.underlying40 w
    go_enter Try.func29, Try.ntmps29
    go_wp2_with fail
    go_ret
    exact ⟨_, rfl, LR.nil_ _ _, Kp.rfl_ _ _⟩
  · have hk : Kp [] w (w.alloc (.cells #[] 33)) := (Kp.rfl_ [] w).alloc _
    have h1 := h.kp hk (by simp)
    have hq := run_eql_slice_nil (P := Try.prog) Try.underlying40 ⟨g, 0, none⟩ ls.length c w
    have he : LR w.heap.size (w.alloc (.cells #[] 33)) (.slice (some ⟨w.heap.size, 0, none⟩) 0 0) [] := ⟨rfl, .inr ⟨w.heap.size, 0, #[], rfl, Nat.le_refl _, heap_alloc_new w _, Nat.le_refl _, Nat.zero_le _, rfl, rfl⟩⟩
    go_enter Try.func29, Try.ntmps29
    obtain ⟨n, hn⟩ : ∃ n, ls.length = n := ⟨_, rfl⟩
    have HN := Lib.hid hn
    rw [hn] at hq h1 hl ⊢
    have H1 := Lib.hid h1
    have HE := Lib.hid he
    clear hn h h1 he
    go_wp2_with (at_builtin; go_must (refine wpl_lapps w.heap.size rfl _ _ rfl rfl (.slice (some ⟨w.heap.size, 0, none⟩) 0 0) [] ls rfl HE.out g n c base rfl HN.out H1.out (by simp) (by simp [HN.out]; omega) ?_); intro v6 w6 hrow6 hk6 hv6)
    go_ret
    exact ⟨_, rfl, hrow6, hk.then hk6 (by simp [Value.ownBlock])⟩
set_option maxHeartbeats 400000 in
theorem pcopy_nil (w : World) : Calls Try.prog 16 #[.pointer none] w fun e w' => e = .returned (.pointer none) ∧ w = w' := by
  go_enter Try.func16, Try.ntmps16
  go_wp2_with fail
  go_ret
  exact ⟨rfl, rfl⟩
def Copied (w : World) (T : TypeId) (most : Int) (ls : List Ltr) (e : Ending) (w' : World) : Prop := ∃ g' v', e = .returned (.pointer (some ⟨g', 0, none⟩)) ∧ w.heap.size ≤ g' ∧ Pst w' g' T v' most ls ∧ Kp [] w w' 
set_option maxHeartbeats 4000000 in
theorem pcopy_any (g : Nat) (T : TypeId) (vk : Value) (most : Int) (ls : List Ltr) (w : World) (h : Pst w g T vk most ls) (hl : ls.length ≤ 1000000) :
    Calls Try.prog 16 #[.pointer (some ⟨g, 0, none⟩)] w (Copied w 58 most ls) := by
  have c0 : w.drew.cell? ⟨g, 0, none⟩ = some vk := h.1.cell 0
  have c1 : w.drew.cell? ⟨g, 1, none⟩ = some (.int .i64 most) := h.1.cell 1
  have hd : Kp [] w w.drew := (Kp.rfl_ [] w).drew
  obtain ⟨A, c, rfl⟩ := h.2.slice
  go_enter Try.func16, Try.ntmps16
  go_wp2_with fail
  refine region_plan [.row [0, 1, 2, 3, 4, 6, 7, 8, 9, 10], .kept 5, .row [11, 12, 13, 14]] (by kernel_rfl) (by kernel_rfl) (calm_of (fun _ _ _ h => h.2) (fun _ _ h => h) (fun e w' ⟨g', v', h, _⟩ => ⟨_, h⟩)) ?_
  simp only [wpPlan, pickL, List.filterMap_cons, List.filterMap_nil, List.getElem?_cons_zero, List.getElem?_cons_succ]
  go_wp2_with fail
  refine (lclone_any 0 (.slice A ls.length c) ls w.drew (h.2.1.kp hd (by simp)) hl).mono ?_
  rintro e w1 ⟨v', rfl, hrow, hk1⟩
  obtain ⟨A1, c1', rfl⟩ := hrow.slice
  go_wp2_with fail
  refine ⟨hk1.kept, ?_⟩
  go_wp2_with fail
  refine sqQ_end (by rfl) ?_
  go_wp2_with fail
  go_ret
  have k2 : Kp [] w1 (w1.alloc (.cells #[.slice A1 ls.length c1', .int .i64 most] 58)) := (Kp.rfl_ [] w1).alloc _
  refine ⟨_, _, rfl, hk1.size, ⟨At.new w1 _ _, (hrow.kp k2 (by simp)).lower (Nat.zero_le _), fun e => by have := (own_block_ltn hrow e).2; omega⟩, (hd.trans hk1).trans k2⟩
end Go.Proofs.Ytencpplopdogmaa
