/- The document's Take. -/
import Derived.Test.YtencpplopdogmaaQb
namespace Go.Proofs.Ytencpplopdogmaa
set_option maxRecDepth 100000
open Go.RowKit
set_option linter.unusedVariables false

/-- The first m letters without the k-th. -/
def skipL (ls : List Ltr) (k : Nat) (m : Nat) : List Ltr := (ls.take m).take k ++ (ls.take m).drop (k + 1)
theorem skipL_zero (ls : List Ltr) (k : Nat) : skipL ls k 0 = [] := by simp [skipL]
theorem skipL_self {ls : List Ltr} {k : Nat} (h : k < ls.length) : skipL ls k (k + 1) = skipL ls k k := by
  unfold skipL
  have e1 : (ls.take (k + 1)).drop (k + 1) = [] := by rw [List.drop_eq_nil_iff]; simp; omega
  have e2 : (ls.take k).drop (k + 1) = [] := by rw [List.drop_eq_nil_iff]; simp; omega
  rw [e1, e2, List.take_take, List.take_take]
  congr 2
  omega
theorem skipL_other {ls : List Ltr} {k m : Nat} {l : Ltr} (hl : ls[m]? = some l) (h : m ≠ k) : skipL ls k (m + 1) = skipL ls k m ++ [l] := by
  have hm := (List.getElem?_eq_some_iff.1 hl).1
  unfold skipL
  have ht : ls.take (m + 1) = ls.take m ++ [l] := by rw [List.take_add_one, hl]; rfl
  rw [ht]
  by_cases hlt : m < k
  · have e1 : (ls.take m ++ [l]).take k = ls.take m ++ [l] := List.take_of_length_le (by simp; omega)
    have e2 : (ls.take m ++ [l]).drop (k + 1) = [] := by rw [List.drop_eq_nil_iff]; simp; omega
    have e3 : (ls.take m).take k = ls.take m := List.take_of_length_le (by simp; omega)
    have e4 : (ls.take m).drop (k + 1) = [] := by rw [List.drop_eq_nil_iff]; simp; omega
    rw [e1, e2, e3, e4]
    simp
  · rw [List.take_append_of_le_length (by simp; omega), List.drop_append_of_le_length (by simp; omega), List.append_assoc]
theorem skipL_all {ls : List Ltr} {k : Nat} : skipL ls k ls.length = outL ls (k : Int) := by
  unfold skipL outL
  rw [List.take_length]
  simp
theorem skipL_len (ls : List Ltr) (k m : Nat) : (skipL ls k m).length ≤ ls.length := by
  unfold skipL
  simp
  omega
theorem AtL_cases (ls : List Ltr) (k : Int) : (AtL ls k = (zeroL, false)) ∨ ∃ (n : Nat) (l : Ltr), k = (n : Int) ∧ ls[n]? = some l ∧ AtL ls k = (l, true) := by
  unfold AtL
  by_cases h0 : 0 ≤ k
  · rw [if_pos h0]
    cases hl : ls[k.toNat]? with
    | none => exact .inl rfl
    | some l => exact .inr ⟨k.toNat, l, by omega, hl, rfl⟩
  · rw [if_neg h0]
    exact .inl rfl
set_option maxHeartbeats 4000000 in
theorem rtake_any (g : Nat) (T : TypeId) (vk : Value) (most k : Int) (ls : List Ltr) (w : World) (h : Pst w g T vk most ls) (hl : ls.length ≤ 1000000) :
    Calls Try.prog 21 #[.pointer (some ⟨g, 0, none⟩), .int .i64 k] w (Taken w g T vk most k ls) := by
  obtain ⟨A, c, rfl⟩ := h.2.slice
  have hk : Kp [] w (w.alloc (.cells #[.int .i64 0, .int .i64 0, .string ⟨#[]⟩] 33)) := (Kp.rfl_ [] w).alloc _
  have b1 : At (w.alloc (.cells #[.int .i64 0, .int .i64 0, .string ⟨#[]⟩] 33)) w.heap.size 33 #[.int .i64 0, .int .i64 0, .string ⟨#[]⟩] := At.new w _ _
  have h1 : Pst (w.alloc (.cells #[.int .i64 0, .int .i64 0, .string ⟨#[]⟩] 33)) g T (.slice A ls.length c) most ls := ⟨h.1.kp hk (by simp), h.2.kp hk (by simp)⟩
  have hgo := h.1.lt
  obtain ⟨gl, hgl⟩ : ∃ gl, w.heap.size = gl := ⟨_, rfl⟩
  rw [hgl] at b1
  go_enter Try.func21, Try.ntmps21
  go_wp2_with fail
  generalize w.alloc (.cells #[.int .i64 0, .int .i64 0, .string ⟨#[]⟩] 33) = w1 at *
  refine (rat_any g T (.slice A ls.length c) most k ls w1 h1 hl).mono ?_
  rintro e w2 ⟨he, hk2⟩
  rcases AtL_cases ls k with hat | ⟨kn, l, rfl, hln, hat⟩
  · rw [hat] at he
    subst he
    have HAT := Lib.hid hat
    clear hat
    unfold lv zeroL
    have b2 := (b1.kp hk2 (by simp)).alloc (.cells #[.int .i64 0, .int .i64 0, .string ⟨#[]⟩] 33)
    have hk3 := (hk.trans hk2).alloc (.cells #[.int .i64 0, .int .i64 0, .string ⟨#[]⟩] 33)
    have d0 := b2.cell 0
    have d1 := b2.cell 1
    have d2 := b2.cell 2
    have f0 := b2.frozen 0
    have f1 := b2.frozen 1
    have f2 := b2.frozen 2
    go_wp2_with fail
    refine bodyPost_ret (results_letter rfl _ _ _ _ _ _ rfl (((b2.set 0 (.int .i64 0)).set 1 (.int .i64 0)).set 2 (.string ⟨#[]⟩))) rfl ?_
    refine .inl ⟨by rw [HAT.out], rfl, Moved.of_kp h (hk3.then ((((Kp.rfl_ [gl] _).set (by simp) _).set (by simp) _).set (by simp) _) (by simp; omega))⟩
  · rw [hat] at he
    subst he
    have HAT := Lib.hid hat
    have HLN := Lib.hid hln
    have hkn := (List.getElem?_eq_some_iff.1 hln).1
    clear hat hln
    unfold lv
    obtain ⟨n, hn⟩ : ∃ n, ls.length = n := ⟨_, rfl⟩
    have HN := Lib.hid hn
    have b2 := (b1.kp hk2 (by simp)).alloc (.cells #[.int .i64 l.f, .int .i64 l.t, .string l.d] 33)
    have hka : Kp [] w2 (w2.alloc (.cells #[.int .i64 l.f, .int .i64 l.t, .string l.d] 33)) := (Kp.rfl_ [] w2).alloc _
    have b6 : At (w2.alloc (.cells #[.int .i64 l.f, .int .i64 l.t, .string l.d] 33)) w2.heap.size 33 #[.int .i64 l.f, .int .i64 l.t, .string l.d] := At.new w2 _ _
    have h3 : Pst (w2.alloc (.cells #[.int .i64 l.f, .int .i64 l.t, .string l.d] 33)) g T (.slice A ls.length c) most ls := ⟨(h1.1.kp hk2 (by simp)).kp hka (by simp), (h1.2.kp hk2 (by simp)).kp hka (by simp)⟩
    have hk3 := (hk.trans hk2).trans hka
    obtain ⟨g6, hg6⟩ : ∃ g6, w2.heap.size = g6 := ⟨_, rfl⟩
    have hsz := hk3.size
    have hg6' : gl ≤ g6 := by rw [← hgl, ← hg6]; exact (hk.trans hk2).size
    have hglt := b2.lt
    have hg1 : g < gl := by rw [← hgl]; exact hgo
    rw [hg6] at b6
    have hg6t := b6.lt
    have c0 := h3.1.cell 0
    have hn6 : n ≤ 1000000 := by omega
    rw [hn] at c0 hl
    clear hn
    go_wp2_with fail
    generalize w2.alloc (.cells #[.int .i64 l.f, .int .i64 l.t, .string l.d] 33) = w4 at *
    have HGL := Lib.hid hgl
    clear hg6 hgl
    go_loopg [8, 9] n (fun gk r i wr => ∃ m : Nat, n - m ≤ gk ∧ i = .int .i64 m ∧ m ≤ n ∧ LR w4.heap.size wr r (skipL ls kn m) ∧ Kp [] w4 wr)
    case atStart => exact ⟨0, by omega, rfl, Nat.zero_le _, by rw [skipL_zero]; exact LR.nil_ _ _, Kp.rfl_ _ _⟩
    case round =>
      obtain ⟨m, hgk, rfl, hm, hrow, hkr⟩ := hrel
      have cr : wr.cell? ⟨g, 0, none⟩ = some (.slice A n c) := cell_kpL c0 hkr (by simp)
      by_cases hlt : m < n
      · by_cases hmk : m = kn
        · have hmb : ((m : Int) != (kn : Int)) = false := by simp [hmk]
          have HS := Lib.hid (skipL_self (ls := ls) hkn)
          have HM := Lib.hid hmk
          clear hmk
          go_wp2_with fail
          go_roundg (n - (m + 1))
          case measure => omega
          case rel => exact ⟨m + 1, by omega, by go_num, by omega, by have := HS.out; rw [‹Hid (m = kn)›.out] at hrow ⊢; rw [this]; exact hrow, hkr⟩
        · have hmb : ((m : Int) != (kn : Int)) = true := by simp; omega
          obtain ⟨l2, hl2⟩ : ∃ l2, ls[m]? = some l2 := ⟨_, List.getElem?_eq_getElem (by have := HN.out; omega)⟩
          obtain ⟨gk, rfl, r0, r1, r2⟩ := h3.2.at_ hl2
          have q0 := cell_kpL r0 hkr (by simp)
          have q1 := cell_kpL r1 hkr (by simp)
          have q2 := cell_kpL r2 hkr (by simp)
          have b2 : (m : Int) < (n : Int) := by omega
          have HS := Lib.hid (skipL_other hl2 hmk)
          clear hmk hl2
          go_wp2_with (at_builtin; go_must (refine wpl_lapp w4.heap.size rfl _ _ rfl rfl u8 (skipL ls kn m) l2 rfl hrow rfl hkr.size (by have := skipL_len ls kn m; have := HN.out; omega) ?_); intro v6 w6 hrow6 hk6 hv6)
          go_roundg (n - (m + 1))
          case measure => omega
          case rel =>
            refine ⟨m + 1, by omega, by go_num, by omega, by rw [HS.out]; exact hrow6, hkr.then hk6 fun x hx hlt => ?_⟩
            have := (own_block_ltn hrow (by simpa using hx)).1
            omega
      · obtain rfl : m = n := by omega
        have HO := Lib.hid (show skipL ls kn m = outL ls (kn : Int) by rw [← HN.out]; exact skipL_all)
        obtain ⟨A6, c6, e6⟩ := hrow.slice
        subst e6
        have a4 := h3.1.kp hkr (by simp)
        have b7 := b6.kp hkr (by simp)
        have b8 := b2.kp hkr (by simp)
        have q0 := a4.frozen 0
        have hne : ∀ x, (Value.slice A6 (skipL ls kn m).length c6).ownBlock = some x → w4.heap.size ≤ x := fun x hx => (own_block_ltn hrow hx).1
        have k5 : Kp [g] wr (wr.setCell ⟨g, 0, none⟩ (.slice A6 (skipL ls kn m).length c6)) := (Kp.rfl_ [g] wr).set (by simp) _
        have m0 := (b7.kp k5 (by simp; omega)).cell 0
        have m1 := (b7.kp k5 (by simp; omega)).cell 1
        have m2 := (b7.kp k5 (by simp; omega)).cell 2
        have b9 := b8.kp k5 (by simp; omega)
        have n0 := b9.cell 0
        have n1 := b9.cell 1
        have n2 := b9.cell 2
        have f0 := b9.frozen 0
        have f1 := b9.frozen 1
        have f2 := b9.frozen 2
        go_wp2_with fail
        refine bodyPost_ret (results_letter rfl _ _ _ _ _ _ rfl (((b9.set 0 (.int .i64 l.f)).set 1 (.int .i64 l.t)).set 2 (.string l.d))) rfl ?_
        have k6 : Kp [gl] (wr.setCell ⟨g, 0, none⟩ (.slice A6 (skipL ls kn m).length c6)) ((((wr.setCell ⟨g, 0, none⟩ (.slice A6 (skipL ls kn m).length c6)).setCell ⟨gl, 0, none⟩ (.int .i64 l.f)).setCell ⟨gl, 1, none⟩ (.int .i64 l.t)).setCell ⟨gl, 2, none⟩ (.string l.d)) :=
          (((Kp.rfl_ [gl] _).set (by simp) _).set (by simp) _).set (by simp) _
        have hrow' : LRn g wr (.slice A6 (skipL ls kn m).length c6) (outL ls (kn : Int)) := by rw [← HO.out]; exact LRn.of_base hrow (by omega)
        refine .inr ⟨l, HAT.out, rfl, .slice A6 (skipL ls kn m).length c6, ⟨(a4.set 0 _).kp k6 (by simp; omega), (hrow'.kp k5 fun x hx => ?_).kp k6 fun x hx => ?_⟩, ?_, fun x hx => .inr (Nat.le_trans hsz (hne x hx))⟩
        · have := hne x hx; simp; omega
        · have := hne x hx; simp; omega
        · exact (((hk3.trans hkr).mono (T := g :: (Value.slice A ls.length c).ownBlock.toList) (by simp)).then k5 (by simp)).then k6 (by have := HGL.out; simp; omega)
end Go.Proofs.Ytencpplopdogmaa
