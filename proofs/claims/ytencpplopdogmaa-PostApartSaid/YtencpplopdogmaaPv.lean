/- Package post: the k-th letter; the document's own. -/
import Derived.Test.YtencpplopdogmaaPu
namespace Go.Proofs.Ytencpplopdogmaa
set_option maxRecDepth 100000
open Go.RowKit
set_option linter.unusedVariables false

def thr (ls : List Ltr) (k : Int) : Bool := decide (0 ≤ k) && decide (k < ls.length)
set_option maxHeartbeats 1000000 in
theorem there_any (g : Nat) (T : TypeId) (vk : Value) (most k : Int) (ls : List Ltr) (w : World) (h : Pst w g T vk most ls) :
    Calls Try.prog 27 #[.pointer (some ⟨g, 0, none⟩), .int .i64 k] w fun e w' => e = .returned (.bool (thr ls k)) ∧ w = w' := by
  obtain ⟨A, c, rfl⟩ := h.2.slice
  have c0 : w.cell? ⟨g, 0, none⟩ = some (.slice A ls.length c) := h.1.cell 0
  by_cases h0 : 0 ≤ k
  · go_enter Try.func27, Try.ntmps27
    go_wp2_with fail
    go_ret
    exact ⟨ret_bool (by simp [thr, h0]), rfl⟩
  · go_enter Try.func27, Try.ntmps27
    go_wp2_with fail
    go_ret
    exact ⟨ret_bool (by unfold thr; rw [decide_eq_false (by omega : ¬ 0 ≤ k)]; rfl), rfl⟩
theorem there_to (g : Nat) (T : TypeId) (vk : Value) (most k : Int) (ls : List Ltr) (b : Bool) (w : World) (hb : thr ls k = b) (h : Pst w g T vk most ls) :
    Calls Try.prog 27 #[.pointer (some ⟨g, 0, none⟩), .int .i64 k] w fun e w' => e = .returned (.bool b) ∧ w = w' := by
  rw [← hb]
  exact there_any g T vk most k ls w h
theorem letter_size : (Try.prog.info? 33).map (·.size) = some 3 := by kernel_rfl
theorem results_letter {fn : Func} {p u : Tmp} (h : fn.results = #[.cell p 33, .tmp u]) (tmps : Array Value) (w : World) (g : Nat) (x y z : Value) (hp : tmps.getD p undef = .pointer (some ⟨g, 0, none⟩)) (ha : At w g 33 #[x, y, z]) :
    (results fn tmps).run Try.prog w = .ok (.tuple #[.agg #[x, y, z], tmps.getD u undef]) w := by
  rw [results_cell_tmp h]
  have h1 := run_loadVar_row (P := Try.prog) w g 33 33 #[x, y, z] (0, 0) _ ha Try.underlying33 rfl (by rw [letter_size]; rfl)
  simp [hp, asAddr, h1, Result.andThen]
def zeroL : Ltr := ⟨0, 0, ⟨#[]⟩⟩
/-- The k-th letter, or the zero one. -/
def AtL (ls : List Ltr) (k : Int) : Ltr × Bool := if 0 ≤ k then match ls[k.toNat]? with | some l => (l, true) | none => (zeroL, false) else (zeroL, false)
def Told (ls : List Ltr) (k : Int) (w : World) (e : Ending) (w' : World) : Prop := e = .returned (.tuple #[lv (AtL ls k).1, .bool (AtL ls k).2]) ∧ Kp [] w w'
/-- A letter's cells, where its row lies. -/
theorem LR.at_ {base : Nat} {w : World} {A : Option Addr} {n c k : Nat} {ls : List Ltr} {l : Ltr} (h : LR base w (.slice A n c) ls) (hk : ls[k]? = some l) :
    ∃ gk, A = some ⟨gk, 0, none⟩ ∧ w.cell? ⟨gk, k * 3, none⟩ = some (.int .i64 l.f) ∧ w.cell? ⟨gk, k * 3 + 1, none⟩ = some (.int .i64 l.t) ∧ w.cell? ⟨gk, k * 3 + 2, none⟩ = some (.string l.d) := by
  have hlt := (List.getElem?_eq_some_iff.1 hk).1
  rcases h.shape with ⟨_, h2⟩ | ⟨g, c', h1, hc, hm, hb, hl⟩
  · subst h2; simp at hlt
  · injection h1 with h1 h2 h3
    subst h1
    obtain ⟨c0, c1, c2⟩ := lcs_at ls k l hk
    have h' : w.ownsRow base 33 3 (.slice (some ⟨g, 0, none⟩) n c) n (lcs ls) := by have := h; unfold LR at this; rw [← h2] at this; exact this
    rw [Nat.mul_comm 3 k] at c0 c1 c2
    refine ⟨g, rfl, ?_, ?_, ?_⟩
    · rw [World.ownsRow.cellAt h' _ (by omega)]; exact c0
    · rw [World.ownsRow.cellAt h' _ (by omega)]; exact c1
    · rw [World.ownsRow.cellAt h' _ (by omega)]; exact c2
set_option maxHeartbeats 4000000 in
theorem pat_any (g : Nat) (T : TypeId) (vk : Value) (most k : Int) (ls : List Ltr) (w : World) (h : Pst w g T vk most ls) (hk1 : -9223372036854775808 ≤ k) (hk2 : k ≤ 9223372036854775807) :
    Calls Try.prog 17 #[.pointer (some ⟨g, 0, none⟩), .int .i64 k] w (Told ls k w) := by
  obtain ⟨A, c, rfl⟩ := h.2.slice
  have hk : Kp [] w (w.alloc (.cells #[.int .i64 0, .int .i64 0, .string ⟨#[]⟩] 33)) := (Kp.rfl_ [] w).alloc _
  have b1 : At (w.alloc (.cells #[.int .i64 0, .int .i64 0, .string ⟨#[]⟩] 33)) w.heap.size 33 #[.int .i64 0, .int .i64 0, .string ⟨#[]⟩] := At.new w _ _
  have h1 : Pst (w.alloc (.cells #[.int .i64 0, .int .i64 0, .string ⟨#[]⟩] 33)) g T (.slice A ls.length c) most ls := ⟨h.1.kp hk (by simp), h.2.kp hk (by simp)⟩
  obtain ⟨gl, hgl⟩ : ∃ gl, w.heap.size = gl := ⟨_, rfl⟩
  rw [hgl] at b1
  obtain ⟨b, hb⟩ : ∃ b, thr ls k = b := ⟨_, rfl⟩
  go_enter Try.func17, Try.ntmps17
  go_wp2_with fail
  generalize w.alloc (.cells #[.int .i64 0, .int .i64 0, .string ⟨#[]⟩] 33) = w1 at *
  have d0 : w1.cell? ⟨gl, 0, none⟩ = some (.int .i64 0) := b1.cell 0
  have d1 : w1.cell? ⟨gl, 1, none⟩ = some (.int .i64 0) := b1.cell 1
  have d2 : w1.cell? ⟨gl, 2, none⟩ = some (.string ⟨#[]⟩) := b1.cell 2
  have f0 := b1.frozen 0
  have f1 := b1.frozen 1
  have f2 := b1.frozen 2
  refine (there_to g T (.slice A ls.length c) most k ls b w1 hb h1).mono ?_
  rintro e w2 ⟨rfl, rfl⟩
  cases b
  · have hat : AtL ls k = (zeroL, false) := by
      unfold AtL
      unfold thr at hb
      by_cases h0 : 0 ≤ k
      · rw [if_pos h0, List.getElem?_eq_none (by simp [h0] at hb; omega)]
      · rw [if_neg h0]
    have HAT := Lib.hid hat
    clear hat
    go_wp2_with fail
    refine bodyPost_ret (results_letter rfl _ _ _ _ _ _ rfl (((b1.set 0 (.int .i64 0)).set 1 (.int .i64 0)).set 2 (.string ⟨#[]⟩))) rfl ?_
    refine ⟨by rw [HAT.out]; rfl, hk.then ((((Kp.rfl_ [gl] w1).set (by simp) _).set (by simp) _).set (by simp) _) (by simp; omega)⟩
  · have hb2 : 0 ≤ k ∧ k < ls.length := by unfold thr at hb; simpa using hb
    obtain ⟨kn, rfl⟩ : ∃ n : Nat, k = (n : Int) := ⟨k.toNat, by omega⟩
    obtain ⟨l, hl⟩ : ∃ l, ls[kn]? = some l := ⟨_, List.getElem?_eq_getElem (by omega)⟩
    have HAT := Lib.hid (show AtL ls kn = (l, true) by unfold AtL; rw [if_pos (by omega)]; simp [hl])
    obtain ⟨gk, rfl, r0, r1, r2⟩ := h1.2.at_ hl
    have c0 : w1.cell? ⟨g, 0, none⟩ = some (.slice (some ⟨gk, 0, none⟩) ls.length c) := h1.1.cell 0
    have b2 := hb2.2
    have b3 := hb2.1
    clear hb hb2 hl
    go_wp2_with fail
    refine bodyPost_ret (results_letter rfl _ _ _ _ _ _ rfl (((b1.set 0 (.int .i64 l.f)).set 1 (.int .i64 l.t)).set 2 (.string l.d))) rfl ?_
    refine ⟨by rw [HAT.out]; rfl, hk.then ((((Kp.rfl_ [gl] w1).set (by simp) _).set (by simp) _).set (by simp) _) (by simp; omega)⟩
set_option maxHeartbeats 400000 in
theorem pat_nil (k : Int) (w : World) : Calls Try.prog 17 #[.pointer none, .int .i64 k] w fun e w' => e = .returned (.tuple #[.agg #[.int .i64 0, .int .i64 0, .string ⟨#[]⟩], .bool false]) ∧ Kp [] w w' := by
  have hk : Kp [] w (w.alloc (.cells #[.int .i64 0, .int .i64 0, .string ⟨#[]⟩] 33)) := (Kp.rfl_ [] w).alloc _
  have b1 : At (w.alloc (.cells #[.int .i64 0, .int .i64 0, .string ⟨#[]⟩] 33)) w.heap.size 33 #[.int .i64 0, .int .i64 0, .string ⟨#[]⟩] := At.new w _ _
  go_enter Try.func17, Try.ntmps17
  go_wp2_with fail
  refine bodyPost_ret (results_letter rfl _ _ _ _ _ _ rfl b1) rfl ?_
  exact ⟨rfl, hk⟩
theorem AtL_no {ls : List Ltr} {k : Int} (h : ∀ i : Nat, i < ls.length → (i : Int) ≠ k) : AtL ls k = (zeroL, false) := by
  unfold AtL
  by_cases h0 : 0 ≤ k
  · rw [if_pos h0, List.getElem?_eq_none]
    have := h k.toNat
    omega
  · rw [if_neg h0]
theorem AtL_yes {ls : List Ltr} {k : Nat} {l : Ltr} (h : ls[k]? = some l) : AtL ls (k : Int) = (l, true) := by
  unfold AtL
  rw [if_pos (by omega)]
  simp [h]
set_option maxHeartbeats 4000000 in
theorem rat_any (g : Nat) (T : TypeId) (vk : Value) (most k : Int) (ls : List Ltr) (w : World) (h : Pst w g T vk most ls) (hl : ls.length ≤ 1000000) :
    Calls Try.prog 24 #[.pointer (some ⟨g, 0, none⟩), .int .i64 k] w (Told ls k w) := by
  obtain ⟨A, c, rfl⟩ := h.2.slice
  have hk : Kp [] w (w.alloc (.cells #[.int .i64 0, .int .i64 0, .string ⟨#[]⟩] 33)) := (Kp.rfl_ [] w).alloc _
  have b1 : At (w.alloc (.cells #[.int .i64 0, .int .i64 0, .string ⟨#[]⟩] 33)) w.heap.size 33 #[.int .i64 0, .int .i64 0, .string ⟨#[]⟩] := At.new w _ _
  have h1 : Pst (w.alloc (.cells #[.int .i64 0, .int .i64 0, .string ⟨#[]⟩] 33)) g T (.slice A ls.length c) most ls := ⟨h.1.kp hk (by simp), h.2.kp hk (by simp)⟩
  obtain ⟨gl, hgl⟩ : ∃ gl, w.heap.size = gl := ⟨_, rfl⟩
  rw [hgl] at b1
  obtain ⟨n, hn⟩ : ∃ n, ls.length = n := ⟨_, rfl⟩
  have hn6 : n ≤ 1000000 := by omega
  have HN := Lib.hid hn
  go_enter Try.func24, Try.ntmps24
  go_wp2_with fail
  generalize w.alloc (.cells #[.int .i64 0, .int .i64 0, .string ⟨#[]⟩] 33) = w1 at *
  have d0 : w1.cell? ⟨gl, 0, none⟩ = some (.int .i64 0) := b1.cell 0
  have d1 : w1.cell? ⟨gl, 1, none⟩ = some (.int .i64 0) := b1.cell 1
  have d2 : w1.cell? ⟨gl, 2, none⟩ = some (.string ⟨#[]⟩) := b1.cell 2
  have f0 := b1.frozen 0
  have f1 := b1.frozen 1
  have f2 := b1.frozen 2
  have c0 : w1.cell? ⟨g, 0, none⟩ = some (.slice A ls.length c) := h1.1.cell 0
  rw [hn] at c0
  clear hn
  go_loopg [6] n (fun gk i wr => ∃ m : Nat, n - m ≤ gk ∧ i = .int .i64 m ∧ m ≤ n ∧ w1 = wr ∧ ∀ j : Nat, j < m → (j : Int) ≠ k)
  case atStart => exact ⟨0, by omega, rfl, Nat.zero_le _, rfl, fun j hj => by omega⟩
  case round =>
    obtain ⟨m, hgk, rfl, hm, rfl, hno⟩ := hrel
    by_cases hlt : m < n
    · by_cases hmk : (m : Int) = k
      · subst hmk
        obtain ⟨l, hl2⟩ : ∃ l, ls[m]? = some l := ⟨_, List.getElem?_eq_getElem (by have := HN.out; omega)⟩
        have HAT := Lib.hid (AtL_yes hl2)
        obtain ⟨gk, rfl, r0, r1, r2⟩ := h1.2.at_ hl2
        have b2 : (m : Int) < (n : Int) := by omega
        clear hno hl2
        go_wp2_with fail
        refine bodyPost_ret (results_letter rfl _ _ _ _ _ _ rfl (((b1.set 0 (.int .i64 l.f)).set 1 (.int .i64 l.t)).set 2 (.string l.d))) rfl ?_
        refine ⟨by rw [HAT.out]; rfl, hk.then ((((Kp.rfl_ [gl] w1).set (by simp) _).set (by simp) _).set (by simp) _) (by simp; omega)⟩
      · have hmb : ((m : Int) == k) = false := by rw [beq_eq_false_iff_ne]; exact hmk
        have HNO : Hid (∀ j : Nat, j < m + 1 → (j : Int) ≠ k) := Lib.hid fun j hj => by
          by_cases hjm : j < m
          · exact hno j hjm
          · have hje : j = m := by omega
            rw [hje]
            exact hmk
        clear hno hmk
        go_wp2_with fail
        go_roundg (n - (m + 1))
        case measure => omega
        case rel => exact ⟨m + 1, by omega, by go_num, by omega, rfl, HNO.out⟩
    · have hmn : m = n := by omega
      have HAT := Lib.hid (AtL_no (ls := ls) (k := k) (fun i hi => hno i (by have := HN.out; omega)))
      clear hno
      go_wp2_with fail
      refine bodyPost_ret (results_letter rfl _ _ _ _ _ _ rfl (((b1.set 0 (.int .i64 0)).set 1 (.int .i64 0)).set 2 (.string ⟨#[]⟩))) rfl ?_
      refine ⟨by rw [HAT.out]; rfl, hk.then ((((Kp.rfl_ [gl] w1).set (by simp) _).set (by simp) _).set (by simp) _) (by simp; omega)⟩
end Go.Proofs.Ytencpplopdogmaa
