/- Letters: rows of structs of three cells. -/
import Derived.Test.YtencpplopdogmaaBs
import Derived.Test.YtencpplopdogmaaRh
import Derived.Laws.ResultCell
import Derived.Laws.Rows
namespace Go.Proofs.Ytencpplopdogmaa
set_option maxRecDepth 100000
open Go.RowKit
set_option linter.unusedVariables false

structure Ltr where
  f : Int
  t : Int
  d : ByteArray
def lc (l : Ltr) : List Value := [.int .i64 l.f, .int .i64 l.t, .string l.d]
def lv (l : Ltr) : Value := .agg #[.int .i64 l.f, .int .i64 l.t, .string l.d]
def lcs (ls : List Ltr) : List Value := ls.flatMap lc
theorem lcs_len (ls : List Ltr) : (lcs ls).length = ls.length * 3 := by
  induction ls with
  | nil => rfl
  | cons l ls ih => unfold lcs at *; rw [List.flatMap_cons, List.length_append, ih, List.length_cons]; simp [lc]; omega
theorem lcs_append (a b : List Ltr) : lcs (a ++ b) = lcs a ++ lcs b := by simp [lcs]
theorem lcs_cell {ls : List Ltr} : ∀ u ∈ lcs ls, u.oneCell' = true := by
  intro u hu
  unfold lcs at hu
  obtain ⟨l, _, h⟩ := List.mem_flatMap.1 hu
  simp [lc] at h
  rcases h with rfl | rfl | rfl <;> rfl
theorem lcs_at : ∀ (ls : List Ltr) (k : Nat) (l : Ltr), ls[k]? = some l → (lcs ls)[3 * k]? = some (.int .i64 l.f) ∧ (lcs ls)[3 * k + 1]? = some (.int .i64 l.t) ∧ (lcs ls)[3 * k + 2]? = some (.string l.d) := by
  intro ls
  induction ls with
  | nil => intro k l h; simp at h
  | cons x ls ih =>
    intro k l h
    cases k with
    | zero =>
      obtain rfl : x = l := by simpa using h
      exact ⟨rfl, rfl, rfl⟩
    | succ k =>
      have h1 := ih k l (by simpa using h)
      have e : ∀ r, (lcs (x :: ls))[3 * (k + 1) + r]? = (lcs ls)[3 * k + r]? := by
        intro r
        show (lc x ++ lcs ls)[3 * (k + 1) + r]? = _
        rw [List.getElem?_append_right (by simp [lc]; omega)]
        congr 1
        simp [lc]
        omega
      exact ⟨by rw [← h1.1]; exact e 0, by rw [← h1.2.1]; exact e 1, by rw [← h1.2.2]; exact e 2⟩
section
variable {w w' : World} {base : Nat} {e : TypeId} {size : Nat} {v : Value} {n : Nat} {xs : List Value}
/-- A row of structs, kept. -/
theorem own_kpn {S : List Nat} (h : w.ownsRow base e size v n xs) (k : Kp S w w') (hS : ∀ g, v.ownBlock = some g → g ∉ S) : w'.ownsRow base e size v n xs := by
  obtain ⟨h1, h2⟩ := h
  refine ⟨h1, ?_⟩
  rcases h2 with h2 | ⟨g, cap, cur, rfl, hb, hg, r⟩
  · exact .inl h2
  · have hlt : g < w.heap.size := by
      rcases Nat.lt_or_ge g w.heap.size with hlt | hge
      · exact hlt
      · rw [Array.getElem?_eq_none hge] at hg; cases hg
    exact .inr ⟨g, cap, cur, rfl, hb, (k.block g hlt (hS g (by simp [Value.ownBlock]))).trans hg, r⟩
theorem own_block_ltn (h : w.ownsRow base e size v n xs) {g : Nat} (hg : v.ownBlock = some g) : base ≤ g ∧ g < w.heap.size := by
  rcases h.2 with ⟨rfl, _⟩ | ⟨g', cap, cur, rfl, hb, hh, _⟩
  · simp [Value.ownBlock] at hg
  · have : g' = g := by simpa [Value.ownBlock] using hg
    subst this
    refine ⟨hb, ?_⟩
    rcases Nat.lt_or_ge g' w.heap.size with hlt | hge
    · exact hlt
    · rw [Array.getElem?_eq_none hge] at hh; cases hh
theorem own_casesn (h : w.ownsRow base e size v n xs) : (v = .slice none 0 0 ∧ n = 0) ∨ ∃ g c, v = .slice (some ⟨g, 0, none⟩) n c ∧ n ≤ c ∧ c ≤ maxLen ∧ base ≤ g ∧ g < w.heap.size := by
  rcases h.2 with ⟨rfl, rfl⟩ | ⟨g, cap, cur, rfl, hb, hg, hn, hm, hs, ht⟩
  · exact .inl ⟨rfl, rfl⟩
  · refine .inr ⟨g, cap, rfl, hn, hm, hb, ?_⟩
    rcases Nat.lt_or_ge g w.heap.size with hlt | hge
    · exact hlt
    · rw [Array.getElem?_eq_none hge] at hg; cases hg
end
/-- A row of letters. -/
def LR (base : Nat) (w : World) (v : Value) (ls : List Ltr) : Prop := w.ownsRow base 33 3 v ls.length (lcs ls)
theorem LR.nil_ (base : Nat) (w : World) : LR base w (.slice none 0 0) [] := ⟨rfl, .inl ⟨rfl, rfl⟩⟩
theorem LR.kp {base : Nat} {w w' : World} {v : Value} {ls : List Ltr} {S : List Nat} (h : LR base w v ls) (k : Kp S w w') (hS : ∀ g, v.ownBlock = some g → g ∉ S) : LR base w' v ls := own_kpn h k hS
theorem LR.shape {base : Nat} {w : World} {v : Value} {ls : List Ltr} (h : LR base w v ls) : (v = .slice none 0 0 ∧ ls = []) ∨ ∃ g c, v = .slice (some ⟨g, 0, none⟩) ls.length c ∧ ls.length ≤ c ∧ c ≤ maxLen ∧ base ≤ g ∧ g < w.heap.size := by
  rcases own_casesn h with ⟨h1, h2⟩ | h
  · exact .inl ⟨h1, List.eq_nil_of_length_eq_zero h2⟩
  · exact .inr h
/-- A slice of letters that is read: each letter's three cells. -/
def Lr (w : World) (A : Option Addr) (ls : List Ltr) : Prop := 0 < ls.length → ∃ ad, A = some ad ∧ ad.block < w.heap.size ∧ ∀ (k : Nat) (l : Ltr), ls[k]? = some l → w.cell? (ad.add (3 * k)) = some (.int .i64 l.f) ∧ w.cell? (ad.add (3 * k + 1)) = some (.int .i64 l.t) ∧ w.cell? (ad.add (3 * k + 2)) = some (.string l.d)
theorem LR.lr {base : Nat} {w : World} {A : Option Addr} {n c : Nat} {ls : List Ltr} (h : LR base w (.slice A n c) ls) : Lr w A ls := by
  intro h0
  rcases h.shape with ⟨h1, h2⟩ | ⟨g, c', h1, hc, hm, hb, hl⟩
  · subst h2
    simp at h0
  · injection h1 with h1 h2 h3
    subst h1
    refine ⟨_, rfl, hl, fun k l hk => ?_⟩
    have hlt := (List.getElem?_eq_some_iff.1 hk).1
    obtain ⟨c0, c1, c2⟩ := lcs_at ls k l hk
    have h' : w.ownsRow base 33 3 (.slice (some ⟨g, 0, none⟩) n c) n (lcs ls) := by rw [h2]; have := h; rw [h2] at this; exact this
    refine ⟨?_, ?_, ?_⟩
    · rw [addr0, World.ownsRow.cellAt h' _ (by omega)]; exact c0
    · rw [addr0, World.ownsRow.cellAt h' _ (by omega)]; exact c1
    · rw [addr0, World.ownsRow.cellAt h' _ (by omega)]; exact c2
theorem Lr.kp {w w' : World} {A : Option Addr} {ls : List Ltr} {S : List Nat} (h : Lr w A ls) (k : Kp S w w') (hS : ∀ ad, A = some ad → ad.block ∉ S) : Lr w' A ls := by
  intro h0
  obtain ⟨ad, e, hb, hc⟩ := h h0
  refine ⟨ad, e, Nat.lt_of_lt_of_le hb k.size, fun j l hj => ?_⟩
  obtain ⟨c0, c1, c2⟩ := hc j l hj
  have hk : ∀ r, w'.cell? (ad.add r) = w.cell? (ad.add r) := fun r => k.cell (by rw [addr_add_block]; exact hb) (by rw [addr_add_block]; exact hS ad e)
  rw [hk, hk, hk]
  exact ⟨c0, c1, c2⟩
theorem info_letter : (Try.prog.info? 33).map (fun i => (i.zero, i.size, i.bytes)) = some (some (.agg #[.int .i64 0, .int .i64 0, .string ByteArray.empty]), 3, 32) := by kernel_rfl
theorem info_parts3 {i? : Option TypeInfo} {z : Value} {s b : Nat} (h : i?.map (fun i => (i.zero, i.size, i.bytes)) = some (some z, s, b)) : ∃ i, i? = some i ∧ i.zero = some z ∧ i.size = s ∧ i.bytes = b := by
  cases hi : i? with
  | none => rw [hi] at h; cases h
  | some i =>
    rw [hi] at h
    simp only [Option.map_some, Option.some.injEq, Prod.mk.injEq] at h
    exact ⟨i, rfl, h.1, h.2.1, h.2.2⟩
/-- append of letters. -/
theorem run_lapp (w : World) (base : Nat) (v : Value) (ls ms : List Ltr) (hown : LR base w v ls) (ad : Addr) (c : Nat) (hr : ∀ (j : Nat) (u : Value), (lcs ms)[j]? = some u → w.cell? (ad.add j) = some u)
    (hn : ls.length + ms.length ≤ 1099511627776) (hb : base ≤ w.heap.size) :
    ∃ v' w', (Builtin.append_ #[40, 40] 40 #[v, .slice (some ad) ms.length c]).run Try.prog w = .ok v' w' ∧ LR base w' v' (ls ++ ms) ∧ w.grownBy w' v.ownBlock ∧ (v'.ownBlock = v.ownBlock ∨ v'.ownBlock = some w.heap.size) := by
  obtain ⟨i, hi, hz, h1, h2⟩ := info_parts3 info_letter
  obtain ⟨v', w', hrun, h3, h4, -, h5⟩ := run_append_own_at (P := Try.prog) w base 40 40 33 i _ 3 32 Try.underlying40 hi hz h1 h2 rfl (by omega) v ls.length (lcs ls) hown ad ms.length c (lcs ms) (lcs_len ms) hr lcs_cell (by unfold maxLen; omega) (by omega) hb
  refine ⟨v', w', hrun, ?_, h4, h5⟩
  unfold LR
  rw [List.length_append, lcs_append]
  exact h3
end Go.Proofs.Ytencpplopdogmaa
