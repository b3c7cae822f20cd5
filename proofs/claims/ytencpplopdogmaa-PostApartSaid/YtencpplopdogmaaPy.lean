/- slices.Delete over letters: one letter taken out of an own row. -/
import Derived.Test.YtencpplopdogmaaPx
import Derived.Deep.DeepAppendRoom
import Derived.Deep.RegionLaw
import Derived.Laws.CopyRow
namespace Go.Proofs.Ytencpplopdogmaa
set_option maxRecDepth 100000
open Go.RowKit
set_option linter.unusedVariables false

/-- The first letters of an own row. -/
theorem LR.take_ {base : Nat} {w : World} {g n c : Nat} {ls : List Ltr} (h : LR base w (.slice (some ⟨g, 0, none⟩) n c) ls) (k : Nat) (hk : k ≤ ls.length) : LR base w (.slice (some ⟨g, 0, none⟩) k c) (ls.take k) := by
  obtain ⟨h1, h2⟩ := h
  have hl : (ls.take k).length = k := by simp; omega
  unfold LR
  rw [hl]
  refine ⟨by rw [lcs_len, hl], ?_⟩
  rcases h2 with ⟨h2, _⟩ | ⟨g', cap, cur, hv, hb, hg, hn, hm, hs, ht⟩
  · cases h2
  · injection hv with e1 e2 e3
    injection e1 with e1
    injection e1 with e1
    subst e1 e2 e3
    refine .inr ⟨g, c, cur, rfl, hb, hg, by omega, hm, hs, ?_⟩
    have e4 : lcs ls = lcs (ls.take k) ++ lcs (ls.drop k) := by rw [← lcs_append, List.take_append_drop]
    have e5 : (cur.toList.take (ls.length * 3)).take (k * 3) = cur.toList.take (k * 3) := by rw [List.take_take]; congr 1; omega
    rw [← e5, ht, e4]
    have : k * 3 = (lcs (ls.take k)).length := by rw [lcs_len, hl]
    rw [this, List.take_left]
theorem zeroCells_one {z : Array Value} (hz : ∀ u ∈ z, u.oneCell' = true) (n : Nat) : ∀ v ∈ (Builtin.zeroCells z n).toList, v.oneCell' = true := by
  intro v hv
  simp only [Builtin.zeroCells, Array.toList_map, List.mem_map] at hv
  obtain ⟨i, hi, rfl⟩ := hv
  have hi2 : i < n * z.size := by simpa using hi
  have hpos : 0 < z.size := by
    rcases Nat.eq_zero_or_pos z.size with h | h
    · rw [h] at hi2; omega
    · exact h
  have hlt : i % z.size < z.size := Nat.mod_lt _ hpos
  rw [getElem!_pos z _ hlt]
  exact hz _ (Array.getElem_mem hlt)
/-- clear of cells behind an own row's letters. -/
theorem LR.clear_ {base : Nat} {w : World} {g n c : Nat} {ls : List Ltr} (h : LR base w (.slice (some ⟨g, 0, none⟩) n c) ls) (q o : Nat) (ho : ls.length * 3 ≤ o) (hq : o + q * 3 ≤ c * 3) :
    ∃ w', (∀ (cc : Nat) (ty : TypeId), (Builtin.clear_ #[40] ty #[.slice (some ⟨g, o, none⟩) q cc]).run Try.prog w = .ok (.tuple #[]) w') ∧ LR base w' (.slice (some ⟨g, 0, none⟩) n c) ls ∧ Kp [g] w w' := by
  rcases q with _ | q
  · exact ⟨w, fun cc ty => by simp [Builtin.clear_, run_underlying Try.underlying40], h, Kp.rfl_ _ _⟩
  obtain ⟨h1, h2⟩ := h
  rcases h2 with ⟨h2, _⟩ | ⟨g', cap, cur, hv, hb, hg, hn, hm, hs, ht⟩
  · cases h2
  · injection hv with e1 e2 e3
    injection e1 with e1
    injection e1 with e1
    subst e1 e2 e3
    obtain ⟨zs, hzs⟩ : ∃ zs, (Builtin.zeroCells #[.int .i64 0, .int .i64 0, .string ByteArray.empty] (q + 1)).toList = zs := ⟨_, rfl⟩
    have hzl : zs.length = (q + 1) * 3 := by rw [← hzs, Array.length_toList, size_zeroCells]; rfl
    have hz1 : ∀ v ∈ zs, v.oneCell' = true := by
      rw [← hzs]
      exact zeroCells_one (by intro u hu; simp at hu; rcases hu with rfl | rfl <;> rfl) _
    have hst := run_storeCells_at (P := Try.prog) g o 33 zs 0 cur w hg (by rw [hzl, hs]; omega) hz1
    have hv : ∀ w, (zeroValue 33).run Try.prog w = .ok (.agg #[.int .i64 0, .int .i64 0, .string ByteArray.empty]) w := fun w => by kernel_rfl
    have hzs' : (Builtin.zeroCells (Value.agg #[.int .i64 0, .int .i64 0, .string ByteArray.empty]).cells (q + 1)).toList = zs := by rw [← hzs]; rfl
    refine ⟨w.setRow g (cur.toList.take (o + 0) ++ zs ++ cur.toList.drop (o + 0 + zs.length)).toArray, fun cc ty => ?_, ⟨h1, .inr ⟨g, c, _, rfl, hb, setRow_heap w g cur _ _ _ hg, hn, hm, ?_, ?_⟩⟩, ?_⟩
    · simp [Builtin.clear_, run_underlying Try.underlying40, hv, hzs', hst]
    · simp only [List.size_toArray, List.length_append, List.length_take, List.length_drop, Array.length_toList]
      omega
    · rw [← ht, List.append_assoc, List.take_append_of_le_length (by simp; omega), List.take_take]
      congr 1
      omega
    · exact ⟨rfl, rfl, rfl, by rw [setRow_size]; exact Nat.le_refl _, fun k hk hS => setRow_other w g k _ (fun e => hS (by simp [e]))⟩
/-- append in place, as one step of a region. -/
theorem step_spare {ops : Array Oper} {o : Oper} {a : Act} {w : World} {K : Act → World → Prop} {Q : Exit → Act → World → Prop} {E : Prop} (hgd : o.guard = none) (s x : Operand)
    (ho : o.op = .call { callee := .builtin .append, args := #[s, x], argTypes := #[40, 40] })
    (base g k c m c2 : Nat) (ks ms : List Ltr) (hs : a.eval s = .slice (some ⟨g, 0, none⟩) k c) (hkl : ks.length = k) (hown : LR base w (.slice (some ⟨g, 0, none⟩) k c) ks)
    (ad : Addr) (hx : a.eval x = .slice (some ad) m c2) (hml : ms.length = m) (hr : ∀ (j : Nat) (u : Value), (lcs ms)[j]? = some u → w.cell? (ad.add j) = some u) (hroom : k + m ≤ c)
    (h : ∀ w', LR base w' (.slice (some ⟨g, 0, none⟩) (k + m) c) (ks ++ ms) → Kp [g] w w' → K (a.put o.dst (.slice (some ⟨g, 0, none⟩) (k + m) c)) w') :
    if Region.wanted o (yielded ops a.tmps) = true then Oper.wp Try.prog o a w K Q else E := by
  have hw : Region.wanted o (yielded ops a.tmps) = true := by simp [Region.wanted, hgd]
  rw [if_pos hw]
  subst hkl hml
  obtain ⟨i, hi, hz, h1, h2⟩ := info_parts3 info_letter
  refine wp_append_own_spare w s x 40 ho base 33 i 3 Try.underlying40 hi h1 g ks.length c (lcs ks) hs hown ad ms.length c2 (lcs ms) hx (lcs_len ms) hr lcs_cell hroom fun w' h3 h4 => ?_
  refine h w' ?_ (Kp.of_grown h4 (by intro k hk _; injection hk with hk; simp [hk]))
  unfold LR
  rw [List.length_append, lcs_append]
  exact h3
end Go.Proofs.Ytencpplopdogmaa
