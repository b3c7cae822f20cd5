/- slices.Delete: one letter. -/
import Derived.Test.YtencpplopdogmaaPy
namespace Go.Proofs.Ytencpplopdogmaa
set_option maxRecDepth 100000
open Go.RowKit
set_option linter.unusedVariables false

set_option maxHeartbeats 1600000 in
theorem ldel_any (base g n c k m : Nat) (ls : List Ltr) (w : World) (hln : ls.length = n) (h : LR base w (.slice (some ⟨g, 0, none⟩) n c) ls) (hk : n = k + 1 + m) (hn : n ≤ 1000000) (hnc : n ≤ c) (hcm : c ≤ maxLen) :
    Calls Try.prog 28 #[.slice (some ⟨g, 0, none⟩) n c, .int .i64 k, .int .i64 ((k : Int) + 1)] w
      fun e w' => e = .returned (.slice (some ⟨g, 0, none⟩) (k + m) c) ∧ LR base w' (.slice (some ⟨g, 0, none⟩) (k + m) c) (ls.take k ++ ls.drop (k + 1)) ∧ Kp [g] w w' := by
  unfold maxLen at hcm
  have h0 : (0 : Int) ≤ (k : Int) := by omega
  have h1 : (0 : Int) ≤ (k : Int) + 1 := by omega
  have h2 : (k : Int) + 1 ≤ (n : Int) := by omega
  have h3 : ((k : Int) + 1).toNat = k + 1 := by omega
  have h4 : (n : Int) ≤ (c : Int) := by omega
  have h5 : (k : Int) ≤ (k : Int) + 1 := by omega
  have h6 : (k : Int) ≤ (c : Int) := by omega
  have h7 : ((k : Int) == (k : Int) + 1) = false := by rw [beq_eq_false_iff_ne]; omega
  have hn1 : n - (k + 1) = m := by omega
  have hcx : 0 < c - (k + m) := by omega
  obtain ⟨A, hA, hnews⟩ : ∃ A : Addr, (if c = k + 1 then some (⟨g, 0, none⟩ : Addr) else some ⟨g, (k + 1) * 3, none⟩) = some A ∧ Hid (∀ j u, (lcs (ls.drop (k + 1)))[j]? = some u → w.drew.cell? (A.add j) = some u) := by
    by_cases hc : c = k + 1
    · refine ⟨⟨g, 0, none⟩, by simp [hc], fun j u hu => ?_⟩
      have hz : (lcs (ls.drop (k + 1))).length = 0 := by rw [lcs_len, List.length_drop]; omega
      rw [List.length_eq_zero_iff.1 hz] at hu
      simp at hu
    · refine ⟨⟨g, (k + 1) * 3, none⟩, by simp [hc], fun j u hu => ?_⟩
      rw [Addr.add_lit]
      have hj : j < (lcs (ls.drop (k + 1))).length := (List.getElem?_eq_some_iff.1 hu).1
      rw [lcs_len, List.length_drop] at hj
      have h' : w.ownsRow base 33 3 (.slice (some ⟨g, 0, none⟩) n c) n (lcs ls) := by have := h; unfold LR at this; rw [hln] at this; exact this
      show w.cell? _ = some u
      rw [World.ownsRow.cellAt h' _ (by omega)]
      have e4 : lcs ls = lcs (ls.take (k + 1)) ++ lcs (ls.drop (k + 1)) := by rw [← lcs_append, List.take_append_drop]
      have e5 : (lcs (ls.take (k + 1))).length = (k + 1) * 3 := by rw [lcs_len, List.length_take]; congr 1; omega
      rw [e4, List.getElem?_append_right (by omega), e5, show (k + 1) * 3 + j - (k + 1) * 3 = j by omega]
      exact hu
  have s1 : Hid ((ls.take k).length = k) := Lib.hid (by simp; omega)
  have s2 : Hid ((ls.drop (k + 1)).length = m) := Lib.hid (by simp; omega)
  have s3 : Hid (LR base w.drew (.slice (some ⟨g, 0, none⟩) k c) (ls.take k)) := Lib.hid ((h.take_ k (by omega)).kp (Kp.rfl_ [] w).drew (by simp))
  have s4 : Hid (k + m ≤ c) := Lib.hid (by omega)
  have HL := Lib.hid hln
  have HK := Lib.hid hk
  clear hln
  have s5 : ((k + m : Nat) : Int) ≤ (n : Int) := by omega
  have s6 : n - (k + m) = 1 := by omega
  have s7 : ¬ (c - (k + m) = 0) := by omega
  have s8 : (k : Int) + (m : Int) ≤ (n : Int) := by omega
  clear hk
  go_enter Try.func28, Try.ntmps28
  go_wp2_with fail
  go_region_law (refine step_spare rfl (.tmp 22) (.tmp 25) rfl base g k c m (c - (k + 1)) (ls.take k) (ls.drop (k + 1)) (by simp [Act.eval, Act.put]) s1.out s3.out A (by simp [Act.eval, Act.put]) s2.out hnews.out s4.out ?_; intro w1 hown1 hk1)
  obtain ⟨w2, hclr, hown2, hk2⟩ := hown1.clear_ 1 ((k + m) * 3) (by rw [List.length_append, s1.out, s2.out]; exact Nat.le_refl _) (by omega)
  go_wp2_with fail
  go_ret
  exact ⟨rfl, hown2, ((Kp.rfl_ [g] w).drew.then hk1 (by simp)).then hk2 (by simp)⟩
end Go.Proofs.Ytencpplopdogmaa
