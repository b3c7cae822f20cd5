/- Numbers written and read: the round trip. -/
import Derived.Test.YtencjlkmpodghaaPkH
namespace Go.Proofs.Ytencjlkmpodghaa
set_option maxRecDepth 100000
open Go.RowKit
set_option linter.unusedVariables false

theorem p9 : (128 : Nat) ^ 9 = 9223372036854775808 := by decide
theorem p10 : (128 : Nat) ^ 10 = 1180591620717411303424 := by decide
theorem cap_lt {z i : Nat} (h : (z + 1) * 128 ^ i ≤ 18446744073709551616) : i < 10 ∧ (i = 9 → z ≤ 1) := by
  constructor
  · rcases Nat.lt_or_ge i 10 with h1 | h1
    · exact h1
    · have h2 := Nat.pow_le_pow_right (n := 128) (by omega) h1
      have h3 := Nat.mul_le_mul (Nat.succ_le_succ (Nat.zero_le z)) h2
      rw [p10] at h3
      simp only [Nat.succ_eq_add_one] at h3
      omega
  · rintro rfl
    rw [p9] at h
    omega
theorem cap_step {z i : Nat} (h : (z + 1) * 128 ^ i ≤ 18446744073709551616) (hz : 128 ≤ z) : (z / 128 + 1) * 128 ^ (i + 1) ≤ 18446744073709551616 ∨ (z / 128) * 128 ^ (i + 1) ≤ z * 128 ^ i := by
  refine .inr ?_
  rw [Nat.pow_succ, Nat.mul_comm (128 ^ i) 128, ← Nat.mul_assoc]
  exact Nat.mul_le_mul_right _ (by omega)

/-- A bound that is kept group by group. -/
def Cap (z i : Nat) : Prop := z * 128 ^ i < 18446744073709551616
theorem Cap.ten {z i : Nat} (h : Cap z i) (h0 : 0 < i → 0 < z) : i < 10 ∧ (i = 9 → z ≤ 1) := by
  unfold Cap at h
  constructor
  · rcases Nat.lt_or_ge i 10 with h1 | h1
    · exact h1
    · have h2 := Nat.pow_le_pow_right (n := 128) (by omega) h1
      have h3 := Nat.mul_le_mul (h0 (by omega)) h2
      rw [p10] at h3
      omega
  · rintro rfl
    rw [p9] at h
    omega
theorem Cap.step {z i : Nat} (h : Cap z i) : Cap (z / 128) (i + 1) := by
  unfold Cap at *
  refine Nat.lt_of_le_of_lt ?_ h
  rw [Nat.pow_succ, Nat.mul_comm (128 ^ i) 128, ← Nat.mul_assoc]
  exact Nat.mul_le_mul_right _ (by omega)
theorem decG_enc : ∀ (z i : Nat) (rest : List UInt8), Cap z i → (0 < i → 0 < z) → decG i (enc z ++ rest) = some (z, (enc z).length) := by
  intro z
  induction z using Nat.strongRecOn with
  | _ z ih =>
    intro i rest hc h0
    obtain ⟨h10, h9⟩ := hc.ten h0
    by_cases hz : z < 128
    · have hb : (UInt8.ofNat z).toNat = z := u8_of (by omega)
      rw [enc_small hz, List.singleton_append, decG, if_neg (by omega), if_neg (by rw [hb]; omega), if_neg (by rw [hb]; omega), if_neg (by rw [hb]; omega), hb]
      rfl
    · have hb : (UInt8.ofNat (z % 128 + 128)).toNat = z % 128 + 128 := u8_of (by omega)
      rw [enc_big (by omega), List.cons_append, decG, if_neg (by omega), if_neg (by rintro ⟨h, _⟩; have := h9 h; omega), if_pos (by rw [hb]; omega), ih (z / 128) (by omega) (i + 1) rest hc.step (by omega), hb]
      simp only [Option.map_some, Option.some.injEq, Prod.mk.injEq, List.length_cons, and_true]
      omega
theorem unf_fold (n : Int) : unf (fold n) = n := by
  unfold unf fold
  split <;> split <;> omega
theorem fold_unf (z : Nat) : fold (unf z) = z := by
  unfold unf fold
  split <;> split <;> omega
theorem decN_numB (n : Int) (rest : List UInt8) (h1 : -9223372036854775808 ≤ n) (h2 : n ≤ 9223372036854775807) : decN (numB n ++ rest) = (n, (numB n).length) := by
  have := fold_lt h1 h2
  unfold decN numB
  rw [decG_enc (fold n) 0 rest (by unfold Cap; simp; omega) (by omega)]
  simp [unf_fold]
theorem decG_some : ∀ (l : List UInt8) (i z u : Nat), decG i l = some (z, u) → l.take u = enc z ∧ 0 < u ∧ u ≤ l.length ∧ (z + 1) * 128 ^ i ≤ 18446744073709551616 ∧ (0 < i → 0 < z) := by
  intro l
  induction l with
  | nil => intro i z u h; cases h
  | cons b rest ih =>
    intro i z u h
    rw [decG] at h
    by_cases c1 : 10 ≤ i
    · rw [if_pos c1] at h; cases h
    rw [if_neg c1] at h
    by_cases c2 : i = 9 ∧ 1 < b.toNat
    · rw [if_pos c2] at h; cases h
    rw [if_neg c2] at h
    by_cases c3 : 128 ≤ b.toNat
    · rw [if_pos c3] at h
      cases hd : decG (i + 1) rest with
      | none => rw [hd] at h; cases h
      | some r =>
        obtain ⟨z', u'⟩ := r
        rw [hd] at h
        simp only [Option.map_some, Option.some.injEq, Prod.mk.injEq] at h
        obtain ⟨rfl, rfl⟩ := h
        obtain ⟨e1, e2, e3, e4, e5⟩ := ih (i + 1) z' u' hd
        have hz' := e5 (by omega)
        have hbl := b.toNat_lt
        refine ⟨?_, by omega, by simp; omega, ?_, by omega⟩
        · rw [enc_big (by omega), List.take_succ_cons, e1]
          congr 1
          · apply UInt8.toNat_inj.1
            rw [u8_of (by omega)]
            omega
          · congr 1
            omega
        · refine Nat.le_trans ?_ e4
          rw [Nat.pow_succ, Nat.mul_comm (128 ^ i) 128, ← Nat.mul_assoc]
          exact Nat.mul_le_mul_right _ (by omega)
    · rw [if_neg c3] at h
      by_cases c4 : b.toNat = 0 ∧ 0 < i
      · rw [if_pos c4] at h; cases h
      rw [if_neg c4] at h
      simp only [Option.some.injEq, Prod.mk.injEq] at h
      obtain ⟨rfl, rfl⟩ := h
      refine ⟨?_, by omega, by simp, ?_, by omega⟩
      · rw [enc_small (by omega)]
        simp
      · by_cases c9 : i = 9
        · subst c9
          rw [p9]
          omega
        · have hp8 : 128 ^ i ≤ 72057594037927936 := by
            have e : (128 : Nat) ^ 8 = 72057594037927936 := by decide
            rw [← e]
            exact Nat.pow_le_pow_right (by omega) (by omega)
          have : (b.toNat + 1) * 128 ^ i ≤ 128 * 72057594037927936 := Nat.mul_le_mul (by omega) hp8
          omega
/-- A number that is read is the number whose bytes stand there. -/
theorem decN_some {l : List UInt8} {n : Int} {u : Nat} (h : decN l = (n, u)) (hu : 0 < u) : l.take u = numB n ∧ u ≤ l.length ∧ -9223372036854775808 ≤ n ∧ n ≤ 9223372036854775807 := by
  unfold decN at h
  cases hd : decG 0 l with
  | none => rw [hd] at h; simp at h; omega
  | some r =>
    obtain ⟨z, u'⟩ := r
    rw [hd] at h
    simp only [Prod.mk.injEq] at h
    obtain ⟨rfl, rfl⟩ := h
    obtain ⟨e1, e2, e3, e4, e5⟩ := decG_some l 0 z u' hd
    simp at e4
    refine ⟨?_, e3, ?_, ?_⟩
    · unfold numB; rw [fold_unf, e1]
    · unfold unf; split <;> omega
    · unfold unf; split <;> omega
theorem decN_le {l : List UInt8} {n : Int} {u : Nat} (h : decN l = (n, u)) : u ≤ l.length := by
  rcases Nat.eq_zero_or_pos u with h0 | h0
  · omega
  · exact (decN_some h h0).2.1
theorem decN_zero {l : List UInt8} {n : Int} (h : decN l = (n, 0)) : n = 0 := by
  unfold decN at h
  cases hd : decG 0 l with
  | none => rw [hd] at h; simp at h; omega
  | some r =>
    obtain ⟨z, u'⟩ := r
    rw [hd] at h
    simp only [Prod.mk.injEq] at h
    obtain ⟨rfl, rfl⟩ := h
    have := (decG_some l 0 z _ hd).2.1
    omega

theorem bs_drop (a b : List UInt8) : (bs (a ++ b)).extract a.length (bs (a ++ b)).size = bs b := by
  rw [bs_extract, bs_size, List.take_of_length_le (Nat.le_refl _), List.drop_left]
end Go.Proofs.Ytencjlkmpodghaa
