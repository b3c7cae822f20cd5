/- Package disk: Flip; Names. -/
import Derived.Test.YtnmogfjbbibeiaaDp
namespace Go.Proofs.Ytnmogfjbbibeiaa
set_option maxRecDepth 100000
open Go.RowKit Go.Maps Go.WideMaps Go.WideElems Go.ChangeMaps
set_option linter.unusedVariables false

/-- A file of which a bit has turned. -/
def flipFl (x : Fl) (n : Nat) : Fl := if n / 8 < x.last.size then ⟨x.g, tbit x.last (n / 8) (n % 8), x.wait, x.sy⟩ else ⟨x.g, x.last, tbit x.wait (n / 8 - x.last.size) (n % 8), x.sy⟩
theorem turn_fl (x : Fl) (n : Nat) (w : World) (h : At w x.g 70 #[.string x.last, .string x.wait, .bool x.sy]) (hn : n / 8 < x.last.size + x.wait.size) (hs : x.last.size + x.wait.size ≤ 1048576) :
    Calls Try.prog 47 #[.pointer (some ⟨x.g, 0, none⟩), .int .i64 n] w (Turned w x.g (flipFl x n).last (flipFl x n).wait (flipFl x n).sy) := by
  unfold flipFl
  by_cases hlt : n / 8 < x.last.size
  · rw [if_pos hlt]
    exact turn_lo x.g x.last x.wait x.sy n (n / 8) (n % 8) w h (Nat.div_add_mod n 8).symm (Nat.mod_lt _ (by omega)) hlt hs
  · rw [if_neg hlt]
    exact turn_hi x.g x.last x.wait x.sy n (n / 8 - x.last.size) (n % 8) w h (by omega) (Nat.mod_lt _ (by omega)) (by omega) hs
theorem flipFl_g (x : Fl) (n : Nat) : (flipFl x n).g = x.g := by unfold flipFl; split <;> rfl
def Flipped (w : World) (d b N : Nat) (F : ByteArray → Option Fl) (down fused : Bool) (left steps : Nat) (s : ByteArray) (n : Int) (e : Ending) (w' : World) : Prop :=
  (F s = none ∧ e = .returned (.int .i64 51) ∧ w = w') ∨
  (∃ x, F s = some x ∧ (n < 0 ∨ ((x.last.size + x.wait.size : Nat) : Int) ≤ n / 8) ∧ e = .returned (.int .i64 1) ∧ DSt w' d b N F down fused left steps ∧ Kp [] w w') ∨
  (∃ x, F s = some x ∧ 0 ≤ n ∧ n.toNat / 8 < x.last.size + x.wait.size ∧ e = .returned (.int .i64 0) ∧ DSt w' d b N (upd F s (flipFl x n.toNat)) down fused left steps ∧ Kp [x.g] w w')
set_option maxHeartbeats 4000000 in
theorem flip_any (s : ByteArray) (n : Int) (w : World) {d b N : Nat} {F : ByteArray → Option Fl} {down fused : Bool} {left steps : Nat} (h : DSt w d b N F down fused left steps) (hs : s.size ≤ maxLen)
    (hB : ∀ s x, F s = some x → x.last.size + x.wait.size ≤ 1048576) (hn1 : -9223372036854775808 ≤ n) (hn2 : n ≤ 9223372036854775807) :
    Calls Try.prog 30 #[.pointer (some ⟨d, 0, none⟩), .string s, .int .i64 n] w (Flipped w d b N F down fused left steps s n) := by
  have c0 := h.disk.cell 0
  have hlk := look_any h hs
  cases hF : F s with
  | none =>
    rw [hF] at hlk
    simp only [Option.map_none] at hlk
    have HF := Lib.hid hF
    clear hF
    go_enter Try.func30, Try.ntmps30
    go_wp2_with fail
    go_ret
    exact .inl ⟨HF.out, rfl, rfl⟩
  | some x =>
    rw [hF] at hlk
    simp only [Option.map_some] at hlk
    have HF := Lib.hid hF
    have a3 := h.file s x hF
    have hby := hB s x hF
    clear hF
    by_cases h0 : n < 0
    · go_enter Try.func30, Try.ntmps30
      go_wp2_with fail
      go_ret
      exact .inr (.inl ⟨x, HF.out, .inl h0, rfl, h, Kp.rfl_ _ _⟩)
    · obtain ⟨m, hm⟩ : ∃ m : Nat, n = m := ⟨n.toNat, by omega⟩
      subst hm
      have htd : (m : Int).tdiv 8 = ((m / 8 : Nat) : Int) := by rw [Int.tdiv_eq_ediv_of_nonneg (by omega)]; omega
      have hed : (m : Int) / 8 = ((m / 8 : Nat) : Int) := by omega
      obtain ⟨q, hq⟩ : ∃ q, m / 8 = q := ⟨_, rfl⟩
      have HQ := Lib.hid hq
      rw [hq] at htd hed
      clear hq
      obtain ⟨z, hz⟩ : ∃ z, x.last.size + x.wait.size = z := ⟨_, rfl⟩
      have hsz := hsize_any x.g x.last x.wait x.sy w a3 (by omega) (by omega)
      have htn := fun (w' : World) (hlt : q < z) (h' : At w' x.g 70 #[.string x.last, .string x.wait, .bool x.sy]) => turn_fl x m w' h' (by rw [hz, HQ.out]; exact hlt) hby
      rw [hz] at hsz hby
      have HTN := Lib.hid htn
      have HSZ := Lib.hid hsz
      have HZ := Lib.hid hz
      clear htn hsz hz
      by_cases hlt : (z : Int) ≤ (q : Int)
      · go_enter Try.func30, Try.ntmps30
        go_wp2_with fail
        refine HSZ.out.mono ?_
        rintro e w4 ⟨rfl, hk4⟩
        go_wp2_with fail
        go_ret
        exact .inr (.inl ⟨x, HF.out, .inr (by rw [HZ.out]; have := HQ.out; omega), rfl, h.kp hk4, hk4⟩)
      · go_enter Try.func30, Try.ntmps30
        go_wp2_with fail
        refine HSZ.out.mono ?_
        rintro e w4 ⟨rfl, hk4⟩
        have h4 := h.kp hk4
        have a4 := a3.kp hk4 (by simp)
        go_wp2_with fail
        refine (HTN.out w4 (by omega) a4).mono ?_
        rintro e w5 ⟨rfl, a5, hk5⟩
        go_wp2_with fail
        go_ret
        exact .inr (.inr ⟨x, HF.out, by omega, by rw [HZ.out]; have := HQ.out; simp; omega, rfl, by have := h4.turn HF.out (flipFl x m) (flipFl_g x m) hk5 a5; simpa using this, (hk4.mono (T := [x.g]) (by simp)).trans hk5⟩)
/-- The names that are told. -/
def NmD (F : ByteArray → Option Fl) (down : Bool) (p : ByteArray) (L : List ByteArray) : Prop := (down = true ∧ L = []) ∨ (down = false ∧ NamesOf F p L)
theorem NmD.eq {F : ByteArray → Option Fl} {down : Bool} {p : ByteArray} {L L' : List ByteArray} (h : NmD F down p L) (h' : NmD F down p L') : L = L' := by
  rcases h with ⟨h, e⟩ | ⟨h, e⟩ <;> rcases h' with ⟨h', e'⟩ | ⟨h', e'⟩
  · rw [e, e']
  · rw [h] at h'; cases h'
  · rw [h] at h'; cases h'
  · exact e.eq e'
set_option maxHeartbeats 1000000 in
theorem dnames_any (p : ByteArray) (w : World) {d b N : Nat} {F : ByteArray → Option Fl} {down fused : Bool} {left steps : Nat} (h : DSt w d b N F down fused left steps) (hN : N < 1000000) :
    Calls Try.prog 17 #[.pointer (some ⟨d, 0, none⟩), .string p] w fun e w' => ∃ v L, e = .returned v ∧ NmD F down p L ∧ (∀ s ∈ L, s.size ≤ maxLen) ∧ L.length ≤ N ∧ w'.ownsRow w.heap.size 9 1 v L.length (L.map Value.string) ∧ Kp [] w w' := by
  have c1 := h.disk.cell 1
  cases down
  · go_enter Try.func17, Try.ntmps17
    go_wp2_with fail
    refine (dnamesl_any p w h hN).mono ?_
    rintro e w2 ⟨v, L, rfl, h1, h2, h3, h4, h5⟩
    go_wp2_with fail
    go_ret
    exact ⟨v, L, rfl, .inr ⟨rfl, h1⟩, h2, h3, h4, h5⟩
  · go_enter Try.func17, Try.ntmps17
    go_wp2_with fail
    go_ret
    exact ⟨_, [], rfl, .inl ⟨rfl, rfl⟩, by simp, by simp, own_none _ _ _, Kp.rfl_ _ _⟩
end Go.Proofs.Ytnmogfjbbibeiaa
