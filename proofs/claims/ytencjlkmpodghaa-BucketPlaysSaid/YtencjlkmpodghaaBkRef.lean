/- The document's own bucket: what its functions answer, and what becomes of its block. -/
import Derived.Test.YtencjlkmpodghaaBkGoes
import Derived.Deep.QuietTactic
import Derived.BigQuiet
namespace Go.Proofs.Ytencjlkmpodghaa
open Go.RowKit
set_option linter.unusedVariables false

def Rk (w : World) (g : Nat) (r b l : Int) : Prop := At w g 56 #[.int .i64 r, .int .i64 b, .int .i64 l]
theorem Rk.cells {w : World} {g : Nat} {r b l : Int} (h : Rk w g r b l) :
    w.cell? ⟨g, 0, none⟩ = some (.int .i64 r) ∧ w.cell? ⟨g, 1, none⟩ = some (.int .i64 b) ∧ w.cell? ⟨g, 2, none⟩ = some (.int .i64 l) ∧ w.frozen? ⟨g, 2, none⟩ = false ∧ g < w.heap.size :=
  ⟨(At.cell h 0).trans rfl, (At.cell h 1).trans rfl, (At.cell h 2).trans rfl, At.frozen h 2, At.lt h⟩
theorem Rk.set {w : World} {g : Nat} {r b l : Int} (h : Rk w g r b l) (l' : Int) : Rk (w.setCell ⟨g, 2, none⟩ (.int .i64 l')) g r b l' := At.set h 2 _

set_option maxHeartbeats 400000 in
theorem rnew_ok (r b : Int) (w : World) (h1 : 1 ≤ r) (h2 : r ≤ 4096) (h3 : 64 ≤ b) (h4 : b ≤ 16384) :
    Calls Try.prog 34 #[.int .i64 r, .int .i64 b] w fun e w' => e = .returned (.tuple #[.pointer (some ⟨w.heap.size, 0, none⟩), .int .i64 0]) ∧ Rk w' w.heap.size r b b ∧ Kp [] w w' := by
  go_enter Try.func34, Try.ntmps34
  go_wp2
  go_ret2
  exact ⟨rfl, At.new _ _ _, (Kp.rfl_ _ _).alloc _⟩
set_option maxHeartbeats 400000 in
theorem rnew_bad (r b : Int) (w : World) (h : NewBad r b) :
    Calls Try.prog 34 #[.int .i64 r, .int .i64 b] w fun e w' => e = .returned (.tuple #[.pointer none, .int .i64 1]) ∧ w = w' := by
  have hh : r < 1 ∨ (1 ≤ r ∧ 4096 < r) ∨ ((1 ≤ r ∧ r ≤ 4096) ∧ b < 64) ∨ ((1 ≤ r ∧ r ≤ 4096) ∧ (64 ≤ b ∧ 16384 < b)) := by unfold NewBad at h; omega
  clear h
  rcases hh with h | ⟨h, h'⟩ | ⟨⟨h, h'⟩, h''⟩ | ⟨⟨h, h'⟩, h'', h3⟩
  all_goals
    go_enter Try.func34, Try.ntmps34
    go_wp2
    go_ret2
    exact ⟨rfl, rfl⟩
set_option maxHeartbeats 400000 in
theorem rtick (g : Nat) (r b l : Int) (w : World) (hb : Rk w g r b l) (b1 : 0 ≤ r) (b2 : r ≤ 4096) (b3 : 0 ≤ l) (b4 : l ≤ 16384) :
    Calls Try.prog 41 #[.pointer (some ⟨g, 0, none⟩)] w fun e w' => e = .returned (.tuple #[]) ∧ Rk w' g r b (ticked r b l) ∧ Kp [g] w w' := by
  obtain ⟨h0, h1, h2, hf, -⟩ := hb.cells
  go_enter Try.func41, Try.ntmps41
  go_wp2
  go_region
  go_end0
  exact ⟨rfl, hb.set _, ((Kp.rfl_ _ _).set (by simp) _).drew⟩
set_option maxHeartbeats 400000 in
theorem rtake (g : Nat) (r b l : Int) (A : Option Addr) (n c : Nat) (zs : List Int) (w : World) (hb : Rk w g r b l) (b3 : 0 ≤ l) (b4 : l ≤ 16384)
    (hs : Ls w A n (zs.map (Value.int .i64))) (hoff : 0 < n → ∀ ad, A = some ad → ad.block ≠ g) (hn : n ≤ maxLen) :
    Calls Try.prog 38 #[.pointer (some ⟨g, 0, none⟩), .slice A n c] w fun e w' => e = .returned (.int .i64 (taken l zs).1) ∧ Rk w' g r b (taken l zs).2 ∧ Kp [g] w w' := by
  unfold maxLen at hn
  have hlen : zs.length = n := by simpa using hs.1
  have HL := Lib.hid hlen
  clear hlen
  go_enter Try.func38, Try.ntmps38
  go_wp2
  go_loopw [5] (fun i wr => ∃ (k : Nat) (m : Int), k ≤ n ∧ i = .int .i64 k ∧ TkRel l zs k m ∧ 0 ≤ m ∧ m ≤ 16384 ∧ Rk wr g r b m ∧ Kp [g] w wr) (fun i _ => n - (intOf i).toNat)
  case atStart => exact ⟨0, l, Nat.zero_le _, rfl, TkRel.start l zs, b3, b4, hb, Kp.rfl_ _ _⟩
  case round =>
    obtain ⟨k, m, hk, rfl, hrel', hm0, hm1, hbk, hkp⟩ := hrel
    obtain ⟨-, -, h2, hf, -⟩ := hbk.cells
    by_cases hlt : k < n
    · obtain ⟨ad, u, rfl, _, hu, hcell⟩ := (hs.kp hkp (by simpa using hoff)).at_ hlt
      have hs0 : ∃ s, zs[k]? = some s ∧ u = .int .i64 s := by
        rw [List.getElem?_map] at hu
        cases hz : zs[k]? with
        | none => rw [hz] at hu; cases hu
        | some s => rw [hz] at hu; exact ⟨s, rfl, by injection hu with hu; exact hu.symm⟩
      obtain ⟨s, hs1, rfl⟩ := hs0
      have HS := Lib.hid hs1
      clear hs1 hu
      have hne : ad.block ≠ g := hoff (by omega) ad rfl
      by_cases h0 : s < 0
      · go_wp2
        go_quiet (fail)
        go_wp2
        go_ret
        exact ⟨ret_int (hrel'.stop HS.out (.inl h0)).1.symm, by rw [(hrel'.stop HS.out (.inl h0)).2]; exact hbk.drewN _, hkp.drewN _⟩
      · have h0' : decide (s < 0) = false := by simpa using h0
        by_cases h1 : m < s
        · go_wp2
          go_quiet (fail)
          go_wp2
          go_ret
          exact ⟨ret_int (hrel'.stop HS.out (.inr h1)).1.symm, by rw [(hrel'.stop HS.out (.inr h1)).2]; exact hbk.drewN _, hkp.drewN _⟩
        · go_wp2
          go_quiet (fail)
          go_wp2
          go_region
          go_wp2
          go_roundw
          case rel => exact ⟨k + 1, m - s, by omega, by go_num, hrel'.step HS.out (by omega) (by omega), by omega, by omega, Rk.set (w := wr.drewN (nq + 1)) hbk _, (hkp.drewN (nq + 1)).set (by simp) _⟩
          case measure => simp [intOf]; omega
    · go_wp2
      go_ret
      have e := hrel'.all (by rw [HL.out]; omega)
      have hkn : k = n := by omega
      subst hkn
      exact ⟨ret_int e.1.symm, by rw [e.2]; exact hbk, hkp⟩
theorem rtake_to (g : Nat) (r b l : Int) (A : Option Addr) (n c : Nat) (zs : List Int) (k m : Int) (w : World) (hz : taken l zs = (k, m)) (hb : Rk w g r b l) (b3 : 0 ≤ l) (b4 : l ≤ 16384)
    (hs : Ls w A n (zs.map (Value.int .i64))) (hoff : 0 < n → ∀ ad, A = some ad → ad.block ≠ g) (hn : n ≤ maxLen) :
    Calls Try.prog 38 #[.pointer (some ⟨g, 0, none⟩), .slice A n c] w fun e w' => e = .returned (.int .i64 k) ∧ Rk w' g r b m ∧ Kp [g] w w' :=
  (rtake g r b l A n c zs w hb b3 b4 hs hoff hn).mono fun e w' ⟨h1, h2, h3⟩ => ⟨by rw [h1, hz], by rw [hz] at h2; exact h2, h3⟩
end Go.Proofs.Ytencjlkmpodghaa
