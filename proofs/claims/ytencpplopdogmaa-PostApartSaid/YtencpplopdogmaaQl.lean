/- Package post: great; PostNil. -/
import Derived.Test.YtencpplopdogmaaQk
namespace Go.Proofs.Ytencpplopdogmaa
set_option maxRecDepth 100000
open Go.RowKit
set_option linter.unusedVariables false

/-- A row of calls that is read. -/
def RowO (w : World) (A : Option Addr) (os : List OpV) : Prop := ∀ (i : Nat) (o : OpV), os[i]? = some o → OpOK w o ∧ ∃ ad, A = some ad ∧ ad.block < w.heap.size ∧ ∀ j u, (oc o)[j]? = some u → w.cell? (ad.add (i * 6 + j)) = some u
theorem OpOK.kp {w w' : World} {o : OpV} (h : OpOK w o) (k : Kp [] w w') : OpOK w' o := ⟨h.k, h.n, h.c, h.ls.kp k (by simp), h.sz, fun h0 ad e => Nat.lt_of_lt_of_le (h.off h0 ad e) k.size⟩
theorem RowO.kp {w w' : World} {A : Option Addr} {os : List OpV} (h : RowO w A os) (k : Kp [] w w') : RowO w' A os := fun i o ho => by
  obtain ⟨h1, ad, h2, h3, h4⟩ := h i o ho
  refine ⟨h1.kp k, ad, h2, Nat.lt_of_lt_of_le h3 k.size, fun j u hu => ?_⟩
  exact cell_kpL (h4 j u hu) k (by simp)
theorem add_lit (a : Addr) (n j : Nat) (h : j ≠ 0) : a.add (n + j) = ⟨(a.add n).block, (a.add n).off + j, none⟩ := by
  unfold Addr.add
  by_cases hn : n = 0 <;> simp [hn, h, Nat.add_assoc]
theorem RowO.cells {w : World} {A : Option Addr} {os : List OpV} (h : RowO w A os) {i : Nat} {o : OpV} (ho : os[i]? = some o) : ∃ ad p, A = some ad ∧ ad.add (i * 6) = p ∧ w.cell? p = some (.int .i64 o.kind) ∧ w.cell? ⟨p.block, p.off + 1, none⟩ = some (.int .i64 o.k) ∧
    w.cell? ⟨p.block, p.off + 2, none⟩ = some (.int .i64 o.l.f) ∧ w.cell? ⟨p.block, p.off + 3, none⟩ = some (.int .i64 o.l.t) ∧ w.cell? ⟨p.block, p.off + 4, none⟩ = some (.string o.l.d) ∧ w.cell? ⟨p.block, p.off + 5, none⟩ = some (.slice o.A o.n o.c) := by
  obtain ⟨_, ad, h2, _, h4⟩ := h i o ho
  refine ⟨ad, _, h2, rfl, h4 0 _ rfl, ?_, ?_, ?_, ?_, ?_⟩
  all_goals rw [← add_lit _ _ _ (by omega)]
  · exact h4 1 _ rfl
  · exact h4 2 _ rfl
  · exact h4 3 _ rfl
  · exact h4 4 _ rfl
  · exact h4 5 _ rfl
set_option maxHeartbeats 4000000 in
theorem great_any (A : Option Addr) (n c : Nat) (os : List OpV) (w : World) (hn : os.length = n) (hnm : n ≤ maxLen) (h : RowO w A os) :
    Calls Try.prog 10 #[.slice A n c] w fun e w' => (∃ b, e = .returned (.bool b)) ∧ Kp [] w w' := by
  have HN := Lib.hid hn
  clear hn
  unfold maxLen at hnm
  go_enter Try.func10, Try.ntmps10
  go_wp2_with fail
  go_loopg [3, 8] n (fun gk s i wr => ∃ (m : Nat) (q : Int), n - m ≤ gk ∧ i = .int .i64 m ∧ m ≤ n ∧ s = .int .i64 q ∧ Kp [] w wr)
  case atStart => exact ⟨0, 0, by omega, rfl, Nat.zero_le _, rfl, Kp.rfl_ _ _⟩
  case round =>
    obtain ⟨m, q, hgk, rfl, hm, rfl, hkr⟩ := hrel
    by_cases hlt : m < n
    · obtain ⟨o, ho⟩ : ∃ o, os[m]? = some o := ⟨_, List.getElem?_eq_getElem (by have := HN.out; omega)⟩
      obtain ⟨ad, p, rfl, hp, c0, c1, c2, c3, c4, c5⟩ := (h.kp hkr).cells ho
      have b2 : (m : Int) < (n : Int) := by omega
      obtain ⟨r0, hw⟩ : ∃ r, IntKind.i64.wrap (1 + (o.n : Int)) = r := ⟨_, rfl⟩
      obtain ⟨r, hw2⟩ : ∃ r', IntKind.i64.wrap (q + r0) = r' := ⟨_, rfl⟩
      clear ho
      by_cases hbig : 2000 < r
      · go_wp2_with fail
        go_ret
        exact ⟨⟨_, rfl⟩, hkr.alloc _⟩
      · go_wp2_with fail
        go_roundg (n - (m + 1))
        case measure => omega
        case rel => exact ⟨m + 1, r, by omega, by go_num, by omega, rfl, hkr.alloc _⟩
    · go_wp2_with fail
      go_ret
      exact ⟨⟨_, rfl⟩, hkr⟩
end Go.Proofs.Ytencpplopdogmaa
