/- Package bucket: what each of its functions answers, and what becomes of the bucket's block. -/
import Derived.Test.YtencjlkmpodghaaRows
import Derived.Test.YtencjlkmpodghaaIn
import Derived.RegionTactic
import Derived.BigRegion
import Derived.Lib.Hide
namespace Go.Proofs.Ytencjlkmpodghaa
open Go.RowKit

/-- The bucket in block g. -/
def Bk (w : World) (g : Nat) (r b l : Int) : Prop := At w g 78 #[.int .i64 r, .int .i64 b, .int .i64 l]
theorem Bk.cells {w : World} {g : Nat} {r b l : Int} (h : Bk w g r b l) :
    w.cell? ⟨g, 0, none⟩ = some (.int .i64 r) ∧ w.cell? ⟨g, 1, none⟩ = some (.int .i64 b) ∧ w.cell? ⟨g, 2, none⟩ = some (.int .i64 l) ∧ w.frozen? ⟨g, 2, none⟩ = false ∧ g < w.heap.size :=
  ⟨(At.cell h 0).trans rfl, (At.cell h 1).trans rfl, (At.cell h 2).trans rfl, At.frozen h 2, At.lt h⟩
theorem Bk.set {w : World} {g : Nat} {r b l : Int} (h : Bk w g r b l) (l' : Int) : Bk (w.setCell ⟨g, 2, none⟩ (.int .i64 l')) g r b l' := At.set h 2 _

/-- What is left behind a tick. -/
def ticked (r b l : Int) : Int := if b < l + r then b else l + r
/-- How many of the sizes go, and what is left. -/
def taken (l : Int) : List Int → Int × Int
  | [] => (0, l)
  | s :: ss => if s < 0 ∨ l < s then (0, l) else ((taken (l - s) ss).1 + 1, (taken (l - s) ss).2)
def TkRel (l : Int) (zs : List Int) (k : Nat) (m : Int) : Prop := taken l zs = ((k : Int) + (taken m (zs.drop k)).1, (taken m (zs.drop k)).2)
theorem TkRel.start (l : Int) (zs : List Int) : TkRel l zs 0 l := by simp [TkRel]
theorem TkRel.step {l : Int} {zs : List Int} {k : Nat} {m s : Int} (h : TkRel l zs k m) (hs : zs[k]? = some s) (h1 : 0 ≤ s) (h2 : s ≤ m) : TkRel l zs (k + 1) (m - s) := by
  obtain ⟨hk, rfl⟩ := List.getElem?_eq_some_iff.1 hs
  unfold TkRel at h ⊢
  rw [h, List.drop_eq_getElem_cons hk, taken, if_neg (by omega)]
  ext <;> simp
  omega
theorem TkRel.stop {l : Int} {zs : List Int} {k : Nat} {m s : Int} (h : TkRel l zs k m) (hs : zs[k]? = some s) (h1 : s < 0 ∨ m < s) : (taken l zs).1 = k ∧ (taken l zs).2 = m := by
  obtain ⟨hk, rfl⟩ := List.getElem?_eq_some_iff.1 hs
  unfold TkRel at h
  rw [h, List.drop_eq_getElem_cons hk, taken, if_pos h1]
  simp
theorem TkRel.all {l : Int} {zs : List Int} {k : Nat} {m : Int} (h : TkRel l zs k m) (hk : zs.length ≤ k) : (taken l zs).1 = k ∧ (taken l zs).2 = m := by
  unfold TkRel at h
  rw [h, List.drop_eq_nil_of_le hk]
  simp [taken]

set_option maxHeartbeats 400000 in
theorem bnew_ok (r b : Int) (w : World) (h1 : 1 ≤ r) (h2 : r ≤ 4096) (h3 : 64 ≤ b) (h4 : b ≤ 16384) :
    Calls Try.prog 33 #[.int .i64 r, .int .i64 b] w fun e w' => e = .returned (.tuple #[.pointer (some ⟨w.heap.size, 0, none⟩), .int .i64 0]) ∧ Bk w' w.heap.size r b b ∧ Kp [] w w' := by
  go_enter Try.func33, Try.ntmps33
  go_wp2
  go_ret2
  exact ⟨rfl, At.new _ _ _, (Kp.rfl_ _ _).alloc _⟩
def NewBad (r b : Int) : Prop := r < 1 ∨ 4096 < r ∨ b < 64 ∨ 16384 < b
set_option maxHeartbeats 400000 in
theorem bnew_bad (r b : Int) (w : World) (h : NewBad r b) :
    Calls Try.prog 33 #[.int .i64 r, .int .i64 b] w fun e w' => e = .returned (.tuple #[.pointer none, .int .i64 1]) ∧ w = w' := by
  have hh : r < 1 ∨ (1 ≤ r ∧ 4096 < r) ∨ ((1 ≤ r ∧ r ≤ 4096) ∧ b < 64) ∨ ((1 ≤ r ∧ r ≤ 4096) ∧ (64 ≤ b ∧ 16384 < b)) := by unfold NewBad at h; omega
  clear h
  rcases hh with h | ⟨h, h'⟩ | ⟨⟨h, h'⟩, h''⟩ | ⟨⟨h, h'⟩, h'', h3⟩
  all_goals
    go_enter Try.func33, Try.ntmps33
    go_wp2
    go_ret2
    exact ⟨rfl, rfl⟩
set_option maxHeartbeats 400000 in
theorem bleft_nil (w : World) : Calls Try.prog 39 #[.pointer none] w fun e w' => e = .returned (.int .i64 0) ∧ w = w' := by
  go_enter Try.func39, Try.ntmps39
  go_wp2
  go_ret
  exact ⟨rfl, rfl⟩
set_option maxHeartbeats 400000 in
theorem bleft_some (g : Nat) (r b l : Int) (w : World) (hb : Bk w g r b l) :
    Calls Try.prog 39 #[.pointer (some ⟨g, 0, none⟩)] w fun e w' => e = .returned (.int .i64 l) ∧ w = w' := by
  obtain ⟨-, -, h2, -, -⟩ := hb.cells
  go_enter Try.func39, Try.ntmps39
  go_wp2
  go_ret
  exact ⟨rfl, rfl⟩
set_option maxHeartbeats 400000 in
theorem btick_nil (w : World) : Calls Try.prog 40 #[.pointer none] w fun e w' => e = .returned (.tuple #[]) ∧ w = w' := by
  go_enter Try.func40, Try.ntmps40
  go_wp2
  go_end0
  exact ⟨rfl, rfl⟩
set_option maxHeartbeats 400000 in
theorem btick_some (g : Nat) (r b l : Int) (w : World) (hb : Bk w g r b l) (b1 : 0 ≤ r) (b2 : r ≤ 4096) (b3 : 0 ≤ l) (b4 : l ≤ 16384) :
    Calls Try.prog 40 #[.pointer (some ⟨g, 0, none⟩)] w fun e w' => e = .returned (.tuple #[]) ∧ Bk w' g r b (ticked r b l) ∧ Kp [g] w w' := by
  obtain ⟨h0, h1, h2, hf, -⟩ := hb.cells
  go_enter Try.func40, Try.ntmps40
  go_wp2
  go_region
  go_end0
  exact ⟨rfl, hb.set _, ((Kp.rfl_ _ _).set (by simp) _).drew⟩
set_option maxHeartbeats 400000 in
theorem bcopy_nil (w : World) : Calls Try.prog 36 #[.pointer none] w fun e w' => e = .returned (.pointer none) ∧ w = w' := by
  go_enter Try.func36, Try.ntmps36
  go_wp2
  go_ret
  exact ⟨rfl, rfl⟩
set_option maxHeartbeats 400000 in
theorem bcopy_some (g : Nat) (r b l : Int) (w : World) (hb : Bk w g r b l) :
    Calls Try.prog 36 #[.pointer (some ⟨g, 0, none⟩)] w fun e w' => e = .returned (.pointer (some ⟨w.heap.size, 0, none⟩)) ∧ Bk w' w.heap.size r b l ∧ Kp [] w w' := by
  obtain ⟨h0, h1, h2, hf, -⟩ := hb.cells
  go_enter Try.func36, Try.ntmps36
  go_wp2
  go_ret
  exact ⟨rfl, At.new _ _ _, (Kp.rfl_ _ _).alloc _⟩
set_option maxHeartbeats 400000 in
theorem btake_nil (v : Value) (w : World) : Calls Try.prog 37 #[.pointer none, v] w fun e w' => e = .returned (.int .i64 0) ∧ w = w' := by
  go_enter Try.func37, Try.ntmps37
  go_wp2
  go_ret
  exact ⟨rfl, rfl⟩
set_option maxHeartbeats 400000 in
theorem btake_some (g : Nat) (r b l : Int) (A : Option Addr) (n c : Nat) (zs : List Int) (w : World) (hb : Bk w g r b l) (b3 : 0 ≤ l) (b4 : l ≤ 16384)
    (hs : Ls w A n (zs.map (Value.int .i64))) (hoff : 0 < n → ∀ ad, A = some ad → ad.block ≠ g) (hn : n ≤ maxLen) :
    Calls Try.prog 37 #[.pointer (some ⟨g, 0, none⟩), .slice A n c] w fun e w' => e = .returned (.int .i64 (taken l zs).1) ∧ Bk w' g r b (taken l zs).2 ∧ Kp [g] w w' := by
  unfold maxLen at hn
  have hlen : zs.length = n := by simpa using hs.1
  have HL := Lib.hid hlen
  clear hlen
  go_enter Try.func37, Try.ntmps37
  go_wp2
  go_loopw [11] (fun i wr => ∃ (k : Nat) (m : Int), k ≤ n ∧ i = .int .i64 k ∧ TkRel l zs k m ∧ 0 ≤ m ∧ m ≤ 16384 ∧ Bk wr g r b m ∧ Kp [g] w wr) (fun i _ => n - (intOf i).toNat)
  case atStart => exact ⟨0, l, Nat.zero_le _, rfl, TkRel.start l zs, b3, b4, hb, Kp.rfl_ _ _⟩
  case round =>
    obtain ⟨k, m, hk, rfl, hrel', hm0, hm1, hbk, hkp⟩ := hrel
    obtain ⟨-, -, h2, hf, -⟩ := hbk.cells
    by_cases hlt : k < n
    · obtain ⟨ad, u, rfl, _, hu, hcell⟩ := (hs.kp hkp (by simpa using hoff)).at_ hlt
      have hs0 : ∃ s, zs[k]? = some s ∧ u = .int .i64 s := by
        rw [List.getElem?_map] at hu
        cases hz : zs[k]? with
        | none => rw [hz] at hu; cases hu
        | some s => rw [hz] at hu; exact ⟨s, rfl, by injection hu with hu; exact hu.symm⟩
      obtain ⟨s, hs1, rfl⟩ := hs0
      have HS := Lib.hid hs1
      clear hs1 hu
      by_cases h0 : s < 0
      · go_wp2
        go_ret
        exact ⟨ret_int (hrel'.stop HS.out (.inl h0)).1.symm, by rw [(hrel'.stop HS.out (.inl h0)).2]; exact hbk, hkp⟩
      · by_cases h1 : m < s
        · go_wp2
          go_ret
          exact ⟨ret_int (hrel'.stop HS.out (.inr h1)).1.symm, by rw [(hrel'.stop HS.out (.inr h1)).2]; exact hbk, hkp⟩
        · go_wp2
          go_roundw
          case rel => exact ⟨k + 1, m - s, by omega, by go_num, hrel'.step HS.out (by omega) (by omega), by omega, by omega, hbk.set _, hkp.set (by simp) _⟩
          case measure => simp [intOf]; omega
    · go_wp2
      go_ret
      have e := hrel'.all (by rw [HL.out]; omega)
      have hkn : k = n := by omega
      subst hkn
      exact ⟨ret_int e.1.symm, by rw [e.2]; exact hbk, hkp⟩

/-- Take, its answer named. -/
theorem btake_to (g : Nat) (r b l : Int) (A : Option Addr) (n c : Nat) (zs : List Int) (k m : Int) (w : World) (hz : taken l zs = (k, m)) (hb : Bk w g r b l) (b3 : 0 ≤ l) (b4 : l ≤ 16384)
    (hs : Ls w A n (zs.map (Value.int .i64))) (hoff : 0 < n → ∀ ad, A = some ad → ad.block ≠ g) (hn : n ≤ maxLen) :
    Calls Try.prog 37 #[.pointer (some ⟨g, 0, none⟩), .slice A n c] w fun e w' => e = .returned (.int .i64 k) ∧ Bk w' g r b m ∧ Kp [g] w w' :=
  (btake_some g r b l A n c zs w hb b3 b4 hs hoff hn).mono fun e w' ⟨h1, h2, h3⟩ => ⟨by rw [h1, hz], by rw [hz] at h2; exact h2, h3⟩


set_option maxHeartbeats 400000 in
theorem bawake (w : World) : Calls Try.prog 35 #[] w (Yes w) := by
  go_enter Try.func35, Try.ntmps35
  go_wp2_with fail
  refine (bnew_ok 10 100 _ (by omega) (by omega) (by omega) (by omega)).mono ?_
  rintro e w1 ⟨rfl, hb1, hk1⟩
  have hz1 := hb1.lt
  go_wp2_with fail
  refine (btake_to w.heap.size 10 100 100 _ 3 3 [60, 50, 1] 1 40 _ (by decide) (hb1.alloc _) (by omega) (by omega) (Ls.of_at (At.new _ _ _)) (by rintro _ ad ⟨rfl⟩; simp; omega) (by unfold maxLen; omega)).mono ?_
  rintro e w2 ⟨rfl, hb2, hk2⟩
  go_wp2_with fail
  refine (bleft_some w.heap.size 10 100 40 _ hb2).mono ?_
  rintro e w3 ⟨rfl, rfl⟩
  go_wp2_with fail
  refine (btick_some w.heap.size 10 100 40 _ hb2 (by omega) (by omega) (by omega) (by omega)).mono ?_
  rintro e w3 ⟨rfl, hb3, hk3⟩
  have hz3 := hb3.lt
  go_wp2_with fail
  refine (bnew_bad 0 100 _ (.inl (by omega))).mono ?_
  rintro e w4 ⟨rfl, rfl⟩
  go_wp2_with fail
  refine (bleft_some w.heap.size 10 100 50 _ hb3).mono ?_
  rintro e w4 ⟨rfl, rfl⟩
  go_wp2_with fail
  refine (btake_to w.heap.size 10 100 50 _ 1 1 [-1] 0 50 _ (by decide) (hb3.alloc _) (by omega) (by omega) (Ls.of_at (At.new _ _ _)) (by rintro _ ad ⟨rfl⟩; simp; omega) (by unfold maxLen; omega)).mono ?_
  rintro e w5 ⟨rfl, hb5, hk5⟩
  go_wp2_with fail
  go_ret
  exact ⟨rfl, ((((hk1.alloc _).then hk2 (by simp)).then hk3 (by simp)).alloc _).then hk5 (by simp)⟩

set_option maxHeartbeats 400000 in
theorem bnil (a0 : Int) (w : World) : Calls Try.prog 14 #[.int .i64 a0] w (Yes w) := by
  go_enter Try.func14, Try.ntmps14
  go_wp2_with fail
  refine (btick_nil _).mono ?_
  rintro e w1 ⟨rfl, rfl⟩
  go_wp2_with fail
  refine (bawake _).mono ?_
  rintro e w1 ⟨rfl, hk1⟩
  go_wp2_with fail
  refine (btake_nil _ _).mono ?_
  rintro e w2 ⟨rfl, rfl⟩
  go_wp2_with fail
  refine (bleft_nil _).mono ?_
  rintro e w2 ⟨rfl, rfl⟩
  go_wp2_with fail
  refine (bcopy_nil _).mono ?_
  rintro e w2 ⟨rfl, rfl⟩
  go_wp2_with fail
  go_ret
  exact ⟨rfl, hk1.alloc _⟩

theorem bnil_walk (v : Value) (w : World) (i : In w 3 v) : Calls Try.prog 14 #[v] w (Yes w) := by
  obtain ⟨a, rfl, -⟩ := in_int Try.underlying3 i
  exact bnil a w
end Go.Proofs.Ytencjlkmpodghaa
