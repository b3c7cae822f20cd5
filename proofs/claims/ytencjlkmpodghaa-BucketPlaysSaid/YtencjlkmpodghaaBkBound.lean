/- The walk of BucketBound. -/
import Derived.Test.YtencjlkmpodghaaBkGoes
namespace Go.Proofs.Ytencjlkmpodghaa
open Go.RowKit
set_option linter.unusedVariables false

/-- A row of rows: each element is a slice of integers of W's memory. -/
def RowsOk (W : World) (xs : List Value) : Prop :=
  ∀ u ∈ xs, ∃ (A : Option Addr) (n c : Nat) (zs : List Int), u = .slice A n c ∧ n ≤ c ∧ c ≤ maxLen ∧ Ls W A n (zs.map (Value.int .i64))
theorem rows_ok {W : World} {xs : List Value} (h : ∀ u ∈ xs, Rd W 22 [u]) : RowsOk W xs := by
  intro u hu
  obtain ⟨A, n, c, ys, rfl, hnc, hc, hL, hx, -, -⟩ := rd_slice Try.underlying22 (by kernel_rfl) (h u hu)
  obtain ⟨zs, rfl, -⟩ := ints_of fun u hu => rd_int Try.underlying3 (hx u hu)
  exact ⟨A, n, c, zs, rfl, hnc, hc, hL⟩
theorem RowsOk.at_ {W w : World} {A : Option Addr} {n k : Nat} {xs : List Value} (h : RowsOk W xs) (hL : Ls W A n xs) (hk : k < n) (hkp : Kp [] W w) :
    ∃ ad A' n' c' zs, A = some ad ∧ w.cell? (ad.add k) = some (.slice A' n' c') ∧ xs[k]? = some (.slice A' n' c') ∧ n' ≤ c' ∧ c' ≤ maxLen ∧ Ls W A' n' (List.map (Value.int .i64) zs) := by
  obtain ⟨ad, u, rfl, _, hu, hc⟩ := (hL.kp hkp (by simp)).at_ hk
  obtain ⟨A', n', c', zs, rfl, h1, h2, h3⟩ := h u (List.mem_of_getElem? hu)
  exact ⟨ad, A', n', c', zs, rfl, hc, hu, h1, h2, h3⟩

def RowShort (xs : List Value) (k : Nat) : Prop := ∀ A n c, xs[k]? = some (.slice A n c) → n ≤ 1000
theorem RowShort.mk_ {xs : List Value} {k n c : Nat} {A : Option Addr} (h : xs[k]? = some (.slice A n c)) (hn : n ≤ 1000) : RowShort xs k := by
  intro A' n' c' h'
  rw [h] at h'
  injection h' with h'
  injection h' with _ h' _
  omega

/-- What goes, and what is left. -/
def isum (zs : List Int) : Int := zs.foldr (· + ·) 0
theorem isum_append (a b : List Int) : isum (a ++ b) = isum a + isum b := by
  induction a with
  | nil => simp [isum]
  | cons x xs ih =>
    show x + isum (xs ++ b) = x + isum xs + isum b
    rw [ih]; omega
theorem taken_sum : ∀ (zs : List Int) (l : Int), 0 ≤ l → ∃ k : Nat, (taken l zs).1 = k ∧ k ≤ zs.length ∧ (taken l zs).2 + isum (zs.take k) = l ∧ ∀ j, j ≤ k → 0 ≤ isum (zs.take j) ∧ isum (zs.take j) ≤ l := by
  intro zs
  induction zs with
  | nil => intro l h; exact ⟨0, rfl, Nat.le_refl _, by simp [taken, isum], fun j _ => by simp [isum, h]⟩
  | cons s ss ih =>
    intro l h
    rw [taken]
    split
    · exact ⟨0, rfl, Nat.zero_le _, by simp [isum], fun j hj => by
        obtain rfl : j = 0 := by omega
        simp [isum, h]⟩
    · obtain ⟨k, h1, h2, h3, h4⟩ := ih (l - s) (by omega)
      refine ⟨k + 1, by simp [h1], by simp; omega, ?_, ?_⟩
      · show (taken (l - s) ss).2 + (s + isum (ss.take k)) = l
        omega
      · intro j hj
        cases j with
        | zero => simp [isum, h]
        | succ j =>
          have := h4 j (by omega)
          show 0 ≤ s + isum (ss.take j) ∧ s + isum (ss.take j) ≤ l
          omega
theorem isum_snoc {zs : List Int} {j : Nat} {s : Int} (h : zs[j]? = some s) : isum (zs.take (j + 1)) = isum (zs.take j) + s := by
  rw [List.take_add_one, h, isum_append]
  simp [isum]

set_option maxHeartbeats 400000 in
theorem bbound_bad (r b : Int) (A : Option Addr) (n c : Nat) (w : World) (h : NewBad r b) :
    Calls Try.prog 12 #[.int .i64 r, .int .i64 b, .slice A n c] w (Yes w) := by
  go_enter Try.func12, Try.ntmps12
  go_wp2_with fail
  refine (bnew_bad r b _ h).mono ?_
  rintro e w1 ⟨rfl, rfl⟩
  go_wp2_with fail
  refine (bawake _).mono ?_
  rintro e w1 ⟨rfl, hk1⟩
  go_wp2_with fail
  refine (bawake _).mono ?_
  rintro e w2 ⟨rfl, hk2⟩
  go_wp2_with fail
  go_ret
  exact ⟨rfl, hk1.then hk2 (by simp)⟩
set_option maxHeartbeats 400000 in
theorem bbound_out (r b : Int) (A : Option Addr) (n c : Nat) (w : World) (h1 : 1 ≤ r) (h2 : r ≤ 4096) (h3 : 64 ≤ b) (h4 : b ≤ 16384) (h : 1000 < n) :
    Calls Try.prog 12 #[.int .i64 r, .int .i64 b, .slice A n c] w (Yes w) := by
  go_enter Try.func12, Try.ntmps12
  go_wp2_with fail
  refine (bnew_ok r b _ h1 h2 h3 h4).mono ?_
  rintro e w1 ⟨rfl, hb1, hk1⟩
  go_wp2_with fail
  refine (bawake _).mono ?_
  rintro e w2 ⟨rfl, hk2⟩
  go_wp2_with fail
  refine (bawake _).mono ?_
  rintro e w3 ⟨rfl, hk3⟩
  go_wp2_with fail
  go_ret
  exact ⟨rfl, (hk1.then hk2 (by simp)).then hk3 (by simp)⟩

set_option maxRecDepth 100000 in
set_option maxHeartbeats 1000000 in
theorem bbound_in (r b : Int) (A : Option Addr) (n c : Nat) (xs : List Value) (w : World) (h1 : 1 ≤ r) (h2 : r ≤ 4096) (h3 : 64 ≤ b) (h4 : b ≤ 16384) (h7 : n ≤ 1000) (hnc : n ≤ c) (hc : c ≤ maxLen)
    (hL : Ls w A n xs) (hR : RowsOk w xs) :
    Calls Try.prog 12 #[.int .i64 r, .int .i64 b, .slice A n c] w (Yes w) := by
  unfold maxLen at hc
  go_enter Try.func12, Try.ntmps12
  go_wp2_with fail
  refine (bnew_ok r b _ h1 h2 h3 h4).mono ?_
  rintro e w1 ⟨rfl, hb1, hk1⟩
  go_wp2_with fail
  refine (bawake _).mono ?_
  rintro e w2 ⟨rfl, hk2⟩
  have hb2 : Bk w2 w.heap.size r b b := At.kp hb1 hk2 (by simp)
  have hkp0 : Kp [] w w2 := hk1.then hk2 (by simp)
  clear hb1 hk1 hk2
  go_wp2_with fail
  go_loopw [36] (fun i wr => ∃ (k : Nat) (m : Int), i = .int .i64 k ∧ k ≤ n ∧ 0 ≤ m ∧ m ≤ b ∧ Bk wr w.heap.size r b m ∧ Kp [] w wr) (fun i _ => n - (intOf i).toNat)
  case atStart => exact ⟨0, b, rfl, Nat.zero_le _, by omega, by omega, hb2, hkp0⟩
  case round =>
    clear hb2 hkp0
    obtain ⟨k, m, rfl, hk, hm0, hm1, hbk, hkp⟩ := hrel
    by_cases hlt : k < n
    · by_cases h20 : 20 < k
      · go_wp2_with fail
        go_ret
        exact ⟨rfl, hkp⟩
      · obtain ⟨wo, rfl⟩ : ∃ wo : World, wo = wr := ⟨_, rfl⟩
        obtain ⟨ad, -, rfl, -⟩ := hL.at_ hlt
        go_wp2_with fail
        refine (bcopy_some w.heap.size r b m _ hbk).mono ?_
        rintro e w4 ⟨rfl, hbc, hk4⟩
        have hbk4 : Bk w4 w.heap.size r b m := At.kp hbk hk4 (by simp)
        have hkp4 : Kp [] w w4 := hkp.then hk4 (by simp)
        have hwo : w.heap.size < wo.heap.size := hbk.lt
        clear hk4
        have hwo4 : wo.heap.size < w4.heap.size := hbc.lt
        go_wp2_with fail
        go_loopw [47, 11] (fun i gn wr => ∃ (j : Nat) (gv mc : Int), i = .int .i64 j ∧ gn = .int .i64 gv ∧ j ≤ n - k ∧ 0 ≤ gv ∧ 0 ≤ mc ∧ mc ≤ b ∧ gv + mc ≤ b + j * r ∧ (0 < j → RowShort xs k) ∧ Bk wr wo.heap.size r b mc ∧ Bk wr w.heap.size r b m ∧ Kp [] w wr)
          (fun i _ _ => n - k - (intOf i).toNat)
        case atStart => exact ⟨0, 0, m, rfl, rfl, by omega, by omega, by omega, by omega, by omega, fun h => absurd h (by omega), hbc, hbk4, hkp4⟩
        case round =>
          clear hbc hbk4 hkp4 hwo4 hbk hkp
          obtain ⟨j, gv, mc, rfl, rfl, hj, hg0, hm2, hm3, hgm, hsh, hbc, hbk, hkp⟩ := hrel
          have hz := hbc.lt
          by_cases hjl : j < n - k
          · obtain ⟨ad', A', n', c', zs, had, hcell, hxk, hnc', hc', hL0⟩ := hR.at_ (k := k + j) hL (by omega) hkp
            have hL' := hL0.kp hkp (by simp)
            obtain rfl : ad = ad' := by injection had
            have hcell' : wr.cell? ((ad.add k).add j) = some (.slice A' n' c') := by rw [addr_add_add]; exact hcell
            clear had
            have hsh' : n' ≤ 1000 → 0 < j + 1 → RowShort xs k := fun hn _ => by
              rcases Nat.eq_zero_or_pos j with rfl | h0
              · exact RowShort.mk_ hxk hn
              · exact hsh h0
            have HSH := Lib.hid hsh'
            clear hsh hsh' hxk
            by_cases h1k : 1000 < n'
            · go_wp2_with fail
              go_ret
              exact ⟨rfl, hkp⟩
            · unfold maxLen at hc'
              go_wp2_with (at_builtin; refine wpl_copy_int wr rfl _ _ rfl A' n' c' zs rfl rfl hL' (by omega) ?_; intro A2 c2 w5 hc5 hL5 hA5 hk5)
              have hlen : zs.length = n' := by simpa using hL'.1
              have hbc5 : Bk w5 wo.heap.size r b mc := At.kp hbc hk5 (by simp)
              have hbk5 : Bk w5 w.heap.size r b m := At.kp hbk hk5 (by simp)
              have hbd := taken_bd zs mc (by omega)
              obtain ⟨kn, hkn, hkl, hks, hkj⟩ := taken_sum zs mc (by omega)
              rw [hlen] at hkl
              obtain ⟨m2, hm2'⟩ : ∃ m2, m2 = (taken mc zs).2 := ⟨_, rfl⟩
              rw [← hm2'] at hbd hks
              have hkp5 : Kp [] w w5 := hkp.then hk5 (by simp)
              have hL5' := hL'.kp hk5 (by simp)
              refine (btake_to wo.heap.size r b mc A2 n' c2 zs kn m2 _ (Prod.ext hkn hm2'.symm) hbc5 (by omega) (by omega) hL5 (fun _ ad had => by have := hA5 ad had; omega) (by unfold maxLen; omega)).mono ?_
              rintro e w6 ⟨rfl, hbc6, hk6⟩
              have hbk6 : Bk w6 w.heap.size r b m := At.kp hbk5 hk6 (by simp; omega)
              have hkp6 : Kp [] w w6 := hkp5.then hk6 (by simp; omega)
              have hL6 := hL0.kp hkp6 (by simp)
              have hjr0 : 0 ≤ (j : Int) * r := Int.mul_nonneg (by omega) (by omega)
              have hjr1 : (j : Int) * r ≤ 1000 * 4096 := Int.mul_le_mul (by omega) (by omega) (by omega) (by omega)
              clear hm2' hkn hlen hk5 hk6 hL5 hL5' hA5 hbc5 hbk5 hkp5 hL' hkp hbk hbc
              go_wp2_with fail
              go_loop [63, 11] (fun i gn => ∃ p : Nat, i = .int .i64 p ∧ gn = .int .i64 (gv + isum (zs.take p)) ∧ p ≤ kn) (fun i _ => kn - (intOf i).toNat)
              case atStart => exact ⟨0, rfl, by simp [isum], Nat.zero_le _⟩
              case round =>
                obtain ⟨p, rfl, rfl, hp⟩ := hrel
                by_cases hpl : p < kn
                · obtain ⟨ad3, u, rfl, _, hu, hcell3⟩ := hL6.at_ (k := p) (by omega)
                  have hs0 : ∃ s, zs[p]? = some s ∧ u = .int .i64 s := by
                    rw [List.getElem?_map] at hu
                    cases hz : zs[p]? with
                    | none => rw [hz] at hu; cases hu
                    | some s => rw [hz] at hu; exact ⟨s, rfl, by injection hu with hu; exact hu.symm⟩
                  obtain ⟨s, hs1, rfl⟩ := hs0
                  have hsn := isum_snoc hs1
                  have ha := hkj p (by omega)
                  have hb := hkj (p + 1) (by omega)
                  rw [hsn] at hb
                  have HSN := Lib.hid hsn
                  clear hsn hs1 hu
                  go_wp2
                  go_round
                  case rel => exact ⟨p + 1, by go_num, by rw [HSN.out]; go_num, by omega⟩
                  case measure => simp [intOf]; omega
                · obtain rfl : p = kn := by omega
                  generalize isum (zs.take p) = q at *
                  go_wp2_with fail
                  refine (bleft_some wo.heap.size r b m2 _ hbc6).mono ?_
                  rintro e w7 ⟨rfl, rfl⟩
                  go_wp2_with fail
                  refine (bleft_some wo.heap.size r b m2 _ hbc6).mono ?_
                  rintro e w7 ⟨rfl, rfl⟩
                  go_wp2_with fail
                  refine (btick_some wo.heap.size r b m2 _ hbc6 (by omega) (by omega) (by omega) (by omega)).mono ?_
                  rintro e w7 ⟨rfl, hbc7, hk7⟩
                  unfold ticked at hbc7
                  have hbk7 : Bk w7 w.heap.size r b m := At.kp hbk6 hk7 (by simp; omega)
                  have hkp7 : Kp [] w w7 := hkp6.then hk7 (by simp; omega)
                  have hsp : ((j + 1 : Nat) : Int) * r = j * r + r := by rw [Int.natCast_add, Int.add_mul]; simp
                  have HSP := Lib.hid hsp
                  clear hsp
                  go_wp2_with fail
                  go_roundw
                  case rel => exact ⟨j + 1, gv + q, _, by go_num, rfl, by omega, by omega, by split <;> omega, by split <;> omega, by rw [HSP.out]; split <;> omega, HSH.out (by omega), hbc7, hbk7, hkp7⟩
                  case measure => simp [intOf]; omega
          · obtain ⟨ad', A', n', c', zs, had, hcell, hxk, hnc', hc', hL0⟩ := hR.at_ (k := k) hL (by omega) hkp
            obtain rfl : ad = ad' := by injection had
            have hcell2 := cell_alloc hcell (.cells #[] 3)
            have hL' := hL0.kp hkp (by simp)
            clear had
            have h1k : n' ≤ 1000 := hsh (by omega) _ _ _ hxk
            clear hxk hsh
            · go_wp2_with (at_builtin; refine wpl_copy_int wr rfl _ _ rfl A' n' c' zs rfl rfl hL' (by omega) ?_; intro A2 c2 w5 hc5 hL5 hA5 hk5)
              have hbk5 : Bk w5 w.heap.size r b m := At.kp hbk hk5 (by simp)
              have hkp5 : Kp [] w w5 := hkp.then hk5 (by simp)
              have hbd := taken_bd zs m (by omega)
              refine (btake_some w.heap.size r b m A2 n' c2 zs _ hbk5 (by omega) (by omega) hL5 (fun _ ad had => by have := hA5 ad had; omega) (by unfold maxLen; omega)).mono ?_
              rintro e w6 ⟨rfl, hbk6, hk6⟩
              have hkp6 : Kp [] w w6 := hkp5.then hk6 (by simp)
              generalize (taken m zs).1 = n9 at *
              generalize (taken m zs).2 = m9 at *
              go_wp2_with fail
              refine (btick_some w.heap.size r b m9 _ hbk6 (by omega) (by omega) (by omega) (by omega)).mono ?_
              rintro e w7 ⟨rfl, hbk7, hk7⟩
              unfold ticked at hbk7
              have hkp7 : Kp [] w w7 := hkp6.then hk7 (by simp)
              clear hbc hbk hbk5 hbk6
              go_wp2_with fail
              go_roundw
              case rel => exact ⟨k + 1, _, by go_num, by omega, by split <;> omega, by split <;> omega, hbk7, hkp7⟩
              case measure => simp [intOf]; omega
    · go_wp2_with fail
      go_ret
      exact ⟨rfl, hkp⟩

theorem bbound_walk (v0 v1 v2 : Value) (w : World) (i0 : In w 3 v0) (i1 : In w 3 v1) (i2 : In w 44 v2) :
    Calls Try.prog 12 #[v0, v1, v2] w (Yes w) := by
  obtain ⟨r, rfl, -⟩ := in_int Try.underlying3 i0
  obtain ⟨b, rfl, -⟩ := in_int Try.underlying3 i1
  obtain ⟨A, n, c, xs, rfl, hnc, hc, hL, hx, -, -⟩ := rd_slice Try.underlying44 (by kernel_rfl) (in_rd_slice Try.underlying44 i2)
  by_cases hbad : NewBad r b
  · exact bbound_bad r b A n c w hbad
  · have hb : 1 ≤ r ∧ r ≤ 4096 ∧ 64 ≤ b ∧ b ≤ 16384 := by unfold NewBad at hbad; omega
    by_cases ho : 1000 < n
    · exact bbound_out r b A n c w hb.1 hb.2.1 hb.2.2.1 hb.2.2.2 ho
    · exact bbound_in r b A n c xs w hb.1 hb.2.1 hb.2.2.1 hb.2.2.2 (by omega) hnc hc hL (rows_ok hx)
end Go.Proofs.Ytencjlkmpodghaa
