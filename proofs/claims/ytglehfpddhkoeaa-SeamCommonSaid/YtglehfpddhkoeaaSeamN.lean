/- SeamNever. -/
import Derived.Test.YtglehfpddhkoeaaSeamA
namespace Go.Proofs.Ytglehfpddhkoeaa
open Go.RowKit
set_option linter.unusedVariables false

theorem upN_max {zs : List Int} {e : Int} : ∀ {K j : Nat}, j + 1 ≤ K → zs.getD j 0 ≤ e → j + 1 ≤ upN zs e K := by
  intro K
  induction K with
  | zero => intro j h; omega
  | succ K ih =>
    intro j h he
    rw [upN]
    split
    · omega
    · by_cases hj : j = K
      · subst hj; exact absurd he ‹_›
      · exact ih (by omega) he
theorem upN_at {zs : List Int} {e : Int} : ∀ {K j : Nat}, upN zs e K = j + 1 → zs.getD j 0 ≤ e := by
  intro K
  induction K with
  | zero => intro j h; simp [upN] at h
  | succ K ih =>
    intro j h
    rw [upN] at h
    split at h
    · obtain rfl : K = j := by omega
      assumption
    · exact ih h

/-- The first k of a list never fall. -/
def Srt (zs : List Int) (k : Nat) : Prop := ∀ i, i + 1 < k → zs.getD i 0 ≤ zs.getD (i + 1) 0
theorem Srt.mono {zs : List Int} {k : Nat} (h : Srt zs k) : ∀ {j i : Nat}, i ≤ j → j < k → zs.getD i 0 ≤ zs.getD j 0 := by
  intro j
  induction j with
  | zero => intro i hi _; obtain rfl : i = 0 := by omega
            exact Int.le_refl _
  | succ j ih =>
    intro i hi hj
    by_cases e : i = j + 1
    · subst e; exact Int.le_refl _
    · exact Int.le_trans (ih (by omega) (by omega)) (h j hj)
theorem Srt.step {zs : List Int} {k : Nat} (h : Srt zs (k + 1)) (hs : ¬ zs.getD (k + 1) 0 < zs.getD k 0) : Srt zs (k + 2) := by
  intro i hi
  by_cases e : i = k
  · subst e; omega
  · exact h i (by omega)

/-- Where a sender looks next, behind what a taker said. -/
def lookN (mine other : List Int) (f : Nat) : Nat × Nat :=
  let k := upN other (mine.getD (f - 1) 0) (mn (((f : Int)) - 1) other.length).toNat
  (k, upN mine (epAt other k) (mn k mine.length).toNat)
theorem look_lt {mine other : List Int} {f : Nat} (hf : 1 ≤ f) : (lookN mine other f).2 < f := by
  have h1 := upN_le other (mine.getD (f - 1) 0) (mn (((f : Int)) - 1) other.length).toNat
  have h2 := upN_le mine (epAt other (lookN mine other f).1) (mn ((lookN mine other f).1 : Int) mine.length).toNat
  have h3 : (mn (((f : Int)) - 1) other.length).toNat ≤ f - 1 := by unfold mn; split <;> omega
  have h4 : (mn ((lookN mine other f).1 : Int) mine.length).toNat ≤ (lookN mine other f).1 := by unfold mn; split <;> omega
  have h5 : (lookN mine other f).1 ≤ f - 1 := Nat.le_trans h1 h3
  have h6 : (lookN mine other f).2 ≤ (lookN mine other f).1 := Nat.le_trans h2 h4
  omega
theorem look_over {mine other : List Int} {f j : Nat} (sm : Srt mine mine.length) (so : Srt other other.length) (hf : f ≤ mine.length) (hj : (lookN mine other f).2 ≤ j) (hjf : j + 1 < f) (hjo : j < other.length) :
    ¬ other.getD j 0 = mine.getD j 0 := by
  intro he
  have hm : mine.getD j 0 ≤ mine.getD (f - 1) 0 := sm.mono (by omega) (by omega)
  have hk : j + 1 ≤ (lookN mine other f).1 := upN_max (by unfold mn; split <;> omega) (by rw [he]; exact hm)
  obtain ⟨k, hk'⟩ : ∃ k, (lookN mine other f).1 = k + 1 := ⟨(lookN mine other f).1 - 1, by omega⟩
  have hko : k + 1 ≤ other.length := by
    have h1 : (lookN mine other f).1 ≤ _ := upN_le other (mine.getD (f - 1) 0) (mn (((f : Int)) - 1) other.length).toNat
    have h3 : (mn (((f : Int)) - 1) other.length).toNat ≤ other.length := by unfold mn; split <;> omega
    omega
  have he2 : epAt other (lookN mine other f).1 = other.getD k 0 := by rw [hk']; simp [epAt]
  have hle : other.getD j 0 ≤ other.getD k 0 := so.mono (by omega) (by omega)
  have hn : j + 1 ≤ (lookN mine other f).2 := upN_max (by show j + 1 ≤ (mn ((lookN mine other f).1 : Int) mine.length).toNat; unfold mn; split <;> omega) (by show mine.getD j 0 ≤ epAt other (lookN mine other f).1; rw [he2]; omega)
  omega

/-- What the law lets go. -/
def NvOut (n m : Nat) : Prop := n < 1 ∨ (1 ≤ n ∧ 300 < n) ∨ ((1 ≤ n ∧ n ≤ 300) ∧ 300 < m)
set_option maxHeartbeats 1000000 in
theorem snever_out (A B : Option Addr) (n c m d : Nat) (f : Int) (w : World) (h : NvOut n m) :
    Calls Try.prog 10 #[.slice A n c, .slice B m d, .int .i64 f] w (Yes w) := by
  rcases h with h | ⟨h, h'⟩ | ⟨⟨h, h'⟩, h''⟩
  all_goals
    go_enter Try.func10, Try.ntmps10
    go_wp2_with fail
    refine (sawake _).mono ?_
    rintro e w1 ⟨rfl, hk1⟩
    go_wp2_with fail
    refine (sawake _).mono ?_
    rintro e w2 ⟨rfl, hk2⟩
    go_wp2_with fail
    go_ret
    exact ⟨rfl, hk1.trans hk2⟩

set_option maxRecDepth 100000 in
set_option maxHeartbeats 4000000 in
theorem snever_in (A B : Option Addr) (n c m d : Nat) (xs ys : List Int) (f : Int) (w : World) (h1 : 1 ≤ n) (h2 : n ≤ 300) (h3 : m ≤ 300) (hA : Ls w A n (xs.map (Value.int .i64))) (hB : Ls w B m (ys.map (Value.int .i64))) :
    Calls Try.prog 10 #[.slice A n c, .slice B m d, .int .i64 f] w (Yes w) := by
  have hxl : xs.length = n := by simpa using hA.1
  have hyl : ys.length = m := by simpa using hB.1
  have HX := Lib.hid hxl
  have HY := Lib.hid hyl
  clear hxl hyl
  obtain ⟨q, hq, hqn⟩ : ∃ q : Nat, (IntKind.u64.wrap f).tmod (n : Int) = (q : Int) ∧ q < n := by
    have h0 : 0 ≤ IntKind.u64.wrap f := by rw [IntKind.wrap_u64]; omega
    rw [Int.tmod_eq_emod_of_nonneg h0]
    have h5 := Int.emod_nonneg (IntKind.u64.wrap f) (show (n : Int) ≠ 0 by omega)
    have h6 := Int.emod_lt_of_pos (IntKind.u64.wrap f) (show (0 : Int) < n by omega)
    exact ⟨(IntKind.u64.wrap f % n).toNat, by omega, by omega⟩
  go_enter Try.func10, Try.ntmps10
  go_wp2_with fail
  refine (sawake _).mono ?_
  rintro e w1 ⟨rfl, hk1⟩
  go_wp2_with fail
  go_loopw [33] (fun i wr => ∃ k : Nat, i = .int .i64 k ∧ k ≤ 2 ∧ (1 ≤ k → Srt xs n) ∧ (2 ≤ k → Srt ys m) ∧ Kp [] w wr) (fun i _ => 2 - (intOf i).toNat)
  case atStart => exact ⟨0, rfl, by omega, fun h => absurd h (by omega), fun h => absurd h (by omega), hk1⟩
  case round =>
    clear hk1
    obtain ⟨k, rfl, hk, hsx, hsy, hkp⟩ := hrel
    by_cases hlt : k < 2
    · obtain ⟨L, nl, cl, zs, hidx, hLs, hnl, hdone⟩ : ∃ (L : Option Addr) (nl cl : Nat) (zs : List Int), (∀ w : World, (Instr.index 46 (.agg #[.slice A n c, .slice B m d]) (.int .i64 (k : Int))).run Try.prog w = .ok (.slice L nl cl) w) ∧
          Ls w L nl (zs.map (Value.int .i64)) ∧ nl ≤ 300 ∧ (Srt zs nl → (1 ≤ k + 1 → Srt xs n) ∧ (2 ≤ k + 1 → Srt ys m)) := by
        by_cases h0 : k = 0
        · subst h0
          exact ⟨A, n, c, xs, fun _ => by kernel_rfl, hA, by omega, fun h => ⟨fun _ => h, fun h => absurd h (by omega)⟩⟩
        · obtain rfl : k = 1 := by omega
          exact ⟨B, m, d, ys, fun _ => by kernel_rfl, hB, by omega, fun h => ⟨fun _ => hsx (by omega), fun _ => h⟩⟩
      have HD := Lib.hid hdone
      have hkb : decide ((k : Int) < 2) = true := by simp; omega
      clear hsx hsy hdone
      obtain ⟨wo, rfl⟩ : ∃ wo : World, wo = wr := ⟨_, rfl⟩
      go_wp2_with fail
      go_loopg [9] nl (fun gk i wr => ∃ j : Nat, gk = nl - j ∧ i = .int .i64 (j + 1) ∧ (j = 0 ∨ j + 1 ≤ nl) ∧ Srt zs (j + 1) ∧ Kp [] w wr)
      case atStart => exact ⟨0, rfl, rfl, .inl rfl, fun i hi => absurd hi (by omega), hkp⟩
      case round =>
        clear hkp hidx
        obtain ⟨j, hgk, rfl, hj, hs, hkp⟩ := hrel
        have HGK := Lib.hid hgk
        clear hgk
        by_cases hjl : j + 1 < nl
        · have hjl' : ((j : Int) + 1) < nl := by omega
          have hLr := hLs.kp hkp (by simp)
          obtain ⟨ad, rfl, hc0, hl0⟩ := int_at hLr (show j < nl by omega)
          obtain ⟨ad', had, hc1, hl1⟩ := int_at hLr hjl
          obtain rfl : ad = ad' := by injection had
          have hst := fun hh => hs.step hh
          have HST := Lib.hid hst
          generalize zs.getD j 0 = z0 at *
          generalize zs.getD (j + 1) 0 = z1 at *
          clear had hst hl0 hl1
          have hc1' : wr.cell? ⟨ad.block, ad.off + (j + 1), none⟩ = some (.int .i64 z1) := by simpa [Addr.add] using hc1
          clear hc1
          by_cases hlt2 : z1 < z0
          · go_wp2_with fail
            go_quiet (fail)
            go_wp2_with fail
            go_ret
            exact ⟨rfl, hkp.drewN _⟩
          · go_wp2_with fail
            go_quiet (fail)
            go_wp2_with fail
            go_roundg (nl - (j + 1))
            case measure => have := HGK.out; omega
            case rel => exact ⟨j + 1, rfl, by go_num, .inr (by omega), HST.out (by omega), hkp.drewN _⟩
        · have hsn : Srt zs nl := fun i hi => hs i (by omega)
          have HDN := Lib.hid (HD.out hsn)
          clear hsn hs
          go_wp2_with fail
          go_roundw
          case rel => exact ⟨k + 1, by go_num, by omega, HDN.out.1, HDN.out.2, hkp⟩
          case measure => simp [intOf]; omega
    · have hsx2 := hsx (by omega)
      have hsy2 := hsy (by omega)
      obtain rfl : k = 2 := by omega
      clear hsx hsy hlt hk
      have ek : (1 : Int) + (q : Int) = ((q + 1 : Nat) : Int) := by omega
      obtain ⟨ad, rfl, hcq, hlq⟩ := int_at (hA.kp hkp (by simp)) hqn
      obtain ⟨zq, hzq⟩ : ∃ z, xs.getD q 0 = z := ⟨_, rfl⟩
      rw [hzq] at hcq
      have HZQ := Lib.hid hzq
      clear hzq hlq ek
      have hw : IntKind.i64.wrap (1 + (q : Int) - 1) = (q : Int) := by rw [show (1 + (q : Int) - 1) = (q : Int) by omega]; exact IntWalk.i64_in _ (by omega)
      have hqi : (q : Int) < n := by omega
      have hx1 : (lookN xs ys (q + 1)).1 = upN ys zq (mn (((1 : Int) + q) - 1) m).toNat := by
        unfold lookN
        simp only [Nat.add_sub_cancel]
        rw [HZQ.out, HY.out, show (((q + 1 : Nat) : Int) - 1) = ((1 : Int) + q) - 1 by omega]
      obtain ⟨p1, hp1⟩ : ∃ p, (lookN xs ys (q + 1)).1 = p := ⟨_, rfl⟩
      obtain ⟨p2, hp2⟩ : ∃ p, (lookN xs ys (q + 1)).2 = p := ⟨_, rfl⟩
      have hx2 : p2 = upN xs (epAt ys p1) (mn (p1 : Int) n).toNat := by
        rw [← hp2, ← hp1, ← HX.out]; rfl
      have hplt : p2 < q + 1 := by rw [← hp2]; exact look_lt (by omega)
      have hp1m : p1 ≤ q := by
        have h1 := upN_le ys zq (mn (((1 : Int) + q) - 1) m).toNat
        have h3 : (mn (((1 : Int) + q) - 1) m).toNat ≤ q := by unfold mn; split <;> omega
        rw [← hx1, hp1] at h1
        omega
      have hover : ∀ j, p2 ≤ j → j + 1 < q + 1 → j < m → ¬ ys.getD j 0 = xs.getD j 0 := by
        intro j hj1 hj2 hj3
        exact look_over (by rw [HX.out]; exact hsx2) (by rw [HY.out]; exact hsy2) (f := q + 1) (by rw [HX.out]; omega) (by rw [hp2]; exact hj1) hj2 (by rw [HY.out]; exact hj3)
      rw [hp1] at hx1
      have H1 := Lib.hid hx1.symm
      have H2 := Lib.hid hx2.symm
      have HO := Lib.hid hover
      clear hx1 hx2 hover hp1 hp2 hsx2 hsy2
      go_wp2_with fail
      go_region_held3 (fun w' => w'.cell? (ad.add q) = some (.int .i64 zq)) (first | exact hcq | go_keep)
        (first
          | (go_at_call_of 23 (Value.slice (some ad) n c); refine (own_any (some ad) n c xs _ (by first | exact hA.kp hkp (by simp) | exact hA.kp hkp.drew (by simp)) (by omega)).mono ?_; rintro e w1 ⟨A2, c2, rfl, hLA, hk2, hc2, -⟩; have hkp : Kp [] w w1 := (by first | exact hkp.trans hk2 | exact hkp.drew.trans hk2); have hcq : w1.cell? (ad.add q) = some (.int .i64 zq) := (by first | exact (hk2.cell (cell_block_lt hcq) (by simp)).trans hcq); clear hk2)
          | (go_at_call_of 23 (Value.slice B m d); refine (own_any B m d ys _ (by first | exact hB.kp hkp (by simp) | exact hB.kp hkp.drew (by simp)) (by omega)).mono ?_; rintro e w1 ⟨A3, c3, rfl, hLB, hk2, hc3, -⟩; have hkp : Kp [] w w1 := (by first | exact hkp.trans hk2 | exact hkp.drew.trans hk2); have hcq : w1.cell? (ad.add q) = some (.int .i64 zq) := (by first | exact (hk2.cell (cell_block_lt hcq) (by simp)).trans hcq); have hLA := hLA.kp hk2 (by simp); clear hk2)
          | (go_at_call 26; refine (hint_to A3 m c3 ys (1 + (q : Int)) zq p1 (epAt ys p1) _ H1.out rfl hLB (by unfold maxLen; omega) (by omega) (by omega)).mono ?_; rintro e w1 ⟨rfl, hk2⟩; have hkp : Kp [] w w1 := hkp.trans hk2; have hcq : w1.cell? (ad.add q) = some (.int .i64 zq) := (hk2.cell (cell_block_lt hcq) (by simp)).trans hcq; have hLA := hLA.kp hk2 (by simp); clear hk2)
          | (go_at_call 28; refine (next_to A2 n c2 xs p1 (epAt ys p1) p2 _ H2.out hLA (by unfold maxLen; omega) (by omega) (by omega)).mono ?_; rintro e w1 ⟨rfl, hk2⟩; have hkp : Kp [] w w1 := hkp.trans hk2; have hcq : w1.cell? (ad.add q) = some (.int .i64 zq) := (hk2.cell (cell_block_lt hcq) (by simp)).trans hcq; clear hk2))
      all_goals
        go_wp2_with fail
        go_loopg [11] (q + 1) (fun gk i wr => ∃ j : Nat, q + 1 - j ≤ gk ∧ i = .int .i64 (j + 1) ∧ p2 ≤ j ∧ j ≤ q ∧ Kp [] w wr)
        case atStart => exact ⟨p2, by omega, rfl, Nat.le_refl _, by omega, hkp⟩
        case round =>
          clear hkp hcq hLA
          obtain ⟨j, hgk, rfl, hj1, hj2, hkp⟩ := hrel
          by_cases hjq : j < q
          · have hjq' : ((j : Int) + 1) < 1 + (q : Int) := by omega
            obtain ⟨ad', had, hcx, hlx⟩ := int_at (hA.kp hkp (by simp)) (show j < n by omega)
            obtain rfl : ad = ad' := by injection had
            have hno := HO.out j hj1 (by omega)
            have HN := Lib.hid hno
            generalize xs.getD j 0 = x0 at *
            have hwj : IntKind.i64.wrap ((j : Int) + 1 - 1) = (j : Int) := by rw [show ((j : Int) + 1 - 1) = (j : Int) by omega]; exact IntWalk.i64_in _ (by omega)
            clear had hno hlx
            by_cases hjm : j < m
            · obtain ⟨bd, rfl, hcy, hly⟩ := int_at (hB.kp hkp (by simp)) hjm
              have hne := HN.out hjm
              generalize ys.getD j 0 = y0 at *
              have hjm' : ((j : Int) + 1) ≤ m := by omega
              have hd1 : decide (((j : Int) + 1) ≤ m) = true := by simpa using hjm'
              have hd2 : (y0 == x0) = false := by rw [beq_eq_false_iff_ne]; exact hne
              clear hne hly
              go_wp2_with fail
              go_quiet (fail)
              go_wp2_with fail
              go_roundg (q + 1 - (j + 1))
              case measure => omega
              case rel => exact ⟨j + 1, by omega, by go_num, by omega, by omega, hkp.drewN _⟩
            · have hd1 : decide (((j : Int) + 1) ≤ m) = false := by simp; omega
              go_wp2_with fail
              go_quiet (fail)
              go_wp2_with fail
              go_roundg (q + 1 - (j + 1))
              case measure => omega
              case rel => exact ⟨j + 1, by omega, by go_num, by omega, by omega, hkp.drewN _⟩
          · go_wp2_with fail
            go_ret
            exact ⟨ret_bool (decide_eq_true (by omega)), hkp⟩

theorem snever_walk (v0 v1 v2 : Value) (w : World) (i0 : In w 35 v0) (i1 : In w 35 v1) (i2 : In w 3 v2) :
    Calls Try.prog 10 #[v0, v1, v2] w (Yes w) := by
  obtain ⟨A, n, c, xs, rfl, hnc, hc, hL, hx, -, -⟩ := rd_slice Try.underlying35 (by kernel_rfl) (in_rd_slice Try.underlying35 i0)
  obtain ⟨zs, rfl, -⟩ := ints_of fun u hu => rd_int Try.underlying3 (hx u hu)
  obtain ⟨B, m, d, us, rfl, hmd, hd, hM, hy, -, -⟩ := rd_slice Try.underlying35 (by kernel_rfl) (in_rd_slice Try.underlying35 i1)
  obtain ⟨ys, rfl, -⟩ := ints_of fun u hu => rd_int Try.underlying3 (hy u hu)
  obtain ⟨f, rfl, -⟩ := in_int Try.underlying3 i2
  by_cases h : NvOut n m
  · exact snever_out A B n c m d f w h
  · have h' : 1 ≤ n ∧ n ≤ 300 ∧ m ≤ 300 := by unfold NvOut at h; omega
    exact snever_in A B n c m d zs ys f w h'.1 h'.2.1 h'.2.2 hL hM
end Go.Proofs.Ytglehfpddhkoeaa
