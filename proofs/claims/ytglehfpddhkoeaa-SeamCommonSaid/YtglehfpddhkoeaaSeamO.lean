/- The document's own One: lists of one history. -/
import Derived.Test.YtglehfpddhkoeaaSeamR
namespace Go.Proofs.Ytglehfpddhkoeaa
open Go.RowKit
set_option linter.unusedVariables false

def PreTo (xs ys : List Int) (k : Nat) : Prop := ∀ j, j < k → xs.getD j 0 = ys.getD j 0 → ∀ i, i < j → xs.getD i 0 = ys.getD i 0
def LastIs (zs : List Int) (i : Nat) (v : Int) : Prop := ∀ p, i = p + 1 → zs.getD p 0 = v
def SameTo (xs ys : List Int) (k : Nat) : Prop := ∀ i, i < k → xs.getD i 0 = ys.getD i 0
theorem PreTo.yes {xs ys : List Int} {k : Nat} (h : PreTo xs ys k) (hs : SameTo xs ys k) : PreTo xs ys (k + 1) := by
  intro j hj he i hi
  by_cases e : j = k
  · subst e; exact hs i hi
  · exact h j (by omega) he i hi
theorem PreTo.no {xs ys : List Int} {k : Nat} (h : PreTo xs ys k) (hn : ¬ xs.getD k 0 = ys.getD k 0) : PreTo xs ys (k + 1) := by
  intro j hj he i hi
  by_cases e : j = k
  · subst e; exact absurd he hn
  · exact h j (by omega) he i hi
theorem SameTo.step {xs ys : List Int} {k : Nat} (h : SameTo xs ys k) (he : xs.getD k 0 = ys.getD k 0) : SameTo xs ys (k + 1) := by
  intro i hi
  by_cases e : i = k
  · subst e; exact he
  · exact h i (by omega)
theorem Srt.next {zs : List Int} {i : Nat} {v : Int} (h : Srt zs i) (hl : LastIs zs i v) (hz : ¬ zs.getD i 0 < v) : Srt zs (i + 1) := by
  intro p hp
  by_cases e : p + 1 = i
  · have := hl p e.symm
    subst e
    omega
  · exact h p (by omega)
def OneOf (xs ys : List Int) (n m : Nat) : Prop := Srt xs n ∧ Srt ys m ∧ PreTo xs ys (mnN n m)
def OneEnd (xs ys : List Int) (n m : Nat) (w : World) (r : Ending) (w' : World) : Prop := ∃ t : Bool, r = .returned (.bool t) ∧ Kp [] w w' ∧ (t = true → OneOf xs ys n m)

set_option maxRecDepth 100000 in
set_option maxHeartbeats 4000000 in
theorem one_any (A B : Option Addr) (n c m d : Nat) (xs ys : List Int) (w : World) (h2 : n ≤ 300) (h3 : m ≤ 300) (hA : Ls w A n (xs.map (Value.int .i64))) (hB : Ls w B m (ys.map (Value.int .i64))) :
    Calls Try.prog 30 #[.slice A n c, .slice B m d] w (OneEnd xs ys n m w) := by
  go_enter Try.func30, Try.ntmps30
  go_wp2_with fail
  go_loopg [14] 2 (fun gk i wr => ∃ k : Nat, 2 - k ≤ gk ∧ i = .int .i64 k ∧ k ≤ 2 ∧ (1 ≤ k → Srt xs n) ∧ (2 ≤ k → Srt ys m) ∧ Kp [] w wr)
  case atStart => exact ⟨0, by omega, rfl, by omega, fun h => absurd h (by omega), fun h => absurd h (by omega), Kp.rfl_ _ _⟩
  case round =>
    obtain ⟨k, hgk, rfl, hk, hsx, hsy, hkp⟩ := hrel
    by_cases hlt : k < 2
    · obtain ⟨L, nl, cl, zs, hidx, hLs, hnl, hdone⟩ : ∃ (L : Option Addr) (nl cl : Nat) (zs : List Int), (∀ w : World, (Instr.index 46 (.agg #[.slice A n c, .slice B m d]) (.int .i64 (k : Int))).run Try.prog w = .ok (.slice L nl cl) w) ∧
          Ls w L nl (zs.map (Value.int .i64)) ∧ nl ≤ 300 ∧ (Srt zs nl → (1 ≤ k + 1 → Srt xs n) ∧ (2 ≤ k + 1 → Srt ys m)) := by
        by_cases h0 : k = 0
        · subst h0
          exact ⟨A, n, c, xs, fun _ => by kernel_rfl, hA, by omega, fun h => ⟨fun _ => h, fun h => absurd h (by omega)⟩⟩
        · obtain rfl : k = 1 := by omega
          exact ⟨B, m, d, ys, fun _ => by kernel_rfl, hB, by omega, fun h => ⟨fun _ => hsx (by omega), fun _ => h⟩⟩
      have HD := Lib.hid hdone
      have hkb : decide ((k : Int) < 2) = true := by simp; omega
      clear hsx hsy hdone
      obtain ⟨wo, rfl⟩ : ∃ wo : World, wo = wr := ⟨_, rfl⟩
      go_wp2_with fail
      go_loopg [7, 8] nl (fun g2 la i wr => ∃ (j : Nat) (v : Int), nl - j ≤ g2 ∧ la = .int .i64 v ∧ i = .int .i64 j ∧ j ≤ nl ∧ Srt zs j ∧ LastIs zs j v ∧ Kp [] w wr)
      case atStart => exact ⟨0, 1, by omega, rfl, rfl, by omega, fun i hi => absurd hi (by omega), fun p hp => absurd hp (by omega), hkp⟩
      case round =>
        clear hkp hidx
        obtain ⟨j, v, hg2, rfl, rfl, hj, hs, hla, hkp⟩ := hrel
        by_cases hjl : j < nl
        · obtain ⟨ad, rfl, hc0, hl0⟩ := int_at (hLs.kp hkp (by simp)) hjl
          have hst := fun hh => hs.next hla hh
          obtain ⟨z, hz⟩ : ∃ z, zs.getD j 0 = z := ⟨_, rfl⟩
          rw [hz] at hc0 hst
          have hln : LastIs zs (j + 1) z := fun p hp => by obtain rfl : j = p := by omega
                                                           exact hz
          have HST := Lib.hid hst
          clear hst hl0 hz
          by_cases hlt2 : z < v
          · go_wp2_with fail
            go_ret
            exact ⟨false, rfl, hkp, fun h => absurd h (by simp)⟩
          · go_wp2_with fail
            go_roundg (nl - (j + 1))
            case measure => omega
            case rel => exact ⟨j + 1, z, by omega, rfl, by go_num, by omega, HST.out (by omega), hln, hkp⟩
        · have hsn : Srt zs nl := fun i hi => hs i (by omega)
          have HDN := Lib.hid (HD.out hsn)
          clear hsn hs hla
          go_wp2_with fail
          go_roundg (2 - (k + 1))
          case measure => omega
          case rel => exact ⟨k + 1, by omega, by go_num, by omega, HDN.out.1, HDN.out.2, hkp⟩
    · have hsx2 := hsx (by omega)
      have hsy2 := hsy (by omega)
      obtain rfl : k = 2 := by omega
      clear hsx hsy hlt hk
      obtain ⟨wo, rfl⟩ : ∃ wo : World, wo = wr := ⟨_, rfl⟩
      go_wp2_with fail
      go_loopg [9] n (fun g3 i wr => ∃ j : Nat, n - j ≤ g3 ∧ i = .int .i64 j ∧ j ≤ n ∧ j ≤ m ∧ PreTo xs ys j ∧ Kp [] w wr)
      case atStart => exact ⟨0, by omega, rfl, by omega, by omega, fun j hj => absurd hj (by omega), hkp⟩
      case round =>
        clear hkp
        obtain ⟨j, hg3, rfl, hjn, hjm, hpre, hkp⟩ := hrel
        by_cases hl1 : j < n
        · by_cases hl2 : j < m
          · obtain ⟨ad, rfl, hcx, hlx⟩ := int_at (hA.kp hkp (by simp)) hl1
            obtain ⟨bd, rfl, hcy, hly⟩ := int_at (hB.kp hkp (by simp)) hl2
            have hyes := fun hh => hpre.yes hh
            have hno := fun hh => hpre.no hh
            generalize xs.getD j 0 = x at *
            generalize ys.getD j 0 = y at *
            have HY := Lib.hid hyes
            have HN := Lib.hid hno
            clear hyes hno hlx hly hpre
            by_cases he : x = y
            · subst he
              obtain ⟨wo, rfl⟩ : ∃ wo : World, wo = wr := ⟨_, rfl⟩
              go_wp2_with fail
              go_quiet (fail)
              go_wp2_with fail
              go_loopg [10] j (fun g4 i wr => ∃ q : Nat, j - q ≤ g4 ∧ i = .int .i64 q ∧ q ≤ j ∧ SameTo xs ys q ∧ Kp [] w wr)
              case atStart => exact ⟨0, by omega, rfl, by omega, fun i hi => absurd hi (by omega), hkp.drewN _⟩
              case round =>
                clear hkp hcx hcy
                obtain ⟨q, hg4, rfl, hq, hsame, hkp⟩ := hrel
                by_cases hqj : q < j
                · obtain ⟨ad', had, hcx, hlx⟩ := int_at (hA.kp hkp (by simp)) (show q < n by omega)
                  obtain rfl : ad = ad' := by injection had
                  obtain ⟨bd', hbd, hcy, hly⟩ := int_at (hB.kp hkp (by simp)) (show q < m by omega)
                  obtain rfl : bd = bd' := by injection hbd
                  have hstep := fun hh => hsame.step hh
                  have hqn : (q : Int) < n := by omega
                  have hqm : (q : Int) < m := by omega
                  generalize xs.getD q 0 = x2 at *
                  generalize ys.getD q 0 = y2 at *
                  have HS := Lib.hid hstep
                  clear hstep had hbd hlx hly hsame
                  by_cases he2 : x2 = y2
                  · subst he2
                    go_wp2_with fail
                    go_quiet (fail)
                    go_wp2_with fail
                    go_roundg (j - (q + 1))
                    case measure => omega
                    case rel => exact ⟨q + 1, by omega, by go_num, by omega, HS.out (by first | trivial | rfl), hkp.drewN _⟩
                  · have hb2 : (x2 != y2) = true := by rw [bne_iff_ne]; exact he2
                    go_wp2_with fail
                    go_quiet (fail)
                    go_wp2_with fail
                    go_ret
                    exact ⟨false, rfl, hkp.drewN _, fun h => absurd h (by simp)⟩
                · have hqj' : q = j := by omega
                  subst hqj'
                  have HY2 := Lib.hid (HY.out hsame)
                  clear hsame
                  go_wp2_with fail
                  go_roundg (n - (q + 1))
                  case measure => omega
                  case rel => exact ⟨q + 1, by omega, by go_num, by omega, by omega, HY2.out, hkp⟩
            · have hb : (x == y) = false := by rw [beq_eq_false_iff_ne]; exact he
              have HN2 := Lib.hid (HN.out he)
              clear he
              go_wp2_with fail
              go_quiet (fail)
              go_wp2_with fail
              go_roundg (n - (j + 1))
              case measure => omega
              case rel => exact ⟨j + 1, by omega, by go_num, by omega, by omega, HN2.out, hkp.drewN _⟩
          · have hfin : OneOf xs ys n m := ⟨hsx2, hsy2, by have e : mnN n m = j := by unfold mnN; split <;> omega
                                                           rw [e]; exact hpre⟩
            clear hpre
            go_wp2_with fail
            go_ret
            exact ⟨true, rfl, hkp, fun _ => hfin⟩
        · have hfin : OneOf xs ys n m := ⟨hsx2, hsy2, by have e : mnN n m = j := by unfold mnN; split <;> omega
                                                         rw [e]; exact hpre⟩
          clear hpre
          go_wp2_with fail
          go_ret
          exact ⟨true, rfl, hkp, fun _ => hfin⟩
end Go.Proofs.Ytglehfpddhkoeaa
