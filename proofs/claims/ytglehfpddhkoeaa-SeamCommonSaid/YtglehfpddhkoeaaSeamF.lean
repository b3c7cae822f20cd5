/- SeamFinds. -/
import Derived.Test.YtglehfpddhkoeaaSeamO
import Derived.Deep.CutRange
namespace Go.Proofs.Ytglehfpddhkoeaa
open Go.RowKit
set_option linter.unusedVariables false

/-- How many epochs the first n of a list have. -/
def dst (zs : List Int) : Nat → Nat
  | 0 => 0
  | n + 1 => if n = 0 ∨ zs.getD n 0 ≠ zs.getD (n - 1) 0 then dst zs n + 1 else dst zs n
theorem dst_first (zs : List Int) : dst zs 1 = 1 := by simp [dst]
theorem dst_new {zs : List Int} {n : Nat} (h : zs.getD (n + 1) 0 ≠ zs.getD n 0) : dst zs (n + 2) = dst zs (n + 1) + 1 := by
  rw [dst, if_pos (.inr (by simpa using h))]
theorem dst_old {zs : List Int} {n : Nat} (h : zs.getD (n + 1) 0 = zs.getD n 0) : dst zs (n + 2) = dst zs (n + 1) := by
  rw [dst, if_neg]
  rintro (h' | h')
  · omega
  · exact h' (by simpa using h)
theorem dst_le (zs : List Int) : ∀ n, dst zs n ≤ n := by
  intro n
  induction n with
  | zero => simp [dst]
  | succ n ih => rw [dst]; split <;> omega
theorem dst_mono {zs : List Int} : ∀ {b a : Nat}, a ≤ b → dst zs (a + 1) ≤ dst zs (b + 1) ∧ (dst zs (a + 1) = dst zs (b + 1) → zs.getD a 0 = zs.getD b 0) := by
  intro b
  induction b with
  | zero => intro a h; obtain rfl : a = 0 := by omega
            exact ⟨Nat.le_refl _, fun _ => rfl⟩
  | succ b ih =>
    intro a h
    by_cases e : a = b + 1
    · subst e; exact ⟨Nat.le_refl _, fun _ => rfl⟩
    · obtain ⟨h1, h2⟩ := ih (a := a) (by omega)
      by_cases hz : zs.getD (b + 1) 0 = zs.getD b 0
      · rw [dst_old hz]
        exact ⟨h1, fun h => by rw [h2 h, hz]⟩
      · rw [dst_new hz]
        exact ⟨by omega, fun h => by omega⟩
theorem dst_pos (zs : List Int) (a : Nat) : 1 ≤ dst zs (a + 1) := by
  have := (dst_mono (zs := zs) (Nat.zero_le a)).1
  rw [dst_first] at this
  exact this

def Match (xs ys : List Int) (n : Nat) : Prop := n = 0 ∨ (n ≤ ys.length ∧ ys.getD (n - 1) 0 = xs.getD (n - 1) 0)
/-- Above n nothing is the same. -/
def Above (xs ys : List Int) (n : Nat) : Prop := ∀ j, n ≤ j → j < xs.length → j < ys.length → ¬ ys.getD j 0 = xs.getD j 0
/-- What is left of the search's rounds. -/
def Left (xs ys : List Int) (i n E : Nat) : Prop := i + dst xs n + 1 ≤ E ∨ (Match xs ys n ∧ i + 1 ≤ E)

theorem finds_step {xs ys : List Int} {n i E : Nat} (sx : Srt xs xs.length) (sy : Srt ys ys.length) (hn : n + 1 ≤ xs.length) (hm : ¬ Match xs ys (n + 1)) (ha : Above xs ys (n + 1)) (hl : Left xs ys i (n + 1) E) :
    (lookN xs ys (n + 1)).2 ≤ n ∧ Above xs ys (lookN xs ys (n + 1)).2 ∧ Left xs ys (i + 1) (lookN xs ys (n + 1)).2 E := by
  have hlt : (lookN xs ys (n + 1)).2 < n + 1 := look_lt (by omega)
  refine ⟨by omega, ?_, ?_⟩
  · intro j h1 h2 h3
    by_cases e : j = n
    · subst e
      intro he
      exact hm (.inr ⟨by omega, by simpa using he⟩)
    · by_cases e2 : j < n
      · exact look_over sx sy hn h1 (by omega) h3
      · exact ha j (by omega) h2 h3
  · rcases hl with hl | ⟨h, _⟩
    · cases hp : (lookN xs ys (n + 1)).2 with
      | zero =>
        left
        have := dst_pos xs n
        simp only [dst]
        omega
      | succ p =>
        have hmono := dst_mono (zs := xs) (a := p) (b := n) (by omega)
        by_cases he : dst xs (p + 1) = dst xs (n + 1)
        · right
          refine ⟨?_, by have := dst_pos xs n; omega⟩
          have hxe := hmono.2 he
          -- what the taker said
          obtain ⟨k, hk⟩ : ∃ k, (lookN xs ys (n + 1)).1 = k := ⟨_, rfl⟩
          have h2 : (lookN xs ys (n + 1)).2 = upN xs (epAt ys k) (mn (k : Int) xs.length).toNat := by rw [← hk]; rfl
          have h1 : k = upN ys (xs.getD n 0) (mn (((n + 1 : Nat) : Int) - 1) ys.length).toNat := by rw [← hk]; rfl
          have hkn : k ≤ n ∧ k ≤ ys.length := by
            have h3 := upN_le ys (xs.getD n 0) (mn (((n + 1 : Nat) : Int) - 1) ys.length).toNat
            have h4 : (mn (((n + 1 : Nat) : Int) - 1) ys.length).toNat ≤ n ∧ (mn (((n + 1 : Nat) : Int) - 1) ys.length).toNat ≤ ys.length := by unfold mn; split <;> omega
            omega
          have hpk : p + 1 ≤ k := by
            have h3 := upN_le xs (epAt ys k) (mn (k : Int) xs.length).toNat
            have h4 : (mn (k : Int) xs.length).toNat ≤ k := by unfold mn; split <;> omega
            omega
          obtain ⟨q, hq⟩ : ∃ q, k = q + 1 := ⟨k - 1, by omega⟩
          subst hq
          have hyq : ys.getD q 0 ≤ xs.getD n 0 := upN_at h1.symm
          have hep : epAt ys (q + 1) = ys.getD q 0 := by simp [epAt]
          have hxp : xs.getD p 0 ≤ ys.getD q 0 := by rw [← hep]; exact upN_at (h2.symm.trans hp)
          have hye : ys.getD q 0 = xs.getD n 0 := by omega
          have hpq : p = q := by
            by_cases h : p = q
            · exact h
            · have : p + 1 + 1 ≤ (lookN xs ys (n + 1)).2 := by
                rw [h2]
                refine upN_max (by unfold mn; split <;> omega) ?_
                rw [hep, hye]
                exact sx.mono (by omega) (by omega)
              omega
          subst hpq
          exact .inr ⟨by omega, by rw [Nat.add_sub_cancel]; omega⟩
        · left
          omega
    · exact absurd h hm

theorem cmnN_two (xs ys : List Int) (k : Nat) : alikeAt [xs, ys] k = (ys.getD (k - 1) 0 == xs.getD (k - 1) 0) := by
  simp [alikeAt, headL]
theorem cmn_two {xs ys : List Int} {n : Nat} (hp : PreTo xs ys (mnN xs.length ys.length)) (hn : n ≤ xs.length) (hm : Match xs ys n) (ha : Above xs ys n) : cmn [xs, ys] = n := by
  have e : cmn [xs, ys] = cmnN [xs, ys] (mnN xs.length ys.length) := by
    unfold cmn
    congr 1
    simp [lensMin, headL, mnN]
  rw [e]
  have key : ∀ K, K ≤ mnN xs.length ys.length → n ≤ K → cmnN [xs, ys] K = n := by
    intro K
    induction K with
    | zero => intro _ h; simp [cmnN]; omega
    | succ K ih =>
      intro hK hnK
      have hKb : K < xs.length ∧ K < ys.length := by unfold mnN at hK; split at hK <;> omega
      rw [cmnN, cmnN_two]
      by_cases h : n = K + 1
      · subst h
        rcases hm with h | ⟨_, h⟩
        · omega
        · rw [if_pos (by simpa using h)]
      · have := ha K (by omega) hKb.1 hKb.2
        rw [if_neg (by simpa using this)]
        exact ih (by omega) (by omega)
  refine key _ (Nat.le_refl _) ?_
  rcases hm with h | ⟨h, _⟩
  · omega
  · unfold mnN; split <;> omega

theorem far2 {w : World} {p : Addr} {v a b : Value} {g : Nat} (h : w.cell? p = some v) (hne : p.block ≠ g) : ((w.setCell ⟨g, 0, none⟩ a).setCell ⟨g, 1, none⟩ b).cell? p = some v := by
  rw [World.cell?_setCell_other _ _ _ _ (by rintro rfl; exact hne rfl), World.cell?_setCell_other _ _ _ _ (by rintro rfl; exact hne rfl)]
  exact h
theorem rws_two_ {w : World} {l0 l1 : List Int} {A0 A1 : Option Addr} {c0 c1 n0 n1 : Nat} (e0 : l0.length = n0) (e1 : l1.length = n1) (h0 : Ls w A0 n0 (l0.map (Value.int .i64))) (h1 : Ls w A1 n1 (l1.map (Value.int .i64))) (hc0 : n0 ≤ c0) (hc1 : n1 ≤ c1) :
    Rws w (fun _ => True) [l0, l1] [Value.slice A0 n0 c0, Value.slice A1 n1 c1] := by
  subst e0 e1
  exact rws_two h0 h1 hc0 hc1
theorem rcommon_to (A : Option Addr) (n c : Nat) (ls : List (List Int)) (xs : List Value) (ok : Nat → Prop) (k : Nat) (w : World) (hk : cmn ls = k) (hL : Ls w A n xs) (hR : Rws w ok ls xs) (hn : n ≤ 100000) (hlen : ∀ l ∈ ls, l.length ≤ 100000) (h0 : 0 < n) :
    Calls Try.prog 25 #[.slice A n c] w fun r w' => r = .returned (.int .i64 k) ∧ Kp [] w w' :=
  (rcommon_any A n c ls xs ok w hL hR hn hlen h0).mono fun r w' ⟨h1, h2⟩ => ⟨by rw [h1, hk], h2⟩

/-- What the law lets go by its own bounds. -/
def FdOut (n m : Nat) : Prop := 300 < n ∨ (n ≤ 300 ∧ 300 < m)
set_option maxHeartbeats 1000000 in
theorem sfinds_out (A B : Option Addr) (n c m d : Nat) (w : World) (h : FdOut n m) :
    Calls Try.prog 9 #[.slice A n c, .slice B m d] w (Yes w) := by
  rcases h with h | ⟨h, h'⟩
  all_goals
    go_enter Try.func9, Try.ntmps9
    go_wp2_with fail
    refine (sawake _).mono ?_
    rintro e w1 ⟨rfl, hk1⟩
    go_wp2_with fail
    refine (sawake _).mono ?_
    rintro e w2 ⟨rfl, hk2⟩
    go_wp2_with fail
    go_ret
    exact ⟨rfl, hk1.trans hk2⟩

set_option maxRecDepth 100000 in
set_option maxHeartbeats 4000000 in
theorem sfinds_in (A B : Option Addr) (n c m d : Nat) (xs ys : List Int) (w : World) (h2 : n ≤ 300) (h3 : m ≤ 300) (hnc : n ≤ c) (hmd : m ≤ d) (hA : Ls w A n (xs.map (Value.int .i64))) (hB : Ls w B m (ys.map (Value.int .i64))) :
    Calls Try.prog 9 #[.slice A n c, .slice B m d] w (Yes w) := by
  have hxl : xs.length = n := by simpa using hA.1
  have hyl : ys.length = m := by simpa using hB.1
  have HX := Lib.hid hxl
  have HY := Lib.hid hyl
  clear hxl hyl
  go_enter Try.func9, Try.ntmps9
  go_wp2_with fail
  refine (sawake _).mono ?_
  rintro e w1 ⟨rfl, hk1⟩
  go_wp2_with fail
  refine (one_any A B n c m d xs ys _ h2 h3 (hA.kp hk1 (by simp)) (hB.kp hk1 (by simp))).mono ?_
  rintro e w2 ⟨t, rfl, hk2, hone⟩
  have hkp2 : Kp [] w w2 := hk1.trans hk2
  clear hk1 hk2
  cases t with
  | false =>
    go_wp2_with fail
    refine (sawake _).mono ?_
    rintro e w3 ⟨rfl, hk3⟩
    go_wp2_with fail
    go_ret
    exact ⟨rfl, hkp2.trans hk3⟩
  | true =>
    have HONE := Lib.hid (hone rfl)
    clear hone
    go_wp2_with fail
    go_loopg [31, 5] n (fun gk i q wr => ∃ k : Nat, n - k ≤ gk ∧ i = .int .i64 k ∧ q = .int .i64 (1 + dst xs k) ∧ k ≤ n ∧ Kp [] w wr)
    case atStart => exact ⟨0, by omega, rfl, rfl, by omega, hkp2⟩
    case round =>
      clear hkp2
      obtain ⟨k, hgk, rfl, rfl, hk, hkp⟩ := hrel
      by_cases hlt : k < n
      · have hdl := dst_le xs k
        by_cases hk0 : k = 0
        · subst hk0
          have e1 := dst_first xs
          have E1 := Lib.hid e1
          have e0 : dst xs 0 = 0 := rfl
          rw [e0]
          clear e1 e0
          go_wp2_with fail
          go_quiet (fail)
          go_wp2_with fail
          go_roundg (n - 1)
          case measure => omega
          case rel => exact ⟨1, by omega, rfl, by rw [E1.out]; rfl, by omega, hkp.drewN _⟩
        · obtain ⟨p, rfl⟩ : ∃ p, k = p + 1 := ⟨k - 1, by omega⟩
          obtain ⟨ad, rfl, hc0, hl0⟩ := int_at (hA.kp hkp (by simp)) (show p < n by omega)
          obtain ⟨ad', had, hc1, hl1⟩ := int_at (hA.kp hkp (by simp)) hlt
          obtain rfl : ad = ad' := by injection had
          have hc1' : ∀ z, wr.cell? (ad.add (p + 1)) = some (.int .i64 z) → wr.cell? ⟨ad.block, ad.off + (p + 1), none⟩ = some (.int .i64 z) := fun z h => by simpa [Addr.add] using h
          have hc2 := hc1' _ hc1
          have hnew := fun h => dst_new (zs := xs) (n := p) h
          have hold := fun h => dst_old (zs := xs) (n := p) h
          have hpI : ((p : Int) + 1) < n := by omega
          have hpb : ((p : Int) + 1 == 0) = false := by rw [beq_eq_false_iff_ne]; omega
          generalize xs.getD p 0 = z0 at *
          generalize xs.getD (p + 1) 0 = z1 at *
          have HNEW := Lib.hid hnew
          have HOLD := Lib.hid hold
          clear hnew hold had hl0 hl1 hc1 hc1' hk0
          generalize hd0 : dst xs (p + 1) = d0 at *
          by_cases he : z1 = z0
          · have e := HOLD.out he
            have E := Lib.hid e
            subst he
            have hb : (z1 != z1) = false := by simp
            clear e
            go_wp2_with fail
            go_quiet (fail)
            go_wp2_with fail
            go_roundg (n - (p + 1 + 1))
            case measure => omega
            case rel => exact ⟨p + 1 + 1, by omega, by go_num, by rw [E.out], by omega, hkp.drewN _⟩
          · have e := HNEW.out he
            have E := Lib.hid e
            have hb : (z1 != z0) = true := by rw [bne_iff_ne]; exact he
            clear e he
            go_wp2_with fail
            go_quiet (fail)
            go_wp2_with fail
            go_roundg (n - (p + 1 + 1))
            case measure => omega
            case rel => exact ⟨p + 1 + 1, by omega, by go_num, by rw [E.out]; go_num, by omega, hkp.drewN _⟩
      · obtain rfl : k = n := by omega
        obtain ⟨E, hE⟩ : ∃ E, dst xs k + 1 = E := ⟨_, rfl⟩
        have hEI : (1 : Int) + (dst xs k : Int) = (E : Int) := by omega
        rw [hEI]
        have hEb : E ≤ 301 := by have := dst_le xs k; omega
        have hleft : Left xs ys 0 k E := .inl (by omega)
        have habove : Above xs ys k := fun j h1 h2 _ => absurd h2 (by rw [HX.out]; omega)
        clear hEI hE
        obtain ⟨wo, rfl⟩ : ∃ wo : World, wo = wr := ⟨_, rfl⟩
        go_wp2_with fail
        go_loopg [54, 7] E (fun g2 i q wr => ∃ j f : Nat, E - j ≤ g2 ∧ i = .int .i64 j ∧ q = .int .i64 f ∧ j ≤ E ∧ f ≤ k ∧ Left xs ys j f E ∧ Above xs ys f ∧ Kp [] w wr)
        case atStart => exact ⟨0, k, by omega, rfl, rfl, by omega, Nat.le_refl _, hleft, habove, hkp⟩
        case round =>
          clear hleft habove hkp
          obtain ⟨j, f, hg2, rfl, rfl, hj, hf, hleft, habove, hkp⟩ := hrel
          have hjE : j < E := by rcases hleft with h | ⟨_, h⟩ <;> omega
          have hjE' : (j : Int) < E := by omega
          have hlen2 : ∀ l ∈ [xs, ys], l.length ≤ 100000 := by
            intro l hl
            rcases List.mem_cons.1 hl with rfl | hl
            · rw [HX.out]; omega
            · obtain rfl : l = ys := by simpa using hl
              rw [HY.out]; omega
          have HL2 := Lib.hid hlen2
          clear hlen2
          have hpre : PreTo xs ys (mnN xs.length ys.length) := by rw [HX.out, HY.out]; exact HONE.out.2.2
          have hsx : Srt xs xs.length := by rw [HX.out]; exact HONE.out.1
          have hsy : Srt ys ys.length := by rw [HY.out]; exact HONE.out.2.1
          by_cases hf0 : f = 0
          · subst hf0
            have hcm : cmn [xs, ys] = 0 := cmn_two hpre (by omega) (.inl rfl) habove
            have HCM := Lib.hid hcm
            clear hcm hpre hsx hsy hleft habove
            go_wp2_with fail
            go_quiet (fail)
            go_wp2_with fail
            refine (rcommon_to _ 2 2 [xs, ys] [Value.slice A k c, Value.slice B m d] (fun _ => True) 0 _ HCM.out (Ls.of_at (At.new _ _ _)) (rws_two_ HX.out HY.out ((hA.kp (hkp.drewN nq) (by simp)).kp ((Kp.rfl_ [] _).alloc _) (by simp)) ((hB.kp (hkp.drewN nq) (by simp)).kp ((Kp.rfl_ [] _).alloc _) (by simp)) hnc hmd) (by omega) HL2.out (by omega)).mono ?_
            rintro e w5 ⟨rfl, hk5⟩
            go_wp2_with fail
            go_ret
            exact ⟨rfl, ((hkp.drewN nq).alloc _).trans hk5⟩
          · obtain ⟨g, rfl⟩ : ∃ g, f = g + 1 := ⟨f - 1, by omega⟩
            obtain ⟨ad, rfl, hcx, hlx⟩ := int_at (hA.kp hkp (by simp)) (show g < k by omega)
            have hgb : ((g : Int) + 1 == 0) = false := by rw [beq_eq_false_iff_ne]; omega
            have hgw : IntKind.i64.wrap ((g : Int) + 1 - 1) = (g : Int) := by rw [show ((g : Int) + 1 - 1) = (g : Int) by omega]; exact IntWalk.i64_in _ (by omega)
            have hgk' : (g : Int) < k := by omega
            have hgk2 : g < k := by omega
            by_cases hma : Match xs ys (g + 1)
            · have hcm : cmn [xs, ys] = g + 1 := cmn_two hpre (by rw [HX.out]; exact hf) hma habove
              have HCM := Lib.hid hcm
              have hma' : g + 1 ≤ m ∧ ys.getD g 0 = xs.getD g 0 := by
                rcases hma with h | ⟨h, h'⟩
                · omega
                · exact ⟨by rw [← HY.out]; exact h, by simpa using h'⟩
              obtain ⟨hgm, hxy⟩ := hma'
              obtain ⟨bd, rfl, hcy, hly⟩ := int_at (hB.kp hkp (by simp)) (show g < m by omega)
              rw [hxy] at hcy
              generalize xs.getD g 0 = x at *
              have hgm1 : ((g : Int) + 1) ≤ m := by omega
              have hgm2 : (g : Int) < m := by omega
              have hd : decide (((g : Int) + 1) ≤ m) = true := by simpa using hgm1
              clear hxy hcm hpre hsx hsy hleft habove hma hf0 hlx hly
              go_wp2_with fail
              go_quiet (fail)
              go_wp2_with fail
              refine (rcommon_to _ 2 2 [xs, ys] [Value.slice (some ad) k c, Value.slice (some bd) m d] (fun _ => True) (g + 1) _ HCM.out (Ls.of_at (At.new _ _ _)) (rws_two_ HX.out HY.out ((hA.kp (hkp.drewN nq) (by simp)).kp ((Kp.rfl_ [] _).alloc _) (by simp)) ((hB.kp (hkp.drewN nq) (by simp)).kp ((Kp.rfl_ [] _).alloc _) (by simp)) hnc hmd) (by omega) HL2.out (by omega)).mono ?_
              rintro e w5 ⟨rfl, hk5⟩
              go_wp2_with fail
              go_ret
              exact ⟨ret_bool (by simp), ((hkp.drewN nq).alloc _).trans hk5⟩
            · obtain ⟨hs1, hs2, hs3⟩ := finds_step hsx hsy (by rw [HX.out]; exact hf) hma habove hleft
              obtain ⟨x, hx⟩ : ∃ x, xs.getD g 0 = x := ⟨_, rfl⟩
              have hcase : (∃ bd y, B = some bd ∧ wr.cell? (bd.add g) = some (.int .i64 y) ∧ (y == x) = false ∧ decide (((g : Int) + 1) ≤ m) = true ∧ (g : Int) < m) ∨ decide (((g : Int) + 1) ≤ m) = false := by
                by_cases hgm : g + 1 ≤ m
                · obtain ⟨bd, hbd, hcy, hly⟩ := int_at (hB.kp hkp (by simp)) (show g < m by omega)
                  refine .inl ⟨bd, _, hbd, hcy, ?_, by simp; omega, by omega⟩
                  rw [beq_eq_false_iff_ne]
                  intro he
                  exact hma (.inr ⟨by rw [HY.out]; exact hgm, by rw [Nat.add_sub_cancel, hx]; exact he⟩)
                · exact .inr (by simp; omega)
              obtain ⟨p1, hp1⟩ : ∃ p, (lookN xs ys (g + 1)).1 = p := ⟨_, rfl⟩
              obtain ⟨p2, hp2⟩ : ∃ p, (lookN xs ys (g + 1)).2 = p := ⟨_, rfl⟩
              have hx2 : p2 = upN xs (epAt ys p1) (mn (p1 : Int) k).toNat := by rw [← hp2, ← hp1, ← HX.out]; rfl
              have hx1 : p1 = upN ys x (mn (((g : Int) + 1) - 1) m).toNat := by
                rw [← hp1]
                unfold lookN
                simp only [Nat.add_sub_cancel]
                rw [hx, HY.out, show (((g + 1 : Nat) : Int) - 1) = ((g : Int) + 1) - 1 by omega]
              have hp1b : p1 ≤ g := by
                have h5 := upN_le ys x (mn (((g : Int) + 1) - 1) m).toNat
                have h6 : (mn (((g : Int) + 1) - 1) m).toNat ≤ g := by unfold mn; split <;> omega
                omega
              rw [hp2] at hs1 hs2 hs3
              rw [hx] at hcx
              have H1 := Lib.hid hx1.symm
              have H2 := Lib.hid hx2.symm
              have HS2 := Lib.hid hs2
              have HS3 := Lib.hid hs3
              clear hx hp1 hp2 hx1 hx2 hs2 hs3 hpre hsx hsy hleft habove hma hlx hf0
              rcases hcase with ⟨bd, y, rfl, hcy, hyb, hd, hgm2⟩ | hd
              all_goals
                go_wp2_with fail
                go_quiet (fail)
                have hkpq := hkp.drewN nq
                have hcxq : (wr.drewN nq).cell? (ad.add g) = some (.int .i64 x) := hcx
                clear hkp hcx
                generalize wr.drewN nq = wq at *
                have hgw2 : IntKind.i64.wrap (g : Int) = (g : Int) := IntWalk.i64_in _ (by omega)
                go_wp2_with fail
                have hszq := hkpq.size
                have hbq : (ad.add g).block < wq.heap.size := cell_block_lt hcxq
                go_cut [54, 8] from 54 to 104 (fun s54 s8 wc => s54 = .int .i64 j ∧ ∃ g9 : Nat, s8 = .pointer (some ⟨g9, 0, none⟩) ∧ At2 wc g9 p1 (epAt ys p1) ∧ Kp [] w wc)
                case first =>
                  go_region_held3 (fun w' => w'.cell? (ad.add g) = some (.int .i64 x)) (first | exact hcxq | exact hcx1 | exact hcx8 | (refine far2 hcx8 ?_; omega) | go_keep)
                    (first
                      | (go_at_call 23; refine (own_any _ m d ys _ ?_ (by omega)).mono ?_; (first | exact hB.kp hkpq (by simp) | exact hB.kp hkpq.drew (by simp) | exact hB.kp (hkpq.alloc _) (by simp) | exact hB.kp (hkpq.alloc _).drew (by simp)); rintro e w1 ⟨A3, c3, rfl, hLB, hk2, hc3, -⟩; (first | (have hkp1 : Kp [] w w1 := hkpq.trans hk2; have hcx1 : w1.cell? (ad.add g) = some (.int .i64 x) := (hk2.cell (cell_block_lt hcxq) (by simp)).trans hcxq; have hsq : wq.heap.size ≤ w1.heap.size := hk2.size) | (have hkp1 : Kp [] w w1 := hkpq.drew.trans hk2; have hcx1 : w1.cell? (ad.add g) = some (.int .i64 x) := (hk2.cell (cell_block_lt hcxq) (by simp)).trans hcxq; have hsq : wq.heap.size ≤ w1.heap.size := hk2.size) | (have hkp1 : Kp [] w w1 := (hkpq.alloc _).trans hk2; have hcx1 : w1.cell? (ad.add g) = some (.int .i64 x) := (hk2.cell (cell_block_lt (cell_alloc hcxq _)) (by simp)).trans (cell_alloc hcxq _); have ha8 : At2 w1 wq.heap.size 0 0 := At.kp (At.new wq _ _) hk2 (by simp); obtain ⟨c0, c1, f0, f1⟩ := ha8.cells) | (have hkp1 : Kp [] w w1 := (hkpq.alloc _).drew.trans hk2; have hcx1 : w1.cell? (ad.add g) = some (.int .i64 x) := (hk2.cell (cell_block_lt (cell_alloc hcxq _)) (by simp)).trans (cell_alloc hcxq _); have ha8 : At2 w1 wq.heap.size 0 0 := At.kp (At.drew (At.new wq _ _)) hk2 (by simp); obtain ⟨c0, c1, f0, f1⟩ := ha8.cells)); have hsz1 := hkp1.size; clear hk2)
                      | (go_at_call 26; refine (hint_to A3 m c3 ys ((g : Int) + 1) x p1 (epAt ys p1) _ H1.out rfl ?_ (by unfold maxLen; omega) (by omega) (by omega)).mono ?_; (first | exact hLB | exact hLB.kp ((Kp.rfl_ [] w1).alloc _) (by simp)); rintro e w8 ⟨rfl, hk2⟩; (first | (have hkp8 : Kp [] w w8 := hkp1.trans hk2; have hcx8 : w8.cell? (ad.add g) = some (.int .i64 x) := (hk2.cell (cell_block_lt hcx1) (by simp)).trans hcx1; have ha8 : At2 w8 wq.heap.size 0 0 := At.kp ha8 hk2 (by simp); obtain ⟨c0, c1, f0, f1⟩ := ha8.cells) | (have hkp8 : Kp [] w w8 := hkp1.trans hk2; have hcx8 : w8.cell? (ad.add g) = some (.int .i64 x) := (hk2.cell (cell_block_lt hcx1) (by simp)).trans hcx1) | (have hkp8 : Kp [] w w8 := (hkp1.alloc _).trans hk2; have hcx8 : w8.cell? (ad.add g) = some (.int .i64 x) := (hk2.cell (cell_block_lt (cell_alloc hcx1 _)) (by simp)).trans (cell_alloc hcx1 _); have ha8 : At2 w8 w1.heap.size 0 0 := At.kp (At.new w1 _ _) hk2 (by simp); obtain ⟨c0, c1, f0, f1⟩ := ha8.cells)); clear hk2))
                  all_goals
                    go_wp2_with fail
                    go_meet
                    first
                      | exact ⟨rfl, _, rfl, At.new _ _ _, hkp8.alloc _⟩
                      | exact ⟨rfl, _, rfl, At.set (At.set ha8 0 _) 1 _, (hkp8.set (fun h => absurd h (by simp; omega)) _).set (fun h => absurd h (by simp; omega)) _⟩
                case rest =>
                  clear hkpq hcxq hszq hbq
                  obtain ⟨rfl, g9, rfl, ha9, hkp9⟩ := hcut
                  generalize epAt ys p1 = z1 at *
                  obtain ⟨c0, c1, f0, f1⟩ := ha9.cells
                  go_wp2_with fail
                  go_region_held3 (fun w' => w'.cell? ⟨g9, 0, none⟩ = some (.int .i64 p1) ∧ w'.cell? ⟨g9, 1, none⟩ = some (.int .i64 z1)) (first | exact ⟨c0, c1⟩ | go_keep)
                    (first
                      | (go_at_call 23; refine (own_any _ k c xs _ (by first | exact hA.kp hkp9 (by simp) | exact hA.kp hkp9.drew (by simp)) (by omega)).mono ?_; rintro e w10 ⟨A4, c4, rfl, hLA, hk2, hc4, -⟩; have hkp10 : Kp [] w w10 := (by first | exact hkp9.trans hk2 | exact hkp9.drew.trans hk2); have ha10 : At2 w10 g9 p1 z1 := (by first | exact At.kp ha9 hk2 (by simp) | exact At.kp (At.drew ha9) hk2 (by simp)); obtain ⟨c0, c1, -, -⟩ := ha10.cells; clear hk2)
                      | (go_at_call 28; refine (next_to A4 k c4 xs p1 z1 p2 _ H2.out hLA (by unfold maxLen; omega) (by omega) (by omega)).mono ?_; rintro e w11 ⟨rfl, hk2⟩; have hkp11 : Kp [] w w11 := hkp10.trans hk2; have ha11 : At2 w11 g9 p1 z1 := At.kp ha10 hk2 (by simp); obtain ⟨c0, c1, -, -⟩ := ha11.cells; clear hk2))
                  go_wp2_with fail
                  go_roundg (E - (j + 1))
                  case measure => omega
                  case rel => exact ⟨j + 1, p2, by omega, by go_num, rfl, by omega, by omega, HS3.out, HS2.out, hkp11⟩

theorem sfinds_walk (v0 v1 : Value) (w : World) (i0 : In w 35 v0) (i1 : In w 35 v1) :
    Calls Try.prog 9 #[v0, v1] w (Yes w) := by
  obtain ⟨A, n, c, xs, rfl, hnc, hc, hL, hx, -, -⟩ := rd_slice Try.underlying35 (by kernel_rfl) (in_rd_slice Try.underlying35 i0)
  obtain ⟨zs, rfl, -⟩ := ints_of fun u hu => rd_int Try.underlying3 (hx u hu)
  obtain ⟨B, m, d, us, rfl, hmd, hd, hM, hy, -, -⟩ := rd_slice Try.underlying35 (by kernel_rfl) (in_rd_slice Try.underlying35 i1)
  obtain ⟨ys, rfl, -⟩ := ints_of fun u hu => rd_int Try.underlying3 (hy u hu)
  by_cases h : FdOut n m
  · exact sfinds_out A B n c m d w h
  · have h' : n ≤ 300 ∧ m ≤ 300 := by unfold FdOut at h; omega
    exact sfinds_in A B n c m d zs ys w h'.1 h'.2 hnc hmd hL hM
end Go.Proofs.Ytglehfpddhkoeaa
