/- SeamCommon. -/
import Derived.Test.YtglehfpddhkoeaaSeamF
import Derived.Test.YtglehfpddhkoeaaSz
namespace Go.Proofs.Ytglehfpddhkoeaa
open Go.RowKit
set_option linter.unusedVariables false

theorem rws_of {W : World} {B : Nat} : ∀ {xs : List Value}, (∀ u ∈ xs, ∃ (A : Option Addr) (n c : Nat) (zs : List Int), u = .slice A n c ∧ n ≤ c ∧ Ls W A n (zs.map (Value.int .i64)) ∧ n ≤ B) →
    ∃ ls, Rws W (fun _ => True) ls xs ∧ ∀ l ∈ ls, l.length ≤ B := by
  intro xs
  induction xs with
  | nil => intro _; exact ⟨[], ⟨rfl, fun i l h => by simp at h⟩, by simp⟩
  | cons u us ih =>
    intro h
    obtain ⟨A, n, c, zs, rfl, h1, h2, h3⟩ := h u (by simp)
    obtain ⟨ls, h4, h5⟩ := ih fun u hu => h u (List.mem_cons_of_mem _ hu)
    have hz : zs.length = n := by simpa using h2.1
    subst hz
    refine ⟨zs :: ls, ⟨by simp [h4.1], fun i l hl => ?_⟩, fun l hl => ?_⟩
    · cases i with
      | zero =>
        obtain rfl : zs = l := by simpa using hl
        exact ⟨A, c, rfl, h1, h2, fun _ _ _ => trivial⟩
      | succ i => exact h4.2 i l (by simpa using hl)
    · rcases List.mem_cons.1 hl with rfl | hl
      · exact h3
      · exact h5 l hl
theorem Rws.snoc {w : World} {ok : Nat → Prop} {ls : List (List Int)} {xs : List Value} {l : List Int} {A : Option Addr} {c : Nat} (h : Rws w ok ls xs) (hc : l.length ≤ c) (hL : Ls w A l.length (l.map (Value.int .i64))) (ho : 0 < l.length → ∀ ad, A = some ad → ok ad.block) :
    Rws w ok (ls ++ [l]) (xs ++ [Value.slice A l.length c]) := by
  refine ⟨by simp [h.1], fun i l' hl => ?_⟩
  by_cases hi : i < ls.length
  · rw [List.getElem?_append_left hi] at hl
    obtain ⟨A', c', h1, h2, h3, h4⟩ := h.2 i l' hl
    exact ⟨A', c', by rw [List.getElem?_append_left (by rw [h.1]; exact hi)]; exact h1, h2, h3, h4⟩
  · rw [List.getElem?_append_right (by omega)] at hl
    have h0 : i - ls.length = 0 := by
      by_cases h0 : i - ls.length = 0
      · exact h0
      · rw [List.getElem?_eq_none (by simp; omega)] at hl; cases hl
    rw [h0] at hl
    obtain rfl : l = l' := by simpa using hl
    refine ⟨A, c, ?_, hc, hL, ho⟩
    rw [List.getElem?_append_right (by rw [h.1]; omega), h.1, h0]
    rfl

/-- The copies that the law makes: a row of the call's own, whose elements lie in other blocks of its own. -/
def Mine (base : Nat) (w : World) (v : Value) (ls : List (List Int)) (xs : List Value) : Prop :=
  w.ownsRow base 35 1 v xs.length xs ∧ Rws w (fun b => base ≤ b ∧ b < w.heap.size ∧ v.ownBlock ≠ some b) ls xs
theorem Rws.bd {w : World} {ok ok' : Nat → Prop} {ls : List (List Int)} {xs : List Value} (h : Rws w ok ls xs) (ho : ∀ b, b < w.heap.size → ok b → ok' b) : Rws w ok' ls xs := by
  refine ⟨h.1, fun i l hl => ?_⟩
  obtain ⟨A', c', h1, h2, h3, h4⟩ := h.2 i l hl
  exact ⟨A', c', h1, h2, h3, fun h0 ad had => ho _ (h3.off h0 ad had) (h4 h0 ad had)⟩
theorem Mine.step {w0 wr w5 w6 : World} {v v' : Value} {ls : List (List Int)} {xs : List Value} {l : List Int} {A : Option Addr} {c : Nat} {o : Obj} (h : Mine w0.heap.size wr v ls xs) (k0 : Kp [] w0 wr) (hk5 : Kp [] wr w5) (hc : l.length ≤ c)
    (hL : Ls w5 A l.length (l.map (Value.int .i64))) (hA : ∀ ad, A = some ad → wr.heap.size ≤ ad.block) (hown : w6.ownsRow w0.heap.size 35 1 v' (xs.length + 1) (xs ++ [Value.slice A l.length c])) (hg : (w5.alloc o).grownBy w6 v.ownBlock)
    (hat : v'.ownBlock = v.ownBlock ∨ v'.ownBlock = some (w5.alloc o).heap.size) : Mine w0.heap.size w6 v' (ls ++ [l]) (xs ++ [Value.slice A l.length c]) ∧ Kp [] w0 w6 := by
  have hb := k0.size
  have hsz : (w5.alloc o).heap.size = w5.heap.size + 1 := by simp
  have hsz6 := hg.size
  have hsz5 := hk5.size
  have hvb : ∀ g, v.ownBlock = some g → g < wr.heap.size := fun g e => (own_block_lt h.1 e).2
  have k5 : Kp [] wr (w5.alloc o) := hk5.alloc o
  obtain ⟨S, hS, hk6⟩ : ∃ S : List Nat, (∀ b ∈ S, v.ownBlock = some b) ∧ Kp S (w5.alloc o) w6 := by
    cases e : v.ownBlock with
    | none => exact ⟨[], by simp, Kp.of_grown hg (by rw [e]; simp)⟩
    | some g => exact ⟨[g], by simp, Kp.of_grown hg (by rw [e]; simp)⟩
  refine ⟨⟨by simpa using hown, ?_⟩, (k0.trans k5).then hk6 fun x hx hlt => by
    have := (own_block_lt h.1 (hS x hx)).1
    omega⟩
  have e1 := (h.2.kp k5 (ok' := fun b => w0.heap.size ≤ b ∧ b < w5.heap.size + 1 ∧ v.ownBlock ≠ some b) (by simp) (fun b hb => ⟨hb.1, by have := hb.2.1; omega, hb.2.2⟩))
  have e2 : Rws w6 (fun b => w0.heap.size ≤ b ∧ b < w6.heap.size ∧ v'.ownBlock ≠ some b) ls xs := e1.kp hk6 (fun b hb hm => hb.2.2 (hS b hm)) (fun b hb => ⟨hb.1, by have := hb.2.1; omega, by
    rcases hat with e | e
    · rw [e]; exact hb.2.2
    · rw [e]; intro e'; injection e' with e'; have := hb.2.1; omega⟩)
  have e3 : Ls w6 A l.length (l.map (Value.int .i64)) := (hL.kp ((Kp.rfl_ [] _).alloc o) (by simp)).kp hk6 fun h0 ad had hm => by
    have h1 := hS _ hm
    have h2 := hvb _ h1
    have h3 := hA ad had
    omega
  refine e2.snoc hc e3 fun h0 ad had => ?_
  have h3 := hA ad had
  have h4 := hL.off h0 ad had
  refine ⟨by omega, by omega, ?_⟩
  rcases hat with e | e
  · rw [e]; intro e'; have := hvb _ e'; omega
  · rw [e]; intro e'; injection e' with e'; omega
theorem Mine.kp {base : Nat} {w w' : World} {v : Value} {ls : List (List Int)} {xs : List Value} (h : Mine base w v ls xs) (k : Kp [] w w') : Mine base w' v ls xs :=
  ⟨own_kp h.1 k (by simp), h.2.kp k (by simp) fun b hb => ⟨hb.1, by have := hb.2.1; have := k.size; omega, hb.2.2⟩⟩
theorem Mine.nil_ (base : Nat) (w : World) : Mine base w (.slice none 0 0) [] [] := ⟨own_none w base _, ⟨rfl, fun i l h => by simp at h⟩⟩
theorem info_ints : (Try.prog.info? 35).map (fun i => (i.zero, i.size, i.bytes)) = some (some (.slice none 0 0), 1, 24) := by kernel_rfl

def ShortTo (ls : List (List Int)) (k : Nat) : Prop := ∀ (j : Nat) (l : List Int), j < k → ls[j]? = some l → l.length ≤ 2000
theorem ShortTo.step {ls : List (List Int)} {k : Nat} {l : List Int} (h : ShortTo ls k) (hl : ls[k]? = some l) (hs : l.length ≤ 2000) : ShortTo ls (k + 1) := by
  intro j l' hj hl'
  by_cases e : j = k
  · subst e; rw [hl] at hl'; injection hl' with hl'; subst hl'; exact hs
  · exact h j l' (by omega) hl'
theorem take_snoc_ {ls : List (List Int)} {k : Nat} {l : List Int} (h : ls[k]? = some l) : ls.take k ++ [l] = ls.take (k + 1) := by
  rw [List.take_add_one, h]; rfl

set_option maxRecDepth 100000 in
set_option maxHeartbeats 4000000 in
theorem scommon_in (A : Option Addr) (n c : Nat) (ls : List (List Int)) (xs : List Value) (w : World) (hL : Ls w A n xs) (hR : Rws w (fun _ => True) ls xs) (hn : n ≤ 5864062014805) (hlen : ∀ l ∈ ls, l.length ≤ 17592186044416) :
    Calls Try.prog 7 #[.slice A n c] w (Yes w) := by
  have hnl : ls.length = n := by rw [← hR.1]; exact hL.1
  have HNL := Lib.hid hnl
  clear hnl
  go_enter Try.func7, Try.ntmps7
  go_wp2_with fail
  go_loopg [13, 3] n (fun gk i q wr => ∃ (k : Nat) (s : Nat), n - k ≤ gk ∧ i = .int .i64 k ∧ q = .int .i64 s ∧ k ≤ n ∧ n ≤ s ∧ (k = 0 → s = n) ∧ (0 < k → s ≤ 2000) ∧ ShortTo ls k ∧ w = wr)
  case atStart => exact ⟨0, n, by omega, rfl, rfl, by omega, by omega, fun _ => rfl, fun h => absurd h (by omega), fun j l hj => absurd hj (by omega), rfl⟩
  case round =>
    obtain ⟨k, s, hgk, rfl, rfl, hk, hns, hs0, hs1, hsh, rfl⟩ := hrel
    by_cases hlt : k < n
    · obtain ⟨ad, A1, c1, l1, rfl, hl1, hcell1, hlc1, hL1⟩ := hR.at_ hL hlt
      have hb1 := hlen l1 (List.mem_of_getElem? hl1)
      have hst := fun h => hsh.step hl1 h
      have hsb : s ≤ 5864062014805 := by
        by_cases h : k = 0
        · have := hs0 h; omega
        · have := hs1 (by omega); omega
      have HST := Lib.hid hst
      generalize l1.length = n1 at *
      clear hst hl1 hL1 hsh hs0 hs1
      by_cases hbig : 2000 < s + n1
      · go_wp2_with fail
        refine (sawake _).mono ?_
        rintro e w2 ⟨rfl, hk2⟩
        go_wp2_with fail
        go_ret
        exact ⟨rfl, hk2⟩
      · go_wp2_with fail
        go_roundg (n - (k + 1))
        case measure => omega
        case rel => exact ⟨k + 1, s + n1, by omega, by go_num, by go_num, by omega, by omega, fun h => absurd h (by omega), fun _ => by omega, HST.out (by omega), rfl⟩
    · have hk' : k = n := by omega
      subst hk'
      have hs2 : s ≤ 2000 := by
        by_cases h : k = 0
        · have := hs0 h; omega
        · exact hs1 (by omega)
      have hshort : ∀ l ∈ ls, l.length ≤ 2000 := by
        intro l hl
        obtain ⟨j, hj, rfl⟩ := List.getElem_of_mem hl
        exact hsh j _ (by have := HNL.out; omega) (List.getElem?_eq_getElem hj)
      have HSH := Lib.hid hshort
      clear hs0 hs1 hsh hshort hlen
      go_wp2_with fail
      go_loopg [27, 6] k (fun g2 i v wr => ∃ (j : Nat) (ys : List Value), k - j ≤ g2 ∧ i = .int .i64 j ∧ j ≤ k ∧ ys.length = j ∧ Mine w.heap.size wr v (ls.take j) ys ∧ Kp [] w wr)
      case atStart => exact ⟨0, [], by omega, rfl, by omega, rfl, Mine.nil_ _ _, Kp.rfl_ _ _⟩
      case round =>
        obtain ⟨j, ys, hg2, rfl, hj, hyl, hmine, hkp⟩ := hrel
        by_cases hjk : j < k
        · obtain ⟨ad, A1, c1, l1, rfl, hl1, hcell1, hlc1, hL1⟩ := (hR.kp hkp (by simp) (fun _ h => h)).at_ (hL.kp hkp (by simp)) hjk
          have hb1 := HSH.out l1 (List.mem_of_getElem? hl1)
          have HT := Lib.hid (take_snoc_ hl1)
          have HYL := Lib.hid hyl
          clear hl1 hyl
          go_wp2_with fail
          refine (own_any A1 l1.length c1 l1 _ hL1 (by omega)).mono ?_
          rintro e w5 ⟨A5, c5, rfl, hL5, hk5, hc5, hA5⟩
          obtain ⟨i0, hi, hz, hz1, hz2⟩ := info_parts info_ints
          have hm5 := hmine.kp hk5
          have hown5 : (w5.alloc (.cells #[.slice A5 l1.length c5] 35)).ownsRow w.heap.size 35 1 _ ys.length ys := own_kp hm5.1 ((Kp.rfl_ [] _).alloc _) (by simp)
          have hszb := hkp.size
          have hszk := hk5.size
          have hyb : ys.length ≤ 2000 := by have := HYL.out; omega
          have hone : ∀ u ∈ [Value.slice A5 l1.length c5], u.oneCell' = true := by
            intro u hu
            obtain rfl : u = Value.slice A5 l1.length c5 := by simpa using hu
            rfl
          have h63 : ys.length + 1 ≤ maxLen := by unfold maxLen; omega
          have hby : (ys.length + 1) * 24 ≤ 140737488355328 := by omega
          have hbase : w.heap.size ≤ (w5.alloc (.cells #[.slice A5 l1.length c5] 35)).heap.size := by simp; omega
          go_wp2_with (at_builtin; go_must (refine wpl_app _ rfl _ _ 34 rfl w.heap.size 35 i0 _ 24 Try.underlying34 hi hz hz1 hz2 rfl _ ys.length ys rfl hown5 (some ⟨w5.heap.size, 0, none⟩) 1 1 [Value.slice A5 l1.length c5] rfl (Ls.of_at (At.new w5 _ _)) hone h63 hby hbase ?_); intro v6 w6 hown6 hg6 hat6)
          have hst := Mine.step hmine hkp hk5 hc5 hL5 hA5 hown6 hg6 hat6
          rw [HT.out] at hst
          go_roundg (k - (j + 1))
          case measure => omega
          case rel => exact ⟨j + 1, _, by omega, by go_num, by omega, by simp [HYL.out], hst.1, hst.2⟩
        · have hjk' : j = k := by omega
          subst hjk'
          have hall : ls.take j = ls := List.take_of_length_le (by have := HNL.out; omega)
          rw [hall] at hmine
          have HYL := Lib.hid hyl
          clear hall hyl
          go_wp2_with fail
          refine (sawake _).mono ?_
          rintro e w7 ⟨rfl, hk7⟩
          have hm7 := hmine.kp hk7
          have hkp7 := hkp.trans hk7
          obtain ⟨A7, c7, hv7, hL7, -, -, -⟩ := own_open hm7.1
          clear hmine hkp hk7
          subst hv7
          have hyb := HYL.out
          by_cases hj0 : j = 0
          · subst hj0
            obtain rfl : ys = [] := List.eq_nil_of_length_eq_zero hyb
            clear hyb
            go_wp2_with fail
            refine (common_nil _ _ _).mono ?_
            rintro e w8 ⟨rfl, hk8⟩
            go_wp2_with fail
            refine (rcommon_nil _ _ _).mono ?_
            rintro e w9 ⟨rfl, hk9⟩
            go_wp2_with fail
            go_ret
            exact ⟨rfl, (hkp7.trans hk8).trans hk9⟩
          · have hl2 : ∀ l ∈ ls, l.length ≤ 100000 := fun l hl => by have := HSH.out l hl; omega
            have HL2 := Lib.hid hl2
            have hy1 : 0 < ys.length := by omega
            have hy2 : ys.length ≤ 100000 := by omega
            obtain ⟨q, hq⟩ : ∃ q, cmn ls = q := ⟨_, rfl⟩
            have HQ := Lib.hid hq
            clear hyb hl2 hq
            go_wp2_with fail
            refine (common_to A7 ys.length c7 ls ys _ q _ HQ.out hL7 hm7.2 hy2 HL2.out hy1).mono ?_
            rintro e w8 ⟨rfl, hk8⟩
            have hkp8 := hkp7.trans hk8
            go_wp2_with fail
            refine (rcommon_to A j c ls xs _ q _ HQ.out (hL.kp hkp8 (by simp)) (hR.kp hkp8 (by simp) fun _ h => h) (by omega) HL2.out (by omega)).mono ?_
            rintro e w9 ⟨rfl, hk9⟩
            go_wp2_with fail
            go_ret
            exact ⟨rfl, hkp8.trans hk9⟩

theorem scommon_walk (v : Value) (w : World) (i : InS w 34 v) : Calls Try.prog 7 #[v] w (Yes w) := by
  obtain ⟨A, n, c, xs, rfl, hnc, hc, hb, hL, hx⟩ := rds_slice Try.underlying34 (by kernel_rfl) (in_rds_slice Try.underlying34 i)
  have hb1 : Try.prog.bytesOf 35 = 24 := by kernel_rfl
  have hb2 : Try.prog.bytesOf 3 = 8 := by kernel_rfl
  have hr : reachBytes = 140737488351232 := by decide
  rw [hb1, hr] at hb
  obtain ⟨ls, hR, hl⟩ := rws_of (B := 17592186044416) (xs := xs) (W := w) fun u hu => by
    obtain ⟨A', n', c', ys, rfl, h1, h2, h3, h4, h5⟩ := rds_slice Try.underlying35 (by kernel_rfl) (hx u hu)
    obtain ⟨zs, rfl, -⟩ := ints_of fun u hu => rd_int Try.underlying3 (h5 u hu).rd
    rw [hb2, hr] at h3
    exact ⟨A', n', c', zs, rfl, h1, h4, by omega⟩
  exact scommon_in A n c ls xs w hL hR (by omega) hl
end Go.Proofs.Ytglehfpddhkoeaa
