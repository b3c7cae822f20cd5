/- Package hunt: its calls. -/
import Derived.Test.YtbhhenhabhahdaaSame
import Derived.Test.YtbhhenhabhahdaaSv
namespace Go.Proofs.Ytbhhenhabhahdaa
set_option maxRecDepth 100000
open Go.RowKit
set_option linter.unusedVariables false

def HNew (me : Int) (w : World) (e : Ending) (w' : World) : Prop :=
  ((0 ≤ me ∧ me ≤ 5) ∧ e = .returned (.tuple #[.pointer (some ⟨w.heap.size, 0, none⟩), .int .i64 0]) ∧ At w' w.heap.size 36 #[.int .i64 me, .int .i64 0] ∧ Kp [] w w') ∨
  (¬ (0 ≤ me ∧ me ≤ 5) ∧ e = .returned (.tuple #[.pointer none, .int .i64 1]) ∧ w = w')
set_option maxHeartbeats 1000000 in
theorem hnew_any (me : Int) (w : World) : Calls Try.prog 4 #[.int .i64 me] w (HNew me w) := by
  rcases (show me < 0 ∨ (0 ≤ me ∧ 6 ≤ me) ∨ (0 ≤ me ∧ me < 6) by omega) with h | ⟨h, h'⟩ | ⟨h, h'⟩
  · go_enter Try.func4, Try.ntmps4
    go_wp2
    go_ret2
    exact .inr ⟨by omega, rfl, rfl⟩
  · go_enter Try.func4, Try.ntmps4
    go_wp2
    go_ret2
    exact .inr ⟨by omega, rfl, rfl⟩
  · go_enter Try.func4, Try.ntmps4
    go_wp2
    go_ret2
    exact .inl ⟨⟨h, by omega⟩, rfl, At.new w _ _, (Kp.rfl_ _ _).alloc _⟩
set_option maxHeartbeats 1000000 in
theorem hturn_any (g : Nat) (me t : Int) (w : World) (h : At w g 36 #[.int .i64 me, .int .i64 t]) : Calls Try.prog 8 #[.pointer (some ⟨g, 0, none⟩)] w fun e w' => e = .returned (.int .i64 t) ∧ w = w' := by
  have c1 := h.cell 1
  go_enter Try.func8, Try.ntmps8
  go_wp2_with fail
  go_ret
  exact ⟨rfl, rfl⟩
theorem run_eql_slice_nilS {P : Program} {t e : TypeId} (ht : P.underlying t = some (.slice e)) (a : Addr) (n c : Nat) (w : World) : (binOp .eql t (.slice (some a) n c) (.slice none 0 0)).run P w = .ok (.bool false) w := by
  have e1 : (Op.equal t (.slice (some a) n c) (.slice none 0 0)).run P w = .ok false w := by
    show (Op.equalIn (9999 + 1) t (.slice (some a) n c) (.slice none 0 0)).run P w = .ok false w
    unfold Op.equalIn
    simp [run_underlying ht]
  show (do pure (Value.bool (← Op.equal t (.slice (some a) n c) (.slice none 0 0))) : Sem Value).run P w = _
  rw [Sem.run_bind, e1]
  rfl
set_option maxHeartbeats 1000000 in
theorem sclone_any (ad : Addr) (n c : Nat) (ss : List ByteArray) (w : World) (hL : Ls w (some ad) n (ss.map Value.string)) (hn : n * 16 ≤ 140737488355328) :
    Calls Try.prog 9 #[.slice (some ad) n c] w fun e w' => ∃ A' c', e = .returned (.slice A' n c') ∧ n ≤ c' ∧ c' ≤ maxLen ∧ Ls w' A' n (ss.map Value.string) ∧ (∀ ad, A' = some ad → w.heap.size ≤ ad.block) ∧ Kp [] w w' := by
  have hq := run_eql_slice_nilS (P := Try.prog) Try.underlying22 ad n c w
  go_enter Try.func9, Try.ntmps9
  go_wp2_with (at_builtin; refine wpl_copy_str w rfl _ _ rfl (some ad) n c ss rfl rfl hL (by omega) ?_; intro v2 w2 hown2 hk2; obtain ⟨A2, c2, rfl, hL2, hb2, hc2, hm2⟩ := own_open hown2)
  go_ret
  exact ⟨A2, c2, rfl, hc2, hm2, hL2, hb2, hk2⟩
theorem mid_str {w0 : World} {ad : Addr} {n c l h : Nat} {xs : List Value} (hL : Ls w0 (some ad) n xs) (h1 : l < h) (h2 : h ≤ n) (hc : n ≤ c) :
    (∀ w, (Instr.sliceAt 22 (.slice (some ad) n c) (some (.int .i64 (l : Int))) (some (.int .i64 (h : Int))) none).run Try.prog w = .ok (.slice (some (ad.add l)) (h - l) (c - l)) w) ∧ Ls w0 (some (ad.add l)) (h - l) ((xs.take h).drop l) := by
  have he : Try.prog.underlying 22 = some (.slice (Try.prog.elem 22)) := by rw [elem_str]; exact Try.underlying22
  refine ⟨fun w => ?_, ?_⟩
  · rw [run_sliceAt_slice (h := he), run_slice_lh (ht := he) (kl := .i64) (kh := .i64) (h0 := by omega) (h1 := by omega) (h2 := by omega), elem_str, size_str]
    have hne : ¬ (c = l) := by omega
    simp [Result.andThen, sliced, hne]
  · have := (hL.take h2).drop (k := l) (by omega)
    exact this
/-- What a Tick tells. -/
def tickTo (me t : Nat) (ss : List ByteArray) : Int := if ss = [] then -1 else ((me + 1 + t % 5) % 6 : Nat)
def tickL (t : Nat) (ss : List ByteArray) : List ByteArray := (ss.drop (t / 5 % ((ss.length + 3) / 4) * 4)).take 4
def Ticked (w : World) (g me t : Nat) (ss : List ByteArray) (e : Ending) (w' : World) : Prop :=
  ∃ A' k c', e = .returned (.tuple #[.int .i64 (tickTo me t ss), .slice A' k c']) ∧ k ≤ c' ∧ c' ≤ maxLen ∧ Ls w' A' k ((tickL t ss).map Value.string) ∧ At w' g 36 #[.int .i64 me, .int .i64 (t + 1 : Nat)] ∧ Kp [g] w w'
set_option maxHeartbeats 4000000 in
theorem htick_any (g me t : Nat) (A : Option Addr) (n c : Nat) (ss : List ByteArray) (w : World) (h : At w g 36 #[.int .i64 me, .int .i64 t]) (hme : me ≤ 5) (ht : t ≤ 1000000)
    (hL : Ls w A n (ss.map Value.string)) (hA : 0 < n → ∀ ad, A = some ad → ad.block ≠ g) (hnc : n ≤ c) (hn : n * 16 ≤ 140737488355328) :
    Calls Try.prog 7 #[.pointer (some ⟨g, 0, none⟩), .slice A n c] w (Ticked w g me t ss) := by
  have c0 := h.cell 0
  have c1 := h.cell 1
  have hf := h.frozen 1
  have hlen : ss.length = n := by have := hL.1; simpa using this
  have hs := h.set 1 (.int .i64 (t + 1 : Nat))
  have hks : Kp [g] w (w.setCell ⟨g, 1, none⟩ (.int .i64 (t + 1 : Nat))) := (Kp.rfl_ [g] w).set (by simp) _
  go_enter Try.func7, Try.ntmps7
  by_cases h0 : n = 0
  · subst h0
    have hss : ss = [] := List.eq_nil_of_length_eq_zero hlen
    go_wp2_with fail
    go_ret2
    refine ⟨none, 0, 0, by rw [hss]; rfl, Nat.le_refl _, by unfold maxLen; omega, by rw [hss, show tickL t [] = [] by unfold tickL; simp]; exact Ls.nil_, hs, hks⟩
  · obtain ⟨ad, rfl, hb, hcell⟩ := hL.2 (by omega)
    have hLs := hL.kp hks (by intro _ ad' e; injection e with e; subst e; simp; exact hA (by omega) _ rfl)
    obtain ⟨r, hr⟩ : ∃ r, (n + 3) / 4 = r := ⟨_, rfl⟩
    obtain ⟨q, hq⟩ : ∃ q, t / 5 = q := ⟨_, rfl⟩
    obtain ⟨m, hm⟩ : ∃ m, q % r = m := ⟨_, rfl⟩
    obtain ⟨d, hd⟩ : ∃ d, t % 5 = d := ⟨_, rfl⟩
    obtain ⟨p, hp⟩ : ∃ p, (me + 1 + d) % 6 = p := ⟨_, rfl⟩
    have hmr : m < r := by rw [← hm]; exact Nat.mod_lt _ (by omega)
    have hd5 : d < 5 := by omega
    have hq6 : q ≤ 1000000 := by omega
    have hrn : r ≤ n := by omega
    have hmn : m * 4 < n := by omega
    have f1 : ((n : Int) + 4 - 1).tdiv 4 = (r : Int) := by rw [Int.tdiv_eq_ediv_of_nonneg (by omega)]; omega
    have f2 : (t : Int).tdiv 5 = (q : Int) := by rw [Int.tdiv_eq_ediv_of_nonneg (by omega)]; omega
    have f3 : (q : Int).tmod (r : Int) = (m : Int) := by rw [Int.tmod_eq_emod_of_nonneg (by omega)]; omega
    have f4 : (t : Int).tmod 5 = (d : Int) := by rw [Int.tmod_eq_emod_of_nonneg (by omega)]; omega
    have f5 : ((me : Int) + 1 + (d : Int)).tmod 6 = (p : Int) := by rw [Int.tmod_eq_emod_of_nonneg (by omega)]; omega
    have HT : Hid (tickTo me t ss = (p : Int)) := Lib.hid (by
      have hne : ss ≠ [] := fun e => by rw [e] at hlen; simp at hlen; omega
      unfold tickTo
      rw [if_neg hne, hd, hp])
    have HT2 : Hid (tickL t ss = (ss.drop (m * 4)).take 4) := Lib.hid (by unfold tickL; rw [hlen, hr, hq, hm])
    have HS := Lib.hid hs
    have HLN := Lib.hid hlen
    clear hlen hs hr hq hm hd hp hcell
    by_cases hle : m * 4 + 4 ≤ n
    · obtain ⟨k2, hk2⟩ : ∃ k2, m * 4 + 4 = k2 := ⟨_, rfl⟩
      obtain ⟨hsl, hmid⟩ := mid_str (l := m * 4) (h := k2) hLs (by omega) (by omega) hnc
      have f6 : (m : Int) * 4 + 4 = (k2 : Int) := by omega
      have hmin : (k2 : Int) ≤ (n : Int) := by omega
      go_wp2_with fail
      refine (sclone_any _ _ _ ((ss.take k2).drop (m * 4)) _ (by rw [List.map_drop, List.map_take]; exact hmid) (by omega)).mono ?_
      rintro e w2 ⟨A2, c2, rfl, hc2, hm2, hL2, hb2, hkc⟩
      go_wp2_with fail
      go_ret2
      exact ⟨A2, _, c2, by rw [HT.out]; rfl, hc2, hm2, by rw [HT2.out, show (ss.drop (m * 4)).take 4 = (ss.take k2).drop (m * 4) by rw [List.drop_take, show k2 - m * 4 = 4 by omega]]; exact hL2, HS.out.kp hkc (by simp), hks.then hkc (by simp)⟩
    · obtain ⟨hsl, hmid⟩ := mid_str (l := m * 4) (h := n) hLs (by omega) (by omega) hnc
      have hmin : (n : Int) < (m : Int) * 4 + 4 := by omega
      go_wp2_with fail
      refine (sclone_any _ _ _ ((ss.take n).drop (m * 4)) _ (by rw [List.map_drop, List.map_take]; exact hmid) (by omega)).mono ?_
      rintro e w2 ⟨A2, c2, rfl, hc2, hm2, hL2, hb2, hkc⟩
      go_wp2_with fail
      go_ret2
      exact ⟨A2, _, c2, by rw [HT.out]; rfl, hc2, hm2, by rw [HT2.out, show (ss.drop (m * 4)).take 4 = (ss.take n).drop (m * 4) by rw [List.take_of_length_le (l := ss) (by rw [HLN.out]; exact Nat.le_refl _), List.take_of_length_le (by rw [List.length_drop, HLN.out]; omega)]]; exact hL2, HS.out.kp hkc (by simp), hks.then hkc (by simp)⟩
end Go.Proofs.Ytbhhenhabhahdaa
