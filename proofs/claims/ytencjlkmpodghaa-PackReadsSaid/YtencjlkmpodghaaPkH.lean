/- PackNums, PackTexts. -/
import Derived.Test.YtencjlkmpodghaaAppI
import Derived.Test.YtencjlkmpodghaaPkG
import Derived.Test.YtencjlkmpodghaaBs
namespace Go.Proofs.Ytencjlkmpodghaa
set_option maxRecDepth 100000
open Go.RowKit
set_option linter.unusedVariables false

theorem tot_texts : ∀ (ss : List ByteArray), (∀ s ∈ ss, s.size ≤ 9223372036854775807) → (texts ss).length ≤ 10 * tot ss := by
  intro ss
  induction ss with
  | nil => intro _; simp [texts]
  | cons s ss ih =>
    intro h
    have h1 := ih fun z hz => h z (List.mem_cons_of_mem _ hz)
    have h2 := (numB_len (z := (s.size : Int)) (by omega) (by have := h s (by simp); omega)).2
    unfold texts tot at *
    simp only [List.flatMap_cons, List.length_append, List.map_cons, List.sum_cons, Array.length_toList, ByteArray.size_data]
    omega
def Long (ss : List ByteArray) (w : World) (e : Ending) (w' : World) : Prop := ∃ b : Bool, e = .returned (.bool b) ∧ w = w' ∧ (b = false → tot ss ≤ 16384)
set_option maxRecDepth 100000 in
set_option maxHeartbeats 1000000 in
theorem long_any (A : Option Addr) (n c : Nat) (ss : List ByteArray) (w : World) (hL : Ls w A n (ss.map Value.string)) (hs : ∀ z ∈ ss, z.size ≤ maxLen) (hnc : n ≤ c) (hc : c ≤ maxLen) :
    Calls Try.prog 18 #[.slice A n c] w (Long ss w) := by
  have hlen : ss.length = n := by simpa using hL.1
  have HL := Lib.hid hlen
  clear hlen
  unfold maxLen at hc
  go_enter Try.func18, Try.ntmps18
  go_wp2_with fail
  go_loopg [3, 8] n (fun gk a i wr => ∃ (k acc : Nat), n - k ≤ gk ∧ i = .int .i64 k ∧ a = .int .i64 acc ∧ k ≤ n ∧ acc ≤ 16384 ∧ tot (ss.take k) = acc ∧ w = wr)
  case atStart => exact ⟨0, 0, by omega, rfl, rfl, Nat.zero_le _, by omega, rfl, rfl⟩
  case round =>
    obtain ⟨k, acc, hgk, rfl, rfl, hk, hacc, hto, rfl⟩ := hrel
    have HT := Lib.hid hto
    clear hto
    by_cases hlt : k < n
    · obtain ⟨ad, u, rfl, _, hu, hcw⟩ := hL.at_ hlt
      have hl : k < ss.length := by have := HL.out; omega
      rw [List.getElem?_map, List.getElem?_eq_getElem hl] at hu
      obtain ⟨s, hss⟩ : ∃ s, ss[k] = s := ⟨_, rfl⟩
      have hsz := hs s (by rw [← hss]; exact List.getElem_mem hl)
      unfold maxLen at hsz
      have hst := tot_succ (k := k) (s := s) (by rw [List.getElem?_eq_getElem hl, hss])
      rw [HT.out] at hst
      have HST := Lib.hid hst
      rw [hss] at hu
      obtain rfl : Value.string s = u := by simpa using hu
      clear hst hu hss hl
      by_cases hbig : s.size < 1048576
      · by_cases hov : acc + (1 + s.size) ≤ 16384
        · go_wp2_with fail
          go_roundg (n - (k + 1))
          case measure => omega
          case rel => exact ⟨k + 1, acc + (1 + s.size), by omega, by go_num, by go_num, by omega, hov, HST.out, rfl⟩
        · go_wp2_with fail
          go_ret
          exact ⟨true, rfl, rfl, by simp⟩
      · go_wp2_with fail
        go_ret
        exact ⟨true, rfl, rfl, by simp⟩
    · have hkn : ss.take k = ss := List.take_of_length_le (by have := HL.out; omega)
      rw [hkn] at HT
      go_wp2_with fail
      go_ret
      exact ⟨false, rfl, rfl, fun _ => by have := HT.out; omega⟩

set_option maxHeartbeats 1000000 in
theorem pnums (A : Option Addr) (n c : Nat) (zs : List Int) (w : World) (hL : Ls w A n (zs.map (Value.int .i64))) (hwf : ∀ z ∈ zs, (Lit.int .i64 z).wf = true) (hnc : n ≤ c) (hc : c ≤ maxLen) :
    Calls Try.prog 3 #[.slice A n c] w (Yes w) := by
  unfold maxLen at hc
  go_enter Try.func3, Try.ntmps3
  go_wp2_with fail
  refine (pawake _).mono ?_
  rintro e w1 ⟨rfl, hk1⟩
  by_cases hn : 4096 < n
  · go_wp2_with fail
    refine (pawake _).mono ?_
    rintro e w2 ⟨rfl, hk2⟩
    go_wp2_with fail
    go_ret
    exact ⟨rfl, hk1.trans hk2⟩
  · have hL1 := hL.kp hk1 (by simp)
    obtain ⟨b, hb⟩ : ∃ b, ByteArray.mk (zs.flatMap numB).toArray = b := ⟨_, rfl⟩
    have HB := Lib.hid hb
    clear hb
    go_wp2_with (at_builtin; refine wpl_copy_int w1 rfl _ _ rfl A n c zs rfl rfl hL1 (by omega) ?_; intro A2 c2 w2 hc2 hL2 hA2 hk2)
    refine (nums_to A2 n c2 zs b _ HB.out hL2 hwf (by omega)).mono ?_
    rintro e w3 ⟨rfl, hk3⟩
    have hL3 := (hL1.kp hk2 (by simp)).kp hk3 (by simp)
    go_wp2_with fail
    refine (rnums_to A n c zs b _ HB.out hL3 hwf (by omega)).mono ?_
    rintro e w4 ⟨rfl, hk4⟩
    go_wp2_with fail
    go_ret
    exact ⟨ret_bool (by simp), ((hk1.trans hk2).trans hk3).trans hk4⟩
theorem pnums_walk (v0 : Value) (w : World) (i0 : In w 22 v0) : Calls Try.prog 3 #[v0] w (Yes w) := by
  obtain ⟨A, n, c, zs, rfl, h1, h2, h3, h4⟩ := in_ints i0
  exact pnums A n c zs w h3 h4 h1 h2

set_option maxHeartbeats 1000000 in
theorem ptexts (A : Option Addr) (n c : Nat) (ss : List ByteArray) (w : World) (hL : Ls w A n (ss.map Value.string)) (hs : ∀ z ∈ ss, z.size ≤ maxLen) (hnc : n ≤ c) (hc : c ≤ maxLen) :
    Calls Try.prog 4 #[.slice A n c] w (Yes w) := by
  have hlen : ss.length = n := by simpa using hL.1
  go_enter Try.func4, Try.ntmps4
  go_wp2_with fail
  refine (pawake _).mono ?_
  rintro e w1 ⟨rfl, hk1⟩
  have hL1 := hL.kp hk1 (by simp)
  go_wp2_with fail
  refine (long_any A n c ss _ hL1 hs hnc hc).mono ?_
  rintro e w1' ⟨bl, rfl, rfl, hbl⟩
  cases bl
  · have hto := hbl rfl
    have hn : n ≤ 16384 := by have := tot_len ss; omega
    have htl : (texts ss).length ≤ 163840 := by
      have := tot_texts ss fun s h => by have := hs s h; unfold maxLen at this; omega
      omega
    clear hbl hto hlen
    obtain ⟨b, hb⟩ : ∃ b, ByteArray.mk (texts ss).toArray = b := ⟨_, rfl⟩
    have HB := Lib.hid hb
    have HT := Lib.hid htl
    clear hb htl
    go_wp2_with (at_builtin; refine wpl_copy_str w1 rfl _ _ rfl A n c ss rfl rfl hL1 (by omega) ?_; intro v2 w2 hown2 hk2; obtain ⟨A2, c2, rfl, hL2, -, -, -⟩ := own_open hown2)
    refine (packtext_to A2 n c2 ss b _ HB.out hL2 (by omega) (by have := HT.out; omega)).mono ?_
    rintro e w3 ⟨rfl, hk3⟩
    have hL3 := (hL1.kp hk2 (by simp)).kp hk3 (by simp)
    go_wp2_with fail
    refine (rtexts_to A n c ss b _ HB.out hL3 (by omega) (by have := HT.out; omega)).mono ?_
    rintro e w4 ⟨rfl, hk4⟩
    go_wp2_with fail
    go_ret
    exact ⟨ret_bool (by simp), ((hk1.trans hk2).trans hk3).trans hk4⟩
  · go_wp2_with fail
    refine (pawake _).mono ?_
    rintro e w2 ⟨rfl, hk2⟩
    go_wp2_with fail
    go_ret
    exact ⟨rfl, hk1.trans hk2⟩
theorem ptexts_walk (v0 : Value) (w : World) (i0 : In w 27 v0) : Calls Try.prog 4 #[v0] w (Yes w) := by
  obtain ⟨A, n, c, zs, rfl, h1, h2, h3, h4⟩ := in_strs i0
  exact ptexts A n c zs w h3 h4 h1 h2
end Go.Proofs.Ytencjlkmpodghaa
