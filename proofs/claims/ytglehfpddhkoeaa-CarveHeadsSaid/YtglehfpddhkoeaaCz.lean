/- The laws of carve. -/
import Derived.Test.YtglehfpddhkoeaaCy
import Derived.OwnWalk
namespace Go.Proofs.Ytglehfpddhkoeaa
open Go.RowKit
set_option linter.unusedVariables false

set_option maxRecDepth 100000 in
set_option maxHeartbeats 2000000 in
theorem rfits_any (A : Option Addr) (n c : Nat) (ss : List ByteArray) (w : World) (hA : Ls w A n (ss.map Value.string)) (hn : n ≤ 1099511627776) :
    Calls Try.prog 21 #[.slice A n c] w (FitSays ss w) := by
  have h1 : ss.length = n := by simpa using hA.1
  have H1 := Lib.hid h1
  clear h1
  go_enter Try.func21, Try.ntmps21
  go_wp2_with fail
  go_loopg [3] n (fun gk i wr => ∃ k : Nat, n - k ≤ gk ∧ i = .int .i64 k ∧ k ≤ n ∧ Kp [] w wr ∧ ∀ j, j < k → FitAt ss j)
  case atStart => exact ⟨0, by omega, rfl, Nat.zero_le _, Kp.rfl_ _ _, fun j h => absurd h (by omega)⟩
  case round =>
    obtain ⟨k, hgk, rfl, hk, hkp, hfa⟩ := hrel
    have HFA := Lib.hid hfa
    clear hfa
    by_cases hlt : k < n
    · obtain ⟨ad, z, rfl, hz, hc⟩ := (hA.kp hkp (by simp)).str_at hlt
      have HZ := Lib.hid hz
      clear hz
      have hstep : (1 ≤ z.size ∧ z.size ≤ 64 ∧ (k + 1 < n → 64 ≤ z.size)) → ∀ j, j < k + 1 → FitAt ss j := fun h j hj => by
        by_cases e : j < k
        · exact HFA.out j e
        · obtain rfl : j = k := by omega
          intro z' hz'
          rw [HZ.out] at hz'
          injection hz' with hz'
          subst hz'
          rw [H1.out]
          exact h
      have HST := Lib.hid hstep
      clear hstep
      have hlw : IntKind.i64.wrap ((n : Int) - 1) = (n : Int) - 1 := IntWalk.i64_in _ (by omega)
      by_cases hbig : 64 < z.size
      · have hno := Lib.hid (fit_no HZ.out (fun h => by omega))
        have hbi : (64 : Int) < (z.size : Int) := by omega
        have hbi2 : ¬ (z.size : Int) < 1 := by omega
        go_wp2_with fail
        go_ret
        exact .no rfl hno.out hkp
      · have hbi : ¬ (64 : Int) < (z.size : Int) := by omega
        by_cases hz0 : z.size = 0
        · have hno := Lib.hid (fit_no HZ.out (fun h => by omega))
          have h0 : (z.size : Int) < 1 := by omega
          clear hz0
          go_wp2_with fail
          go_ret
          exact .no rfl hno.out hkp
        · have h0 : ¬ (z.size : Int) < 1 := by omega
          by_cases hla : k + 1 = n
          · have hl : ¬ (k : Int) < (n : Int) - 1 := by omega
            have HS2 := Lib.hid (HST.out ⟨by omega, by omega, by omega⟩)
            have hk1 : k + 1 ≤ n := by omega
            clear hla HST
            go_wp2_with fail
            go_roundg (n - (k + 1))
            case measure => omega
            case rel => exact ⟨k + 1, by omega, by go_num, by omega, hkp, HS2.out⟩
          · have hl : (k : Int) < (n : Int) - 1 := by omega
            by_cases h64 : z.size < 64
            · have hno := Lib.hid (fit_no HZ.out (fun h => by have := h.2.2 (by rw [H1.out]; omega); omega))
              have h6 : (z.size : Int) < 64 := by omega
              go_wp2_with fail
              go_ret
              exact .no rfl hno.out hkp
            · have h6 : ¬ (z.size : Int) < 64 := by omega
              have HS2 := Lib.hid (HST.out ⟨by omega, by omega, by omega⟩)
              clear HST
              go_wp2_with fail
              go_roundg (n - (k + 1))
              case measure => omega
              case rel => exact ⟨k + 1, by omega, by go_num, by omega, hkp, HS2.out⟩
    · have hf : Fit ss := fun i => by
        by_cases e : i < k
        · exact HFA.out i e
        · intro z hz
          have := (List.getElem?_eq_some_iff.1 hz).1
          have := H1.out
          omega
      have HF := Lib.hid hf
      clear hf
      go_wp2_with fail
      go_ret
      exact .yes rfl HF.out hkp

def Many (ss : List ByteArray) (w : World) (e : Ending) (w' : World) : Prop := ∃ b : Bool, e = .returned (.bool b) ∧ w = w' ∧ (b = false → tot ss ≤ 8192)
set_option maxRecDepth 100000 in
set_option maxHeartbeats 1000000 in
theorem many_any (A : Option Addr) (n c : Nat) (ss : List ByteArray) (w : World) (hL : Ls w A n (ss.map Value.string)) (hs : ∀ z ∈ ss, z.size ≤ maxLen) (hnc : n ≤ c) (hc : c ≤ maxLen) :
    Calls Try.prog 17 #[.slice A n c] w (Many ss w) := by
  have hlen : ss.length = n := by simpa using hL.1
  have HL := Lib.hid hlen
  clear hlen
  unfold maxLen at hc
  go_enter Try.func17, Try.ntmps17
  go_wp2_with fail
  go_loopg [3, 8] n (fun gk a i wr => ∃ (k acc : Nat), n - k ≤ gk ∧ i = .int .i64 k ∧ a = .int .i64 acc ∧ k ≤ n ∧ acc ≤ 8192 ∧ tot (ss.take k) = acc ∧ w = wr)
  case atStart => exact ⟨0, 0, by omega, rfl, rfl, Nat.zero_le _, by omega, rfl, rfl⟩
  case round =>
    obtain ⟨k, acc, hgk, rfl, rfl, hk, hacc, hto, rfl⟩ := hrel
    have HT := Lib.hid hto
    clear hto
    by_cases hlt : k < n
    · obtain ⟨ad, s, rfl, hsk, hcw⟩ := hL.str_at hlt
      have hsz := hs s (List.mem_of_getElem? hsk)
      unfold maxLen at hsz
      have hst := tot_succ hsk
      rw [HT.out] at hst
      have HST := Lib.hid hst
      clear hst hsk
      by_cases hbig : s.size < 1048576
      · by_cases hov : acc + (1 + s.size) ≤ 8192
        · go_wp2_with fail
          go_roundg (n - (k + 1))
          case measure => omega
          case rel => exact ⟨k + 1, acc + (1 + s.size), by omega, by go_num, by go_num, by omega, hov, HST.out, rfl⟩
        · go_wp2_with fail
          go_ret
          exact ⟨true, rfl, rfl, by simp⟩
      · go_wp2_with fail
        go_ret
        exact ⟨true, rfl, rfl, by simp⟩
    · have hkn : ss.take k = ss := List.take_of_length_le (by have := HL.out; omega)
      rw [hkn] at HT
      go_wp2_with fail
      go_ret
      exact ⟨false, rfl, rfl, fun _ => by have := HT.out; omega⟩

theorem fits_to (A : Option Addr) (n c : Nat) (ss : List ByteArray) (b : Bool) (w : World) (hb : b = true ↔ Fit ss) (hA : Ls w A n (ss.map Value.string)) (hn : n ≤ 1099511627776) :
    Calls Try.prog 19 #[.slice A n c] w fun e w' => e = .returned (.bool b) ∧ Kp [] w w' :=
  (fits_any A n c ss w hA hn).mono fun e w' ⟨b', h1, h2, h3⟩ => ⟨by rw [h1, show b' = b from Bool.eq_iff_iff.2 (h2.trans hb.symm)], h3⟩
theorem fits_yes (A : Option Addr) (n c : Nat) (ss : List ByteArray) (w : World) (hb : Fit ss) (hA : Ls w A n (ss.map Value.string)) (hn : n ≤ 1099511627776) :
    Calls Try.prog 19 #[.slice A n c] w fun e w' => e = .returned (.bool true) ∧ Kp [] w w' := fits_to A n c ss true w ⟨fun _ => hb, fun _ => rfl⟩ hA hn
theorem rfits_to (A : Option Addr) (n c : Nat) (ss : List ByteArray) (b : Bool) (w : World) (hb : b = true ↔ Fit ss) (hA : Ls w A n (ss.map Value.string)) (hn : n ≤ 1099511627776) :
    Calls Try.prog 21 #[.slice A n c] w fun e w' => e = .returned (.bool b) ∧ Kp [] w w' :=
  (rfits_any A n c ss w hA hn).mono fun e w' ⟨b', h1, h2, h3⟩ => ⟨by rw [h1, show b' = b from Bool.eq_iff_iff.2 (h2.trans hb.symm)], h3⟩
theorem made_bytes (n : Nat) : (madeCells (Value.int .u8 0).cells (n * 1)).toList = Lib.byteCells (List.replicate n 0) := by
  rw [Nat.mul_one, show (Value.int .u8 0).cells = #[Value.int .u8 0] from rfl, toList_madeCells_one]
  simp [Lib.byteCells]
theorem made_conv {base g n : Nat} {w : World} {l : List UInt8} (h : w.ownsRow base 5 1 (.slice (some ⟨g, 0, none⟩) n n) n (madeCells (Value.int .u8 0).cells (n * 1)).toList) (hl : List.replicate n 0 = l) :
    (convert 49 9 (.slice (some ⟨g, 0, none⟩) n n)).run Try.prog w = .ok (.string (bs l)) w := by
  have hn : l.length = n := by rw [← hl]; simp
  rw [made_bytes, hl] at h
  have := conv_bytes (l := l) (v := .slice (some ⟨g, 0, none⟩) n n) (base := base) (w := w) (by rw [hn]; exact h)
  exact this
theorem fit_ab : false = true ↔ Fit [ByteArray.mk #[97], ByteArray.mk #[98]] := ⟨(fun h => by cases h), (fun h => by have := (h 0 _ rfl).2.2 (by decide); exact absurd this (by decide))⟩
theorem fit_nil : true = true ↔ Fit [] := ⟨fun _ i z h => by simp at h, fun _ => rfl⟩
theorem join_ab : bs (flat [ByteArray.mk #[97], ByteArray.mk #[], ByteArray.mk #[98]]) = ByteArray.mk #[97, 98] := by decide
set_option maxHeartbeats 4000000 in
theorem vawake (w : World) : Calls Try.prog 11 #[] w (Yes w) := by
  obtain ⟨i0, hi0, hz0, hz1, hz2⟩ := info_parts info_u8
  obtain ⟨l, hl⟩ : ∃ l : List UInt8, List.replicate 65 0 = l := ⟨_, rfl⟩
  have hll : l.length = 65 := by rw [← hl]; rfl
  have h65 : (bs l).size = 65 := by rw [bs_size, hll]
  go_enter Try.func11, Try.ntmps11
  go_wp2_with (at_make; go_must (refine wpList_make_full _ rfl _ _ 49 rfl w.heap.size 5 i0 _ 1 Try.underlying49 hi0 hz0 hz1 .i64 .i64 65 65 65 rfl rfl rfl rfl (by rw [hz2]; decide) (by decide) (Nat.le_refl _) ?_); intro w3 hown3 hg3; have hcv := made_conv hown3 hl)
  have hk3 : Kp [] w w3 := Kp.of_grown hg3 (by simp)
  have hx : ∃ x, bs l = x := ⟨_, rfl⟩
  obtain ⟨x, hx⟩ := hx
  rw [hx] at h65 ⊢
  have hxl : x.data.toList = l := by rw [← hx]; rfl
  clear hown3 hg3 hcv
  refine (cut_any x _ (by omega)).mono ?_
  rintro e w4 ⟨v4, rfl, hown4, hk4⟩
  rw [h65, show cnt 65 = 2 from rfl, hxl] at hown4
  rcases own_cases hown4 with ⟨_, h0, _⟩ | ⟨g, c, rfl, hmc, hcm, hbg, hlg, hLg⟩
  · omega
  obtain ⟨ad, z, e, hz1', hz2'⟩ := hLg.str_at (k := 1) (by omega)
  injection e with e
  subst e
  rw [addr0] at hz2'
  have hzs : (z.size : Int) = 1 := by
    have : z = bs (chk l 1) := by
      unfold chunks at hz1'
      simpa [List.range_succ] using hz1'.symm
    rw [this, bs_size]; unfold chk; rw [List.length_take, List.length_drop, hll]; decide
  clear hown4 hLg hz1'
  have hc65 : cntZ 65 = 2 := by decide
  have hc64 : cntZ 64 = 1 := by decide
  go_wp2_with fail
  refine (count_any 65 _ (by decide) (by decide)).mono ?_
  rintro e w8 ⟨rfl, rfl⟩
  rw [hc65]
  go_wp2_with fail
  refine (count_any 64 _ (by decide) (by decide)).mono ?_
  rintro e w8 ⟨rfl, rfl⟩
  rw [hc64]
  go_wp2_with fail
  refine (join_own w4.heap.size 3 3 [⟨#[97]⟩, ⟨#[]⟩, ⟨#[98]⟩] _ (Ls.of_at (At.new w4 9 #[.string ⟨#[97]⟩, .string ⟨#[]⟩, .string ⟨#[98]⟩])) (by omega) (by omega) (by decide)).mono ?_
  rintro e w5 ⟨rfl, hk5⟩
  rw [join_ab]
  go_wp2_with fail
  refine (fits_to _ 2 2 [⟨#[97]⟩, ⟨#[98]⟩] false _ fit_ab (Ls.of_at (At.new w5 9 #[.string ⟨#[97]⟩, .string ⟨#[98]⟩])) (by omega)).mono ?_
  rintro e w6 ⟨rfl, hk6⟩
  go_wp2_with fail
  refine (fits_to none 0 0 [] true _ fit_nil Ls.nil_ (by omega)).mono ?_
  rintro e w7 ⟨rfl, hk7⟩
  go_wp2_with fail
  go_ret
  exact ⟨rfl, ((((hk3.trans hk4).alloc _).trans hk5).alloc _ |>.trans hk6).trans hk7⟩

theorem size_le {s : ByteArray} (h : s.size ≤ maxLen) : s.size ≤ 9223372036854775807 := by unfold maxLen at h; omega
set_option maxHeartbeats 2000000 in
theorem ccuts (s : ByteArray) (n : Int) (w : World) (hs : s.size ≤ 8192) (h1 : -9223372036854775808 ≤ n) (h2 : n ≤ 9223372036854775807) :
    Calls Try.prog 3 #[.string s, .int .i64 n] w (Yes w) := by
  have hcz : cntZ s.size = (cnt s.size : Nat) := by unfold cntZ cnt; rw [if_neg (by omega)]; omega
  go_enter Try.func3, Try.ntmps3
  go_wp2_with fail
  refine (vawake _).mono ?_
  rintro e w2 ⟨rfl, hk2⟩
  go_wp2_with fail
  refine (cut_any s _ (by omega)).mono ?_
  rintro e w3 ⟨v3, rfl, hown3, hk3⟩
  obtain ⟨A3, c3, rfl, hL3, -, hnc3, hcm3⟩ := own_open hown3
  go_wp2_with fail
  refine (rcut_any s _ (by omega)).mono ?_
  rintro e w4 ⟨v4, rfl, hown4, hk4⟩
  obtain ⟨A4, c4, rfl, hL4, -, hnc4, hcm4⟩ := own_open hown4
  have hL3' := hL3.kp hk4 (by simp)
  have hkn : cnt s.size ≤ 1099511627776 := by unfold cnt; omega
  go_wp2_with fail
  refine (same_yes A3 A4 (cnt s.size) c3 (cnt s.size) c4 _ _ hL3' hL4 hkn).mono ?_
  rintro e w5 ⟨rfl, hk5⟩
  go_wp2_with fail
  refine (count_any s.size _ (by omega) (by omega)).mono ?_
  rintro e w6 ⟨rfl, rfl⟩
  rw [hcz]
  go_wp2_with fail
  refine (count_any n _ h1 h2).mono ?_
  rintro e w6 ⟨rfl, rfl⟩
  go_wp2_with fail
  refine (rcount_any n _ h1 h2).mono ?_
  rintro e w6 ⟨rfl, rfl⟩
  go_wp2_with fail
  go_ret
  exact ⟨ret_bool (by simp), ((hk2.trans hk3).trans hk4).trans hk5⟩
set_option maxHeartbeats 1000000 in
theorem ccuts_not (s : ByteArray) (n : Int) (w : World) (hs : 8192 < s.size) (hz : s.size ≤ 9223372036854775807) :
    Calls Try.prog 3 #[.string s, .int .i64 n] w (Yes w) := by
  go_enter Try.func3, Try.ntmps3
  go_wp2_with fail
  refine (vawake _).mono ?_
  rintro e w2 ⟨rfl, hk2⟩
  go_wp2_with fail
  refine (vawake _).mono ?_
  rintro e w3 ⟨rfl, hk3⟩
  go_wp2_with fail
  go_ret
  exact ⟨rfl, hk2.trans hk3⟩
theorem ccuts_walk (v0 v1 : Value) (w : World) (i0 : In w 9 v0) (i1 : In w 3 v1) : Calls Try.prog 3 #[v0, v1] w (Yes w) := by
  obtain ⟨s, rfl, hs⟩ := in_string Try.underlying9 i0
  obtain ⟨n, rfl, wn⟩ := in_int Try.underlying3 i1
  have hb := bd_i64 wn
  by_cases h : s.size ≤ 8192
  · exact ccuts s n w h hb.1 hb.2
  · exact ccuts_not s n w (by omega) (size_le hs)

set_option maxHeartbeats 1000000 in
theorem cback (s : ByteArray) (w : World) (hs : s.size ≤ 8192) :
    Calls Try.prog 5 #[.string s] w (Yes w) := by
  have hl : s.data.toList.length = s.size := by simp
  have hfit : Fit (chunks s.data.toList (cnt s.size)) := by rw [← hl]; exact chunks_fit _
  have hfl : flat (chunks s.data.toList (cnt s.size)) = s.data.toList := by rw [← hl]; exact chunks_flat _
  have hj : bs (flat (chunks s.data.toList (cnt s.size))) = s := by rw [hfl, bs_of]
  have hjl : (flat (chunks s.data.toList (cnt s.size))).length ≤ 1000000000 := by rw [hfl, hl]; omega
  have HF := Lib.hid hfit
  have HJ := Lib.hid hj
  have HJL := Lib.hid hjl
  clear hl hfit hfl hj hjl
  go_enter Try.func5, Try.ntmps5
  go_wp2_with fail
  refine (vawake _).mono ?_
  rintro e w2 ⟨rfl, hk2⟩
  go_wp2_with fail
  refine (cut_any s _ (by omega)).mono ?_
  rintro e w3 ⟨v3, rfl, hown3, hk3⟩
  obtain ⟨A3, c3, rfl, hL3, -, hnc3, hcm3⟩ := own_open hown3
  have hkn : cnt s.size ≤ 1000000 := by unfold cnt; omega
  go_wp2_with fail
  refine (fits_yes A3 (cnt s.size) c3 _ _ HF.out hL3 (by omega)).mono ?_
  rintro e w4 ⟨rfl, hk4⟩
  have hown4 := own_kp hown3 hk4 (by simp)
  go_wp2_with fail
  refine (join_to w2.heap.size A3 (cnt s.size) c3 _ s _ HJ.out hown4 hkn HJL.out).mono ?_
  rintro e w5 ⟨rfl, hk5⟩
  go_wp2_with fail
  go_ret
  exact ⟨ret_bool (by simp), ((hk2.trans hk3).trans hk4).trans hk5⟩
set_option maxHeartbeats 1000000 in
theorem cback_not (s : ByteArray) (w : World) (hs : 8192 < s.size) (hz : s.size ≤ 9223372036854775807) :
    Calls Try.prog 5 #[.string s] w (Yes w) := by
  go_enter Try.func5, Try.ntmps5
  go_wp2_with fail
  refine (vawake _).mono ?_
  rintro e w2 ⟨rfl, hk2⟩
  go_wp2_with fail
  refine (vawake _).mono ?_
  rintro e w3 ⟨rfl, hk3⟩
  go_wp2_with fail
  go_ret
  exact ⟨rfl, hk2.trans hk3⟩
theorem cback_walk (v0 : Value) (w : World) (i0 : In w 9 v0) : Calls Try.prog 5 #[v0] w (Yes w) := by
  obtain ⟨s, rfl, hs⟩ := in_string Try.underlying9 i0
  by_cases h : s.size ≤ 8192
  · exact cback s w h
  · exact cback_not s w (by omega) (size_le hs)

theorem tot_flat : ∀ (ss : List ByteArray), (flat ss).length ≤ tot ss := by
  intro ss
  induction ss with
  | nil => simp [flat]
  | cons s ss ih =>
    rw [flat_cons]
    unfold tot at *
    simp only [List.length_append, List.map_cons, List.sum_cons, Array.length_toList, ByteArray.size_data]
    omega
set_option maxHeartbeats 2000000 in
theorem cjoins (A : Option Addr) (n c : Nat) (ss : List ByteArray) (w : World) (hL : Ls w A n (ss.map Value.string)) (hs : ∀ z ∈ ss, z.size ≤ maxLen) (hnc : n ≤ c) (hc : c ≤ maxLen) :
    Calls Try.prog 4 #[.slice A n c] w (Yes w) := by
  have hlen : ss.length = n := by simpa using hL.1
  have H1 := Lib.hid hlen
  have HS := Lib.hid hs
  clear hlen hs
  obtain ⟨b, hb⟩ : ∃ b : Bool, b = true ↔ Fit ss := by
    by_cases h : Fit ss
    · exact ⟨true, by simp [h]⟩
    · exact ⟨false, by simp [h]⟩
  have HB := Lib.hid hb
  clear hb
  go_enter Try.func4, Try.ntmps4
  go_wp2_with fail
  refine (vawake _).mono ?_
  rintro e w1 ⟨rfl, hk1⟩
  have hL1 := hL.kp hk1 (by simp)
  go_wp2_with fail
  refine (many_any A n c ss _ hL1 HS.out hnc hc).mono ?_
  rintro e w1' ⟨bl, rfl, rfl, hbl⟩
  cases bl
  · have hto := hbl rfl
    have hn : n ≤ 8192 := by have := tot_len ss; have := H1.out; omega
    have hfl : (flat ss).length ≤ 8192 := by have := tot_flat ss; omega
    clear hbl hto
    obtain ⟨r, hr⟩ : ∃ r, bs (flat ss) = r := ⟨_, rfl⟩
    have hrs : r.size ≤ 8192 := by rw [← hr, bs_size]; exact hfl
    have hrl : r.data.toList = flat ss := by rw [← hr]; rfl
    have hrz : r.size = (flat ss).length := by rw [← hr, bs_size]
    have hdec : decide (chunks r.data.toList (cnt r.size) = ss) = b := by
      rw [hrl, hrz]
      have h1 := fit_iff ss
      have h2 := HB.out
      cases b
      · exact decide_eq_false fun h => by have := h2.2 (h1.2 h); cases this
      · exact decide_eq_true (h1.1 (h2.1 rfl))
    have HR := Lib.hid hr
    have HF := Lib.hid hfl
    have HD := Lib.hid hdec
    clear hr hfl hdec hrl hrz
    go_wp2_with (at_builtin; refine wpl_copy_str w1 rfl _ _ rfl A n c ss rfl rfl hL1 (by omega) ?_; intro v2 w2 hown2 hk2; obtain ⟨A2, c2, rfl, hL2, -, -, -⟩ := own_open hown2)
    refine (join_to w1.heap.size A2 n c2 ss r _ HR.out hown2 (by omega) (by have := HF.out; omega)).mono ?_
    rintro e w3 ⟨rfl, hk3⟩
    have hL3 := (hL1.kp hk2 (by simp)).kp hk3 (by simp)
    go_wp2_with (at_builtin; refine wpl_copy_str w3 rfl _ _ rfl A n c ss rfl rfl hL3 (by omega) ?_; intro v4 w4 hown4 hk4; obtain ⟨A4, c4, rfl, hL4, -, -, -⟩ := own_open hown4)
    refine (fits_to A4 n c4 ss b _ HB.out hL4 (by omega)).mono ?_
    rintro e w5 ⟨rfl, hk5⟩
    have hL5 := (hL3.kp hk4 (by simp)).kp hk5 (by simp)
    go_wp2_with fail
    refine (rjoin_to A n c ss r _ HR.out hL5 (by omega) (by have := HF.out; omega)).mono ?_
    rintro e w6 ⟨rfl, hk6⟩
    have hL6 := hL5.kp hk6 (by simp)
    go_wp2_with fail
    refine (rfits_to A n c ss b _ HB.out hL6 (by omega)).mono ?_
    rintro e w7 ⟨rfl, hk7⟩
    have hL7 := hL6.kp hk7 (by simp)
    go_wp2_with fail
    refine (cut_any r _ (by omega)).mono ?_
    rintro e w8 ⟨v8, rfl, hown8, hk8⟩
    obtain ⟨A8, c8, rfl, hL8, -, -, -⟩ := own_open hown8
    have hL8' := hL7.kp hk8 (by simp)
    have hkn : cnt r.size ≤ 1099511627776 := by unfold cnt; omega
    go_wp2_with fail
    refine (same_to A8 A (cnt r.size) c8 n c _ ss b _ HD.out hL8 hL8' hkn (by omega)).mono ?_
    rintro e w9 ⟨rfl, hk9⟩
    go_wp2_with fail
    go_ret
    exact ⟨ret_bool (by simp), (((((((hk1.trans hk2).trans hk3).trans hk4).trans hk5).trans hk6).trans hk7).trans hk8).trans hk9⟩
  · go_wp2_with fail
    refine (vawake _).mono ?_
    rintro e w2 ⟨rfl, hk2⟩
    go_wp2_with fail
    go_ret
    exact ⟨rfl, hk1.trans hk2⟩
theorem cjoins_walk (v0 : Value) (w : World) (i0 : In w 23 v0) : Calls Try.prog 4 #[v0] w (Yes w) := by
  obtain ⟨A, n, c, zs, rfl, h1, h2, h3, h4⟩ := in_strs i0
  exact cjoins A n c zs w h3 h4 h1 h2
end Go.Proofs.Ytglehfpddhkoeaa
