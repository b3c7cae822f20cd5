/- The laws of sha: ShaSums. -/
import Derived.Test.YthnfjkinliekoaaDoorRs
import Derived.Test.YthnfjkinliekoaaDoorTc
namespace Go.Proofs.YthnfjkinliekoaaDoor
set_option maxRecDepth 100000
open Go.RowKit
set_option linter.unusedVariables false

def JoinedS (ss : List ByteArray) (w : World) (e : Ending) (w' : World) : Prop := ∃ (ok : Bool) (s : ByteArray), e = .returned (.tuple #[.string s, .bool ok]) ∧ w = w' ∧ (ok = true → s = bs (flat ss) ∧ s.size ≤ 4000 ∧ ss.length ≤ 101)
set_option maxRecDepth 100000 in
set_option maxHeartbeats 1000000 in
theorem joinedS_any (A : Option Addr) (n c : Nat) (ss : List ByteArray) (w : World) (hL : Ls w A n (ss.map Value.string)) (hz : ∀ z ∈ ss, z.size ≤ maxLen) (hn : n ≤ maxLen) :
    Calls Tryd.prog 13 #[.slice A n c] w (JoinedS ss w) := by
  unfold maxLen at hn
  have h1 : ss.length = n := by simpa using hL.1
  have H1 := Lib.hid h1
  clear h1
  go_enter Tryd.func13, Tryd.ntmps13
  go_wp2_with fail
  go_loopg [4, 9] n (fun gk sv i wr => ∃ (k : Nat) (s : ByteArray), n - k ≤ gk ∧ i = .int .i64 k ∧ k ≤ n ∧ sv = .string s ∧ s = bs (flat (ss.take k)) ∧ s.size ≤ 4000 ∧ k ≤ 101 ∧ w = wr)
  case atStart => exact ⟨0, ByteArray.empty, by omega, rfl, Nat.zero_le _, rfl, rfl, by decide, by omega, rfl⟩
  case round =>
    obtain ⟨k, s, hgk, rfl, hk, rfl, hs, hsz, hk2, rfl⟩ := hrel
    have HS := Lib.hid hs
    clear hs
    by_cases hlt : k < n
    · obtain ⟨ad, z, rfl, hzk, hc⟩ := str_at_ hL hlt
      have hzs := hz z (List.mem_of_getElem? hzk)
      unfold maxLen at hzs
      have hst : s ++ z = bs (flat (ss.take (k + 1))) := by rw [flat_succ hzk, HS.out, ← bs_append, bs_of]
      have hszz : (s ++ z).size = s.size + z.size := by simp
      have HST := Lib.hid hst
      have HSZ := Lib.hid hszz
      clear hst hzk hszz
      by_cases hov : k ≤ 100 ∧ z.size ≤ 2000 ∧ s.size ≤ 2000
      · obtain ⟨o1, o2, o3⟩ := hov
        go_wp2_with fail
        go_roundg (n - (k + 1))
        case measure => omega
        case rel => exact ⟨k + 1, s ++ z, by omega, by go_num, by omega, rfl, HST.out, by have := HSZ.out; omega, by omega, rfl⟩
      · go_wp2_with fail
        all_goals
          go_ret2
          exact ⟨false, _, rfl, rfl, by simp⟩
    · have hkn : ss.take k = ss := List.take_of_length_le (by have := H1.out; omega)
      have hfin : s = bs (flat ss) := by rw [HS.out, hkn]
      have HF := Lib.hid hfin
      have hl : ss.length ≤ 101 := by have := H1.out; omega
      have HLL := Lib.hid hl
      clear hl hkn hfin
      go_wp2_with fail
      go_ret2
      exact ⟨true, s, rfl, rfl, fun _ => ⟨HF.out, hsz, HLL.out⟩⟩

theorem flat_sizeS {ss : List ByteArray} {m : Nat} (h : (bs (flat ss)).size ≤ m) : ∀ z ∈ ss, z.size ≤ m := by
  intro z hz
  obtain ⟨a, b, rfl⟩ := List.append_of_mem hz
  rw [bs_size] at h
  unfold flat at h
  simp at h
  omega
theorem rsum_to (s d : ByteArray) (w : World) (hd : bs (shaW s.data.toList) = d) (hs : s.size ≤ 1000000000) :
    Calls Tryd.prog 16 #[.string s] w fun e w' => e = .returned (.string d) ∧ Kp [] w w' := by
  rw [← hd]
  exact rsum_any s w hs
set_option maxHeartbeats 2000000 in
theorem ssums (A : Option Addr) (n c : Nat) (ss : List ByteArray) (w : World) (ht : Tbk w) (hL : Ls w A n (ss.map Value.string)) (hz : ∀ z ∈ ss, z.size ≤ maxLen) (hnc : n ≤ c) (hc : c ≤ maxLen) :
    Calls Tryd.prog 3 #[.slice A n c] w (Yes w) := by
  have h1 : ss.length = n := by simpa using hL.1
  have H1 := Lib.hid h1
  clear h1
  unfold maxLen at hc
  go_enter Tryd.func3, Tryd.ntmps3
  go_wp2_with fail
  refine (joinedS_any A n c ss _ hL hz (by unfold maxLen; omega)).mono ?_
  rintro e w1 ⟨ok, t, rfl, rfl, hok⟩
  cases ok
  · clear hok
    go_wp2_with fail
    refine (hawake _ ht).mono ?_
    rintro e w2 ⟨rfl, hk2⟩
    go_wp2_with fail
    refine (hawake _ (ht.kp hk2 (by simp))).mono ?_
    rintro e w3 ⟨rfl, hk3⟩
    go_wp2_with fail
    go_ret
    exact ⟨rfl, hk2.trans hk3⟩
  · obtain ⟨rfl, hts, hn⟩ := hok rfl
    have hz2 := flat_sizeS hts
    have hn2 : n ≤ 101 := by have := H1.out; omega
    obtain ⟨d, hd⟩ : ∃ d, bs (shaW (flat ss)) = d := ⟨_, rfl⟩
    have hd2 : bs (shaW (bs (flat ss)).data.toList) = d := by rw [bs_list, hd]
    have hfl : (flat ss).length ≤ maxLen := by rw [bs_size] at hts; unfold maxLen; omega
    have HD := Lib.hid hd
    have HD2 := Lib.hid hd2
    have HFL := Lib.hid hfl
    have HZ := Lib.hid hz
    clear hd hd2 hfl hn hok hz
    generalize bs (flat ss) = t at *
    go_wp2_with fail
    refine (hawake _ ht).mono ?_
    rintro e w2 ⟨rfl, hk2⟩
    have hL2 := hL.kp hk2 (by simp)
    have ht2 := ht.kp hk2 (by simp)
    go_wp2_with (at_builtin; refine wpl_copy_str w2 rfl _ _ rfl A n c ss rfl rfl hL2 (by omega) ?_; intro v3 w3 hown3 hk3; obtain ⟨A3, c3, rfl, hL3, -, -, -⟩ := own_open hown3)
    have ht3 := ht2.kp hk3 (by simp)
    refine (sum_to A3 n c3 ss d _ HD.out ht3 hL3 HZ.out HFL.out (by unfold maxLen; omega)).mono ?_
    rintro e w4 ⟨rfl, hk4⟩
    go_wp2_with fail
    refine (rsum_to t d _ HD2.out (by omega)).mono ?_
    rintro e w5 ⟨rfl, hk5⟩
    have hkk := ((hk2.trans hk3).trans hk4).trans hk5
    go_wp2_with fail
    go_ret
    exact ⟨ret_bool (by simp), hkk⟩
theorem ssums_walk (v0 : Value) (w : World) (hl : LaidSha w) (i0 : In w 22 v0) : Calls Tryd.prog 3 #[v0] w (Yes w) := by
  obtain ⟨A, n, c, ss, rfl, h1, h2, h3, h4⟩ := in_strs i0
  exact ssums A n c ss w (tbk_of hl) h3 h4 h1 h2
end Go.Proofs.YthnfjkinliekoaaDoor
