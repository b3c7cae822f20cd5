/- The laws of crc: awake, joined; CrcSums, CrcGoes. -/
import Derived.Test.YtglehfpddhkoeaaDoorCr
namespace Go.Proofs.YtglehfpddhkoeaaDoor
set_option maxRecDepth 100000
open Go.RowKit
set_option linter.unusedVariables false

theorem more1 : Crc.more 0 (flat [⟨#[49, 50, 51, 52]⟩, ⟨#[]⟩, ⟨#[53, 54, 55, 56, 57]⟩]) = 3421780262 := by decide +kernel
theorem more2 : Crc.more 0 (flat []) = 0 := by decide +kernel
theorem more3 : Crc.more 3421780262 (flat []) = 3421780262 := by decide +kernel
theorem small_all {ss : List ByteArray} {m : Nat} (h : (ss.all fun z => z.size ≤ m) = true) (hm : m ≤ maxLen) : ∀ z ∈ ss, z.size ≤ maxLen := fun z hz => by
  have := List.all_eq_true.1 h z hz
  have : z.size ≤ m := by simpa using this
  omega
set_option maxHeartbeats 1000000 in
theorem cawake (w : World) (ht : Tab w) : Calls Tryd.prog 8 #[] w (Yes w) := by
  go_enter Tryd.func8, Tryd.ntmps8
  go_wp2_with fail
  refine (sum_to _ 3 3 [⟨#[49, 50, 51, 52]⟩, ⟨#[]⟩, ⟨#[53, 54, 55, 56, 57]⟩] 3421780262 _ more1 (ht.kp ((Kp.rfl_ _ _).alloc _)) (Ls.of_at (At.new w _ _)) (small_all (m := 5) (by decide) (by decide)) (by decide)).mono ?_
  rintro e w1 ⟨rfl, rfl⟩
  have ht1 : Tab (w.alloc (.cells #[.string ⟨#[49, 50, 51, 52]⟩, .string ⟨#[]⟩, .string ⟨#[53, 54, 55, 56, 57]⟩] 9)) := ht.kp ((Kp.rfl_ _ _).alloc _)
  go_wp2_with fail
  refine (sum_to none 0 0 [] 0 _ more2 ht1 Ls.nil_ (by simp) (by decide)).mono ?_
  rintro e w1 ⟨rfl, rfl⟩
  go_wp2_with fail
  refine (more_to 3421780262 none 0 0 [] 3421780262 _ more3 ht1 (by decide) Ls.nil_ (by simp) (by decide)).mono ?_
  rintro e w1 ⟨rfl, rfl⟩
  go_wp2_with fail
  go_ret
  exact ⟨rfl, (Kp.rfl_ _ _).alloc _⟩
def Joined (ss : List ByteArray) (w : World) (e : Ending) (w' : World) : Prop := ∃ (ok : Bool) (s : ByteArray), e = .returned (.tuple #[.string s, .bool ok]) ∧ w = w' ∧ (ok = true → s = bs (flat ss) ∧ s.size ≤ 12288 ∧ ss.length ≤ 201)
set_option maxRecDepth 100000 in
set_option maxHeartbeats 1000000 in
theorem joined_any (A : Option Addr) (n c : Nat) (ss : List ByteArray) (w : World) (hL : Ls w A n (ss.map Value.string)) (hz : ∀ z ∈ ss, z.size ≤ maxLen) (hn : n ≤ maxLen) :
    Calls Tryd.prog 7 #[.slice A n c] w (Joined ss w) := by
  unfold maxLen at hn
  have h1 : ss.length = n := by simpa using hL.1
  have H1 := Lib.hid h1
  clear h1
  go_enter Tryd.func7, Tryd.ntmps7
  go_wp2_with fail
  go_loopg [4, 9] n (fun gk sv i wr => ∃ (k : Nat) (s : ByteArray), n - k ≤ gk ∧ i = .int .i64 k ∧ k ≤ n ∧ sv = .string s ∧ s = bs (flat (ss.take k)) ∧ s.size ≤ 12288 ∧ k ≤ 201 ∧ w = wr)
  case atStart => exact ⟨0, ByteArray.empty, by omega, rfl, Nat.zero_le _, rfl, rfl, by decide, by omega, rfl⟩
  case round =>
    obtain ⟨k, s, hgk, rfl, hk, rfl, hs, hsz, hk2, rfl⟩ := hrel
    have HS := Lib.hid hs
    clear hs
    by_cases hlt : k < n
    · obtain ⟨ad, z, rfl, hzk, hc⟩ := str_at_ hL hlt
      have hzs := hz z (List.mem_of_getElem? hzk)
      unfold maxLen at hzs
      have hst : s ++ z = bs (flat (ss.take (k + 1))) := by rw [flat_succ hzk, HS.out, ← bs_append, bs_of]
      have hszz : (s ++ z).size = s.size + z.size := by simp
      have HST := Lib.hid hst
      have HSZ := Lib.hid hszz
      clear hst hzk hszz
      by_cases hov : k ≤ 200 ∧ z.size ≤ 4096 ∧ s.size ≤ 8192
      · obtain ⟨o1, o2, o3⟩ := hov
        go_wp2_with fail
        go_roundg (n - (k + 1))
        case measure => omega
        case rel => exact ⟨k + 1, s ++ z, by omega, by go_num, by omega, rfl, HST.out, by have := HSZ.out; omega, by omega, rfl⟩
      · go_wp2_with fail
        all_goals
          go_ret2
          exact ⟨false, _, rfl, rfl, by simp⟩
    · have hkn : ss.take k = ss := List.take_of_length_le (by have := H1.out; omega)
      have hfin : s = bs (flat ss) := by rw [HS.out, hkn]
      have HF := Lib.hid hfin
      have hl : ss.length ≤ 201 := by have := H1.out; omega
      have HLL := Lib.hid hl
      clear hl hkn hfin
      go_wp2_with fail
      go_ret2
      exact ⟨true, s, rfl, rfl, fun _ => ⟨HF.out, hsz, HLL.out⟩⟩

theorem flat_size {ss : List ByteArray} {m : Nat} (h : (bs (flat ss)).size ≤ m) : ∀ z ∈ ss, z.size ≤ m := by
  intro z hz
  obtain ⟨a, b, rfl⟩ := List.append_of_mem hz
  rw [bs_size] at h
  unfold flat at h
  simp at h
  omega
set_option maxHeartbeats 2000000 in
theorem csums (s : Nat) (A : Option Addr) (n c : Nat) (ss : List ByteArray) (w : World) (ht : Tab w) (hs : s < 4294967296) (hL : Ls w A n (ss.map Value.string)) (hz : ∀ z ∈ ss, z.size ≤ maxLen) (hnc : n ≤ c) (hc : c ≤ maxLen) :
    Calls Tryd.prog 3 #[.int .u32 s, .slice A n c] w (Yes w) := by
  have h1 : ss.length = n := by simpa using hL.1
  have H1 := Lib.hid h1
  clear h1
  unfold maxLen at hc
  go_enter Tryd.func3, Tryd.ntmps3
  go_wp2_with fail
  refine (joined_any A n c ss _ hL hz (by unfold maxLen; omega)).mono ?_
  rintro e w1 ⟨ok, t, rfl, rfl, hok⟩
  cases ok
  · clear hok
    go_wp2_with fail
    refine (cawake _ ht).mono ?_
    rintro e w2 ⟨rfl, hk2⟩
    go_wp2_with fail
    refine (cawake _ (ht.kp hk2)).mono ?_
    rintro e w3 ⟨rfl, hk3⟩
    go_wp2_with fail
    go_ret
    exact ⟨rfl, hk2.trans hk3⟩
  · obtain ⟨rfl, hts, hn⟩ := hok rfl
    have hz2 := flat_size hts
    have hn2 : n ≤ 201 := by have := H1.out; omega
    obtain ⟨m, hm⟩ : ∃ m, Crc.more 0 (flat ss) = m := ⟨_, rfl⟩
    obtain ⟨q, hq⟩ : ∃ q, Crc.more s (flat ss) = q := ⟨_, rfl⟩
    have HM := Lib.hid hm
    have HQ := Lib.hid hq
    have hm2 : Crc.more 0 (bs (flat ss)).data.toList = m := by rw [bs_list, hm]
    have hq2 : Crc.more s (bs (flat ss)).data.toList = q := by rw [bs_list, hq]
    have HM2 := Lib.hid hm2
    have HQ2 := Lib.hid hq2
    have HZ := Lib.hid hz
    clear hm hq hm2 hq2 hn hok hz
    generalize bs (flat ss) = t at *
    go_wp2_with fail
    refine (cawake _ ht).mono ?_
    rintro e w2 ⟨rfl, hk2⟩
    have hL2 := hL.kp hk2 (by simp)
    have ht2 := ht.kp hk2
    go_wp2_with (at_builtin; refine wpl_copy_str w2 rfl _ _ rfl A n c ss rfl rfl hL2 (by omega) ?_; intro v3 w3 hown3 hk3; obtain ⟨A3, c3, rfl, hL3, -, -, -⟩ := own_open hown3)
    have ht3 := ht2.kp hk3
    refine (sum_to A3 n c3 ss m _ HM.out ht3 hL3 HZ.out (by unfold maxLen; omega)).mono ?_
    rintro e w4 ⟨rfl, rfl⟩
    go_wp2_with fail
    refine (rsum_to m t _ HM2.out (by unfold maxLen; omega)).mono ?_
    rintro e w4 ⟨rfl, rfl⟩
    go_wp2_with fail
    refine (more_to s A3 n c3 ss q _ HQ.out ht3 hs hL3 HZ.out (by unfold maxLen; omega)).mono ?_
    rintro e w4 ⟨rfl, rfl⟩
    go_wp2_with fail
    refine (rmore_to s q t _ HQ2.out hs (by unfold maxLen; omega)).mono ?_
    rintro e w4 ⟨rfl, rfl⟩
    go_wp2_with fail
    go_ret
    exact ⟨ret_bool (by simp), hk2.trans hk3⟩

theorem tb_all2 : ∀ j : Fin 16, (([0, 498536548, 997073096, 651767980, 1994146192, 1802195444, 1303535960, 1342533948, 3988292384, 4027552580, 3604390888, 3412177804, 2607071920, 2262029012, 2685067896, 3183342108] : List Int).getD j.val 0) = ((Crc.tb j.val : Nat) : Int) := by decide
/-- What the row says of the listed variable. -/
def LaidCrc (w : World) : Prop := 0 < w.heap.size ∧ ∀ j, j < 16 → w.cell? ⟨0, j, none⟩ = some (.int .u32 (([0, 498536548, 997073096, 651767980, 1994146192, 1802195444, 1303535960, 1342533948, 3988292384, 4027552580, 3604390888, 3412177804, 2607071920, 2262029012, 2685067896, 3183342108] : List Int).getD j 0))
theorem tab_of {w : World} (h : LaidCrc w) : Tab w := ⟨h.1, fun j hj => by rw [h.2 j hj, tb_all2 ⟨j, hj⟩]⟩
theorem bd_u32 {n : Int} (h : (Lit.int .u32 n).wf = true) : ∃ m : Nat, n = m ∧ m < 4294967296 := by
  have := bounds_u32 h
  exact ⟨n.toNat, by omega, by omega⟩
theorem csums_walk (v0 v1 : Value) (w : World) (hl : LaidCrc w) (i0 : In w 22 v0) (i1 : In w 23 v1) : Calls Tryd.prog 3 #[v0, v1] w (Yes w) := by
  obtain ⟨s, rfl, ws⟩ := in_int Tryd.underlying22 i0
  obtain ⟨m, rfl, hm⟩ := bd_u32 ws
  obtain ⟨A, n, c, ss, rfl, h1, h2, h3, h4⟩ := in_strs i1
  exact csums m A n c ss w (tab_of hl) hm h3 h4 h1 h2
end Go.Proofs.YtglehfpddhkoeaaDoor
