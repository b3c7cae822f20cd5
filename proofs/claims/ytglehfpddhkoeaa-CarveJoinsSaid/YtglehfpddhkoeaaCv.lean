/- Package carve: how many chunks, the chunks, whether parts fit; and the document's own. -/
import Derived.Test.YtglehfpddhkoeaaBs
import Derived.Deep.LoopGhost
import Derived.BigQuiet
import Derived.Deep.QuietTactic
namespace Go.Proofs.Ytglehfpddhkoeaa
open Go.RowKit
set_option linter.unusedVariables false

def cnt (n : Nat) : Nat := (n + 63) / 64
def cntZ (n : Int) : Int := if n < 0 then 0 else (n + 63) / 64
def chk (l : List UInt8) (i : Nat) : List UInt8 := (l.drop (64 * i)).take 64
def chunks (l : List UInt8) (k : Nat) : List ByteArray := (List.range k).map fun i => bs (chk l i)
theorem chunks_succ (l : List UInt8) (k : Nat) : chunks l (k + 1) = chunks l k ++ [bs (chk l k)] := by
  unfold chunks
  rw [List.range_succ, List.map_append]
  rfl
theorem chunks_length (l : List UInt8) (k : Nat) : (chunks l k).length = k := by simp [chunks]

set_option maxHeartbeats 400000 in
theorem count_any (n : Int) (w : World) (h1 : -9223372036854775808 ≤ n) (h2 : n ≤ 9223372036854775807) :
    Calls Try.prog 15 #[.int .i64 n] w fun e w' => e = .returned (.int .i64 (cntZ n)) ∧ w = w' := by
  by_cases hn : n < 0
  · go_enter Try.func15, Try.ntmps15
    go_wp2
    go_ret
    exact ⟨ret_int (by unfold cntZ; rw [if_pos hn]), rfl⟩
  · by_cases hm : 0 < n % 64
    · go_enter Try.func15, Try.ntmps15
      go_wp2
      go_ret
      exact ⟨ret_int (by unfold cntZ; rw [if_neg (by omega)]; omega), rfl⟩
    · go_enter Try.func15, Try.ntmps15
      go_wp2
      go_ret
      exact ⟨ret_int (by unfold cntZ; rw [if_neg (by omega)]; omega), rfl⟩
set_option maxHeartbeats 400000 in
theorem rcount_any (n : Int) (w : World) (h1 : -9223372036854775808 ≤ n) (h2 : n ≤ 9223372036854775807) :
    Calls Try.prog 16 #[.int .i64 n] w fun e w' => e = .returned (.int .i64 (cntZ n)) ∧ w = w' := by
  by_cases hn : n < 0
  · go_enter Try.func16, Try.ntmps16
    go_wp2
    go_ret
    exact ⟨ret_int (by unfold cntZ; rw [if_pos hn]), rfl⟩
  · by_cases hm : n / 64 * 64 < n
    · go_enter Try.func16, Try.ntmps16
      go_wp2
      go_ret
      exact ⟨ret_int (by unfold cntZ; rw [if_neg (by omega)]; omega), rfl⟩
    · go_enter Try.func16, Try.ntmps16
      go_wp2
      go_ret
      exact ⟨ret_int (by unfold cntZ; rw [if_neg (by omega)]; omega), rfl⟩

/-- The program's chunks, in new memory. -/
def Cuts (l : List UInt8) (k : Nat) (w : World) (e : Ending) (w' : World) : Prop := ∃ v, e = .returned v ∧ w'.ownsRow w.heap.size 9 1 v k ((chunks l k).map Value.string) ∧ Kp [] w w'
set_option maxRecDepth 100000 in
set_option maxHeartbeats 1000000 in
theorem cut_any (s : ByteArray) (w : World) (hs : s.size ≤ 1000000000) :
    Calls Try.prog 12 #[.string s] w (Cuts s.data.toList (cnt s.size) w) := by
  obtain ⟨l, hl⟩ : ∃ l, s.data.toList = l := ⟨_, rfl⟩
  have hll : l.length = s.size := by rw [← hl]; simp
  obtain ⟨N, hN⟩ : ∃ N, s.size = N := ⟨_, rfl⟩
  have hsb : bs (l.drop (64 * 0)) = s := by rw [← hl]; exact bs_of s
  rw [hl, hN]
  rw [hN] at hs hll
  have HLL := Lib.hid hll
  have HSB := Lib.hid hsb
  have HN := Lib.hid hN
  clear hll hl hsb hN
  go_enter Try.func12, Try.ntmps12
  go_wp2_with fail
  go_loopg [0, 3] (N + 1) (fun gk d v wr => ∃ (k : Nat) (s : ByteArray), N + 1 - 64 * k ≤ gk ∧ d = .string s ∧ 64 * k < N + 64 ∧ bs (l.drop (64 * k)) = s ∧ s.size = N - 64 * k ∧ wr.ownsRow w.heap.size 9 1 v k ((chunks l k).map Value.string) ∧ Below w.heap.size w wr)
  case atStart => exact ⟨0, s, by omega, rfl, by omega, HSB.out, by have := HN.out; omega, own_none _ _ _, Below.refl _ _⟩
  case round =>
    clear HN HSB
    clear s
    obtain ⟨k, s, hgk, rfl, hk, hs1, hs2, hown, hbel⟩ := hrel
    have HS1 := Lib.hid hs1
    have hss : s.size ≤ N - 64 * k := by omega
    have hss2 : N - 64 * k ≤ s.size := by omega
    clear hs1 hs2
    have hsz := hbel.size
    have hk9 : k ≤ 1099511627776 := by omega
    by_cases hlt : 0 < s.size
    · by_cases hbig : 64 < s.size
      · have hbi : (64 : Int) < (s.size : Int) := by omega
        have hc : s.extract 0 64 = bs (chk l k) := by rw [← HS1.out, bs_extract, List.drop_zero]; rfl
        have hr : s.extract 64 s.size = bs (l.drop (64 * (k + 1))) := by
          have e : s.size = (l.drop (64 * k)).length := by rw [← bs_size, HS1.out]
          rw [e, ← HS1.out, bs_extract, List.take_length, List.drop_drop]
          rfl
        have hrz : (bs (l.drop (64 * (k + 1)))).size = N - 64 * (k + 1) := by rw [bs_size, List.length_drop, HLL.out]
        have hch := chunks_succ l k
        obtain ⟨c, hcc⟩ : ∃ c, bs (chk l k) = c := ⟨_, rfl⟩
        obtain ⟨r, hrr⟩ : ∃ c, bs (l.drop (64 * (k + 1))) = c := ⟨_, rfl⟩
        rw [hcc] at hc hch
        rw [hrr] at hr hrz
        have HCH := Lib.hid hch
        have HRR := Lib.hid hrr
        have HRZ := Lib.hid hrz
        clear hcc hrr hch hrz
        go_wp2_with (at_builtin; go_must (refine wpl_one_str wr w.heap.size rfl _ _ rfl _ k _ c hown rfl rfl hsz hk9 ?_); intro v2 w2 hown2 hbel2 _)
        go_roundg (N + 1 - 64 * (k + 1))
        case measure => omega
        case rel => exact ⟨k + 1, r, by omega, rfl, by omega, HRR.out, HRZ.out, by rw [HCH.out, List.map_append]; exact hown2, hbel.trans hbel2⟩
      · have hbi : ¬ (64 : Int) < (s.size : Int) := by omega
        have hc : s.extract 0 s.size = bs (chk l k) := by
          have e : s.size = (l.drop (64 * k)).length := by rw [← bs_size, HS1.out]
          rw [e, ← HS1.out, bs_extract, List.drop_zero, List.take_length]
          unfold chk
          rw [List.take_of_length_le (by omega)]
        have hre : bs (l.drop (64 * (k + 1))) = ByteArray.empty := by
          rw [List.drop_eq_nil_of_le (by have := HLL.out; omega)]; rfl
        have hrz : ByteArray.empty.size = N - 64 * (k + 1) := by rw [show ByteArray.empty.size = 0 from rfl]; omega
        have hch := chunks_succ l k
        obtain ⟨c, hcc⟩ : ∃ c, bs (chk l k) = c := ⟨_, rfl⟩
        rw [hcc] at hc hch
        have HCH := Lib.hid hch
        have HRR := Lib.hid hre
        have HRZ := Lib.hid hrz
        clear hcc hch hre hrz
        go_wp2_with (at_builtin; go_must (refine wpl_one_str wr w.heap.size rfl _ _ rfl _ k _ c hown rfl rfl hsz hk9 ?_); intro v2 w2 hown2 hbel2 _)
        go_roundg (N + 1 - 64 * (k + 1))
        case measure => omega
        case rel => exact ⟨k + 1, ByteArray.empty, by omega, rfl, by omega, HRR.out, HRZ.out, by rw [HCH.out, List.map_append]; exact hown2, hbel.trans hbel2⟩
    · have hkn : k = cnt N := by unfold cnt; omega
      rw [hkn] at hown
      clear hkn
      go_wp2_with fail
      go_ret
      exact ⟨_, rfl, hown, Kp.of_below hbel⟩
theorem getD_map {zs : List ByteArray} {k : Nat} (h : k < zs.length) : (zs.map Value.string)[k]? = some (Value.string zs[k]) := by
  rw [List.getElem?_map, List.getElem?_eq_getElem h]; rfl
theorem Ls.str_at {w : World} {A : Option Addr} {n k : Nat} {zs : List ByteArray} (h : Ls w A n (zs.map Value.string)) (hk : k < n) : ∃ ad z, A = some ad ∧ zs[k]? = some z ∧ w.cell? (ad.add k) = some (Value.string z) := by
  obtain ⟨ad, u, e, _, hu, hc⟩ := h.at_ hk
  have hl : k < zs.length := by have := h.1; simp at this; omega
  rw [getD_map hl] at hu
  injection hu with hu
  subst hu
  exact ⟨ad, _, e, List.getElem?_eq_getElem hl, hc⟩

set_option maxRecDepth 100000 in
set_option maxHeartbeats 1000000 in
theorem same_yes (A B : Option Addr) (n c m d : Nat) (xs : List ByteArray) (w : World) (hA : Ls w A n (xs.map Value.string)) (hB : Ls w B m (xs.map Value.string)) (hn : n ≤ 1099511627776) :
    Calls Try.prog 13 #[.slice A n c, .slice B m d] w fun e w' => e = .returned (.bool true) ∧ Kp [] w w' := by
  have h1 := hA.1
  have h2 := hB.1
  obtain rfl : n = m := by omega
  clear h1 h2
  go_enter Try.func13, Try.ntmps13
  go_wp2_with fail
  go_loopg [5] n (fun gk i wr => ∃ k : Nat, n - k ≤ gk ∧ i = .int .i64 k ∧ k ≤ n ∧ Kp [] w wr)
  case atStart => exact ⟨0, by omega, rfl, Nat.zero_le _, Kp.rfl_ _ _⟩
  case round =>
    obtain ⟨k, hgk, rfl, hk, hkp⟩ := hrel
    by_cases hlt : k < n
    · obtain ⟨ad, z, rfl, hz, hc⟩ := (hA.kp hkp (by simp)).str_at hlt
      obtain ⟨bd, z', rfl, hz', hc'⟩ := (hB.kp hkp (by simp)).str_at hlt
      obtain rfl : z = z' := by rw [hz] at hz'; injection hz'
      have i1 : (0 : Int) ≤ (k : Int) := by omega
      have i2 : (k : Int) < (n : Int) := by omega
      clear hz hz'
      go_wp2_with fail
      go_quiet (fail)
      have hkq := hkp.drewN nq
      clear hkp hc hc' i1 i2
      generalize wr.drewN nq = wq at *
      go_wp2_with fail
      go_roundg (n - (k + 1))
      case measure => omega
      case rel => exact ⟨k + 1, by omega, by go_num, by omega, hkq⟩
    · go_wp2_with fail
      go_ret
      exact ⟨rfl, hkp⟩
theorem toList_ne {a b : ByteArray} (h : a ≠ b) : (a.toList == b.toList) = false := by
  rw [beq_eq_false_iff_ne, toList_eq, toList_eq]
  exact fun e => h (bs_eq e)
set_option maxRecDepth 100000 in
set_option maxHeartbeats 1000000 in
theorem same_any (A B : Option Addr) (n c m d : Nat) (xs ys : List ByteArray) (w : World) (hA : Ls w A n (xs.map Value.string)) (hB : Ls w B m (ys.map Value.string)) (hn : n ≤ 1099511627776) (hm : m ≤ 1099511627776) :
    Calls Try.prog 13 #[.slice A n c, .slice B m d] w fun e w' => e = .returned (.bool (decide (xs = ys))) ∧ Kp [] w w' := by
  have h1 : xs.length = n := by simpa using hA.1
  have h2 : ys.length = m := by simpa using hB.1
  have H1 := Lib.hid h1
  have H2 := Lib.hid h2
  clear h1 h2
  by_cases hnm : n = m
  · subst hnm
    go_enter Try.func13, Try.ntmps13
    go_wp2_with fail
    go_loopg [5] n (fun gk i wr => ∃ k : Nat, n - k ≤ gk ∧ i = .int .i64 k ∧ k ≤ n ∧ Kp [] w wr ∧ xs.take k = ys.take k)
    case atStart => exact ⟨0, by omega, rfl, Nat.zero_le _, Kp.rfl_ _ _, rfl⟩
    case round =>
      obtain ⟨k, hgk, rfl, hk, hkp, htk⟩ := hrel
      have HTK := Lib.hid htk
      clear htk
      by_cases hlt : k < n
      · obtain ⟨ad, z, rfl, hz, hc⟩ := (hA.kp hkp (by simp)).str_at hlt
        obtain ⟨bd, z', rfl, hz', hc'⟩ := (hB.kp hkp (by simp)).str_at hlt
        have HZ := Lib.hid hz
        have HZ' := Lib.hid hz'
        have i1 : (0 : Int) ≤ (k : Int) := by omega
        have i2 : (k : Int) < (n : Int) := by omega
        clear hz hz'
        by_cases he : z = z'
        · subst he
          have hst : xs.take (k + 1) = ys.take (k + 1) := by rw [List.take_add_one, List.take_add_one, HTK.out, HZ.out, HZ'.out]
          have HST := Lib.hid hst
          clear hst
          go_wp2_with fail
          go_quiet (fail)
          have hkq := hkp.drewN nq
          clear hkp hc hc' i1 i2
          generalize wr.drewN nq = wq at *
          go_wp2_with fail
          go_roundg (n - (k + 1))
          case measure => omega
          case rel => exact ⟨k + 1, by omega, by go_num, by omega, hkq, HST.out⟩
        · have hne := toList_ne he
          have hxy : ¬ xs = ys := by
            rintro rfl
            have := HZ.out.symm.trans HZ'.out
            injection this with this
            exact he this
          have HXY := Lib.hid hxy
          clear hxy he
          go_wp2_with fail
          go_quiet (fail)
          have hkq := hkp.drewN nq
          clear hkp hc hc' i1 i2
          generalize wr.drewN nq = wq at *
          go_wp2_with fail
          go_ret
          exact ⟨ret_bool (by rw [decide_eq_false HXY.out]), hkq⟩
      · have hxy : xs = ys := by
          have h3 := HTK.out
          rw [List.take_of_length_le (by have := H1.out; omega), List.take_of_length_le (by have := H2.out; omega)] at h3
          exact h3
        have HXY := Lib.hid hxy
        clear hxy
        go_wp2_with fail
        go_ret
        exact ⟨ret_bool (by rw [decide_eq_true HXY.out]), hkp⟩
  · have hxy : ¬ xs = ys := by
      rintro rfl
      have := H1.out
      have := H2.out
      omega
    have HXY := Lib.hid hxy
    clear hxy
    have hnb : ((n : Int) == (m : Int)) = false := by rw [beq_eq_false_iff_ne]; omega
    go_enter Try.func13, Try.ntmps13
    go_wp2_with fail
    go_ret
    exact ⟨ret_bool (by rw [decide_eq_false HXY.out]), Kp.rfl_ _ _⟩
end Go.Proofs.Ytglehfpddhkoeaa
