/- Package carve: how many chunks, the chunks, whether parts fit; and the document's own. -/
import Derived.Test.YtencpplopdogmaaDoorSame
import Derived.Deep.LoopGhost
import Derived.BigQuiet
import Derived.Deep.QuietTactic
namespace Go.Proofs.YtencpplopdogmaaDoor
set_option maxRecDepth 100000
open Go.RowKit
set_option linter.unusedVariables false

def cnt (n : Nat) : Nat := (n + 63) / 64
def cntZ (n : Int) : Int := if n < 0 then 0 else (n + 63) / 64
def chk (l : List UInt8) (i : Nat) : List UInt8 := (l.drop (64 * i)).take 64
def chunks (l : List UInt8) (k : Nat) : List ByteArray := (List.range k).map fun i => bs (chk l i)
theorem chunks_succ (l : List UInt8) (k : Nat) : chunks l (k + 1) = chunks l k ++ [bs (chk l k)] := by
  unfold chunks
  rw [List.range_succ, List.map_append]
  rfl
theorem chunks_length (l : List UInt8) (k : Nat) : (chunks l k).length = k := by simp [chunks]

set_option maxHeartbeats 400000 in
theorem count_any (n : Int) (w : World) (h1 : -9223372036854775808 ≤ n) (h2 : n ≤ 9223372036854775807) :
    Calls Tryd.prog 31 #[.int .i64 n] w fun e w' => e = .returned (.int .i64 (cntZ n)) ∧ w = w' := by
  by_cases hn : n < 0
  · go_enter Tryd.func31, Tryd.ntmps31
    go_wp2
    go_ret
    exact ⟨ret_int (by unfold cntZ; rw [if_pos hn]), rfl⟩
  · by_cases hm : 0 < n % 64
    · go_enter Tryd.func31, Tryd.ntmps31
      go_wp2
      go_ret
      exact ⟨ret_int (by unfold cntZ; rw [if_neg (by omega)]; omega), rfl⟩
    · go_enter Tryd.func31, Tryd.ntmps31
      go_wp2
      go_ret
      exact ⟨ret_int (by unfold cntZ; rw [if_neg (by omega)]; omega), rfl⟩
set_option maxHeartbeats 400000 in
theorem rcount_any (n : Int) (w : World) (h1 : -9223372036854775808 ≤ n) (h2 : n ≤ 9223372036854775807) :
    Calls Tryd.prog 32 #[.int .i64 n] w fun e w' => e = .returned (.int .i64 (cntZ n)) ∧ w = w' := by
  by_cases hn : n < 0
  · go_enter Tryd.func32, Tryd.ntmps32
    go_wp2
    go_ret
    exact ⟨ret_int (by unfold cntZ; rw [if_pos hn]), rfl⟩
  · by_cases hm : n / 64 * 64 < n
    · go_enter Tryd.func32, Tryd.ntmps32
      go_wp2
      go_ret
      exact ⟨ret_int (by unfold cntZ; rw [if_neg (by omega)]; omega), rfl⟩
    · go_enter Tryd.func32, Tryd.ntmps32
      go_wp2
      go_ret
      exact ⟨ret_int (by unfold cntZ; rw [if_neg (by omega)]; omega), rfl⟩

/-- The program's chunks, in new memory. -/
def Cuts (l : List UInt8) (k : Nat) (w : World) (e : Ending) (w' : World) : Prop := ∃ v, e = .returned v ∧ w'.ownsRow w.heap.size 9 1 v k ((chunks l k).map Value.string) ∧ Kp [] w w'
set_option maxRecDepth 100000 in
set_option maxHeartbeats 1000000 in
theorem cut_any (s : ByteArray) (w : World) (hs : s.size ≤ 1000000000) :
    Calls Tryd.prog 23 #[.string s] w (Cuts s.data.toList (cnt s.size) w) := by
  obtain ⟨l, hl⟩ : ∃ l, s.data.toList = l := ⟨_, rfl⟩
  have hll : l.length = s.size := by rw [← hl]; simp
  obtain ⟨N, hN⟩ : ∃ N, s.size = N := ⟨_, rfl⟩
  have hsb : bs (l.drop (64 * 0)) = s := by rw [← hl]; exact bs_of s
  rw [hl, hN]
  rw [hN] at hs hll
  have HLL := Lib.hid hll
  have HSB := Lib.hid hsb
  have HN := Lib.hid hN
  clear hll hl hsb hN
  go_enter Tryd.func23, Tryd.ntmps23
  go_wp2_with fail
  go_loopg [0, 3] (N + 1) (fun gk d v wr => ∃ (k : Nat) (s : ByteArray), N + 1 - 64 * k ≤ gk ∧ d = .string s ∧ 64 * k < N + 64 ∧ bs (l.drop (64 * k)) = s ∧ s.size = N - 64 * k ∧ wr.ownsRow w.heap.size 9 1 v k ((chunks l k).map Value.string) ∧ Below w.heap.size w wr)
  case atStart => exact ⟨0, s, by omega, rfl, by omega, HSB.out, by have := HN.out; omega, own_none _ _ _, Below.refl _ _⟩
  case round =>
    clear HN HSB
    clear s
    obtain ⟨k, s, hgk, rfl, hk, hs1, hs2, hown, hbel⟩ := hrel
    have HS1 := Lib.hid hs1
    have hss : s.size ≤ N - 64 * k := by omega
    have hss2 : N - 64 * k ≤ s.size := by omega
    clear hs1 hs2
    have hsz := hbel.size
    have hk9 : k ≤ 1099511627776 := by omega
    by_cases hlt : 0 < s.size
    · by_cases hbig : 64 < s.size
      · have hbi : (64 : Int) < (s.size : Int) := by omega
        have hc : s.extract 0 64 = bs (chk l k) := by rw [← HS1.out, bs_extract, List.drop_zero]; rfl
        have hr : s.extract 64 s.size = bs (l.drop (64 * (k + 1))) := by
          have e : s.size = (l.drop (64 * k)).length := by rw [← bs_size, HS1.out]
          rw [e, ← HS1.out, bs_extract, List.take_length, List.drop_drop]
          rfl
        have hrz : (bs (l.drop (64 * (k + 1)))).size = N - 64 * (k + 1) := by rw [bs_size, List.length_drop, HLL.out]
        have hch := chunks_succ l k
        obtain ⟨c, hcc⟩ : ∃ c, bs (chk l k) = c := ⟨_, rfl⟩
        obtain ⟨r, hrr⟩ : ∃ c, bs (l.drop (64 * (k + 1))) = c := ⟨_, rfl⟩
        rw [hcc] at hc hch
        rw [hrr] at hr hrz
        have HCH := Lib.hid hch
        have HRR := Lib.hid hrr
        have HRZ := Lib.hid hrz
        clear hcc hrr hch hrz
        go_wp2_with (at_builtin; go_must (refine wpl_one_str wr w.heap.size rfl _ _ rfl _ k _ c hown rfl rfl hsz hk9 ?_); intro v2 w2 hown2 hbel2 _)
        go_roundg (N + 1 - 64 * (k + 1))
        case measure => omega
        case rel => exact ⟨k + 1, r, by omega, rfl, by omega, HRR.out, HRZ.out, by rw [HCH.out, List.map_append]; exact hown2, hbel.trans hbel2⟩
      · have hbi : ¬ (64 : Int) < (s.size : Int) := by omega
        have hc : s.extract 0 s.size = bs (chk l k) := by
          have e : s.size = (l.drop (64 * k)).length := by rw [← bs_size, HS1.out]
          rw [e, ← HS1.out, bs_extract, List.drop_zero, List.take_length]
          unfold chk
          rw [List.take_of_length_le (by omega)]
        have hre : bs (l.drop (64 * (k + 1))) = ByteArray.empty := by
          rw [List.drop_eq_nil_of_le (by have := HLL.out; omega)]; rfl
        have hrz : ByteArray.empty.size = N - 64 * (k + 1) := by rw [show ByteArray.empty.size = 0 from rfl]; omega
        have hch := chunks_succ l k
        obtain ⟨c, hcc⟩ : ∃ c, bs (chk l k) = c := ⟨_, rfl⟩
        rw [hcc] at hc hch
        have HCH := Lib.hid hch
        have HRR := Lib.hid hre
        have HRZ := Lib.hid hrz
        clear hcc hch hre hrz
        go_wp2_with (at_builtin; go_must (refine wpl_one_str wr w.heap.size rfl _ _ rfl _ k _ c hown rfl rfl hsz hk9 ?_); intro v2 w2 hown2 hbel2 _)
        go_roundg (N + 1 - 64 * (k + 1))
        case measure => omega
        case rel => exact ⟨k + 1, ByteArray.empty, by omega, rfl, by omega, HRR.out, HRZ.out, by rw [HCH.out, List.map_append]; exact hown2, hbel.trans hbel2⟩
    · have hkn : k = cnt N := by unfold cnt; omega
      rw [hkn] at hown
      clear hkn
      go_wp2_with fail
      go_ret
      exact ⟨_, rfl, hown, Kp.of_below hbel⟩
end Go.Proofs.YtencpplopdogmaaDoor
