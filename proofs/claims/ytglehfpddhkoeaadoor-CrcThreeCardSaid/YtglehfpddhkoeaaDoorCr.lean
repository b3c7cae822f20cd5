/- Package crc: a byte taken, a sum of parts; the document's own. -/
import Derived.Test.YtglehfpddhkoeaaDoorBs
import Derived.Test.YtglehfpddhkoeaaDoorCrM
import Derived.Deep.LoopGhost
import Derived.Laws.BitsAllLaws
import Derived.Laws.BitsLemmas
namespace Go.Proofs.YtglehfpddhkoeaaDoor
set_option maxRecDepth 100000
open Go.RowKit
set_option linter.unusedVariables false

/-- The table lies where the program lays it. -/
def Tab (w : World) : Prop := 0 < w.heap.size ∧ ∀ j, j < 16 → w.cell? ⟨0, j, none⟩ = some (.int .u32 (Crc.tb j))
theorem Tab.kp {w w' : World} (h : Tab w) (k : Kp [] w w') : Tab w' := ⟨Nat.lt_of_lt_of_le h.1 k.size, fun j hj => (k.cell (p := ⟨0, j, none⟩) h.1 (by simp)).trans (h.2 j hj)⟩
theorem tb_lt {j : Nat} (h : j < 16) : Crc.tb j < 4294967296 := (Crc.tb_all ⟨j, h⟩).2

set_option maxHeartbeats 1000000 in
theorem take_any (r : Nat) (b : UInt8) (w : World) (ht : Tab w) (hr : r < 4294967296) :
    Calls Tryd.prog 13 #[.int .u32 r, .int .u8 b.toNat] w fun e w' => e = .returned (.int .u32 (Crc.tak r b.toNat)) ∧ w = w' := by
  have hb := b.toNat_lt
  have hx := u32_xor_nat r b.toNat hr (by omega)
  have hxl := Crc.xor_lt32 (a := r) (b := b.toNat) hr (by omega)
  obtain ⟨x, hxx⟩ : ∃ x, r ^^^ b.toNat = x := ⟨_, rfl⟩
  rw [hxx] at hx hxl
  have h1 := ht.2 (x % 16) (by omega)
  have hl1 := tb_lt (j := x % 16) (by omega)
  have hx1 := u32_xor_nat (x / 16) (Crc.tb (x % 16)) (by omega) hl1
  have hy := Crc.stp4 x
  have hyl := Crc.stpN_lt 4 x hxl
  rw [← hy] at hx1
  have hres : Crc.stpN 4 (Crc.stpN 4 x) = Crc.tak r b.toNat := by rw [Crc.tak_half, hxx]
  clear hxx hy
  generalize Crc.stpN 4 x = y at *
  generalize Crc.tb (x % 16) = t1 at *
  have h2 := ht.2 (y % 16) (by omega)
  have hl2 := tb_lt (j := y % 16) (by omega)
  have hx2 := u32_xor_nat (y / 16) (Crc.tb (y % 16)) (by omega) hl2
  rw [← Crc.stp4 y, hres] at hx2
  have HRES := Lib.hid hres
  clear hres ht
  generalize Crc.tb (y % 16) = t2 at *
  generalize Crc.tak r b.toNat = z at *
  rw [show ((x / 16 : Nat) : Int) = (x : Int) / 16 from rfl] at hx1
  rw [show ((y / 16 : Nat) : Int) = (y : Int) / 16 from rfl] at hx2
  go_enter Tryd.func13, Tryd.ntmps13
  go_wp2_with fail
  go_ret
  exact ⟨rfl, rfl⟩

theorem str_at_ {w : World} {A : Option Addr} {n k : Nat} {zs : List ByteArray} (h : Ls w A n (zs.map Value.string)) (hk : k < n) : ∃ ad z, A = some ad ∧ zs[k]? = some z ∧ w.cell? (ad.add k) = some (Value.string z) := by
  obtain ⟨ad, u, e, _, hu, hc⟩ := h.at_ hk
  have hl : k < zs.length := by have := h.1; simp at this; omega
  rw [List.getElem?_map, List.getElem?_eq_getElem hl] at hu
  injection hu with hu
  subst hu
  exact ⟨ad, _, e, List.getElem?_eq_getElem hl, hc⟩
theorem run_snoc {l : List UInt8} {k r : Nat} {b : UInt8} (h : l[k]? = some b) : Crc.run r (l.take (k + 1)) = Crc.tak (Crc.run r (l.take k)) b.toNat := by
  rw [List.take_add_one, h, Crc.run_append]
  rfl

theorem not32 {s : Nat} (h : s < 4294967296) : bits .xor .u32 IntKind.u32.max (s : Int) = ((Crc.M - s : Nat) : Int) := by
  have e : IntKind.u32.max = ((Crc.M : Nat) : Int) := by decide
  rw [e, u32_xor_nat Crc.M s (by decide) h, Crc.not_xor h]
set_option maxRecDepth 100000 in
set_option maxHeartbeats 1000000 in
theorem more_any (s : Nat) (A : Option Addr) (n c : Nat) (ss : List ByteArray) (w : World) (ht : Tab w) (hs : s < 4294967296) (hL : Ls w A n (ss.map Value.string)) (hz : ∀ z ∈ ss, z.size ≤ maxLen) (hn : n ≤ maxLen) :
    Calls Tryd.prog 11 #[.int .u32 s, .slice A n c] w fun e w' => e = .returned (.int .u32 (Crc.more s (flat ss))) ∧ w = w' := by
  unfold maxLen at hn
  have h1 : ss.length = n := by simpa using hL.1
  have H1 := Lib.hid h1
  clear h1
  have hnot := not32 hs
  have hr0 : Crc.M - s < 4294967296 := by unfold Crc.M; omega
  have hfin : Crc.M - Crc.run (Crc.M - s) (flat ss) = Crc.more s (flat ss) := rfl
  have HFIN := Lib.hid hfin
  clear hfin
  generalize Crc.M - s = r0 at *
  go_enter Tryd.func11, Tryd.ntmps11
  go_wp2_with fail
  go_loopg [5, 13] n (fun gk r i wr => ∃ k : Nat, n - k ≤ gk ∧ i = .int .i64 k ∧ k ≤ n ∧ r = .int .u32 (Crc.run r0 (flat (ss.take k))) ∧ w = wr)
  case atStart => exact ⟨0, by omega, rfl, Nat.zero_le _, rfl, rfl⟩
  case round =>
    obtain ⟨k, hgk, rfl, hk, rfl, rfl⟩ := hrel
    have hrl := Crc.run_lt (flat (ss.take k)) r0 hr0
    by_cases hlt : k < n
    · obtain ⟨ad, z, rfl, hzk, hc⟩ := str_at_ hL hlt
      have hzs := hz z (List.mem_of_getElem? hzk)
      unfold maxLen at hzs
      have hst : Crc.run r0 (flat (ss.take (k + 1))) = Crc.run (Crc.run r0 (flat (ss.take k))) z.data.toList := by rw [flat_succ hzk, Crc.run_append]
      have HST := Lib.hid hst
      clear hst hzk hnot
      generalize Crc.run r0 (flat (ss.take k)) = rk at *
      go_wp2_with fail
      go_loopg [5, 19] z.size (fun gk r i wr => ∃ j : Nat, z.size - j ≤ gk ∧ i = .int .i64 j ∧ j ≤ z.size ∧ r = .int .u32 (Crc.run rk (z.data.toList.take j)) ∧ w = wr)
      case atStart => exact ⟨0, by omega, rfl, Nat.zero_le _, rfl, rfl⟩
      case round =>
        obtain ⟨j, hgj, rfl, hj, rfl, rfl⟩ := hrel
        have hrj := Crc.run_lt (z.data.toList.take j) rk hrl
        by_cases hjt : j < z.size
        · obtain ⟨b, hb, hbl⟩ := byte_at hjt
          have hsn := run_snoc (r := rk) hbl
          have HSN := Lib.hid hsn
          clear hsn hbl
          generalize Crc.run rk (z.data.toList.take j) = rj at *
          go_wp2_with fail
          refine (take_any rj b w ht hrj).mono ?_
          rintro e w1 ⟨rfl, rfl⟩
          go_wp2_with fail
          go_roundg (z.size - (j + 1))
          case measure => omega
          case rel => exact ⟨j + 1, by omega, by go_num, by omega, by rw [HSN.out], rfl⟩
        · have hjz : z.data.toList.take j = z.data.toList := List.take_of_length_le (by simp; omega)
          rw [hjz]
          have HS2 := HST.out.symm
          have HS3 := Lib.hid HS2
          clear hjz HS2 HST
          go_wp2_with fail
          go_roundg (n - (k + 1))
          case measure => omega
          case rel => exact ⟨k + 1, by omega, by go_num, by omega, by rw [HS3.out], rfl⟩
    · have hkn : ss.take k = ss := List.take_of_length_le (by have := H1.out; omega)
      rw [hkn] at hrl
      rw [hkn]
      have hn2 := not32 hrl
      rw [HFIN.out] at hn2
      obtain ⟨m, hm⟩ : ∃ m, Crc.more s (flat ss) = m := ⟨_, rfl⟩
      rw [hm] at hn2
      have HM := Lib.hid hm
      clear hkn hnot HFIN hm
      generalize Crc.run r0 (flat ss) = rr at *
      go_wp2_with fail
      go_ret
      exact ⟨ret_int (by rw [HM.out]), rfl⟩

theorem sum_any (A : Option Addr) (n c : Nat) (ss : List ByteArray) (w : World) (ht : Tab w) (hL : Ls w A n (ss.map Value.string)) (hz : ∀ z ∈ ss, z.size ≤ maxLen) (hn : n ≤ maxLen) :
    Calls Tryd.prog 9 #[.slice A n c] w fun e w' => e = .returned (.int .u32 (Crc.more 0 (flat ss))) ∧ w = w' := by
  obtain ⟨m, hm⟩ : ∃ m, Crc.more 0 (flat ss) = m := ⟨_, rfl⟩
  have HM := Lib.hid hm
  rw [hm]
  clear hm
  go_enter Tryd.func9, Tryd.ntmps9
  go_wp2_with fail
  refine (more_any 0 A n c ss w ht (by omega) hL hz hn).mono ?_
  rintro e w1 ⟨rfl, rfl⟩
  have hm := HM.out
  clear HM
  go_wp2_with fail
  go_ret
  exact ⟨ret_int rfl, rfl⟩
theorem sum_to (A : Option Addr) (n c : Nat) (ss : List ByteArray) (m : Nat) (w : World) (hm : Crc.more 0 (flat ss) = m) (ht : Tab w) (hL : Ls w A n (ss.map Value.string)) (hz : ∀ z ∈ ss, z.size ≤ maxLen) (hn : n ≤ maxLen) :
    Calls Tryd.prog 9 #[.slice A n c] w fun e w' => e = .returned (.int .u32 m) ∧ w = w' := by
  rw [← hm]
  exact sum_any A n c ss w ht hL hz hn
theorem more_to (s : Nat) (A : Option Addr) (n c : Nat) (ss : List ByteArray) (m : Nat) (w : World) (hm : Crc.more s (flat ss) = m) (ht : Tab w) (hs : s < 4294967296) (hL : Ls w A n (ss.map Value.string)) (hz : ∀ z ∈ ss, z.size ≤ maxLen) (hn : n ≤ maxLen) :
    Calls Tryd.prog 11 #[.int .u32 s, .slice A n c] w fun e w' => e = .returned (.int .u32 m) ∧ w = w' := by
  rw [← hm]
  exact more_any s A n c ss w ht hs hL hz hn

theorem odd_int {k : Nat} (h : k % 2 = 1) : ((k : Int) % 2 == 1) = true := by rw [beq_iff_eq]; omega
theorem even_int {k : Nat} (h : ¬ k % 2 = 1) : ((k : Int) % 2 == 1) = false := by rw [beq_eq_false_iff_ne]; omega
theorem taken_step {r b k t : Nat} (hk : k < 8) (hr : Crc.stpN (8 - k) (r ^^^ b) = t) (hb : b < 2 ^ (8 - k)) (r' : Nat) (h : (if (r % 2 + b % 2) % 2 = 1 then (r / 2) ^^^ Crc.P else r / 2) = r') :
    Crc.stpN (8 - (k + 1)) (r' ^^^ (b / 2)) = t ∧ b / 2 < 2 ^ (8 - (k + 1)) := by
  obtain ⟨j, hj⟩ : ∃ j, 8 - k = j + 1 := ⟨7 - k, by omega⟩
  rw [hj] at hr hb
  rw [show 8 - (k + 1) = j by omega]
  refine ⟨?_, by rw [Nat.pow_succ] at hb; omega⟩
  rw [← hr, Crc.stpN, ← Crc.bit_step, h]
set_option maxRecDepth 100000 in
set_option maxHeartbeats 1000000 in
theorem rtaken_any (r0 : Nat) (b0 : UInt8) (w : World) (hr : r0 < 4294967296) :
    Calls Tryd.prog 14 #[.int .u32 r0, .int .u8 b0.toNat] w fun e w' => e = .returned (.int .u32 (Crc.tak r0 b0.toNat)) ∧ w = w' := by
  obtain ⟨t, htk⟩ : ∃ t, Crc.tak r0 b0.toNat = t := ⟨_, rfl⟩
  rw [htk]
  have HT := Lib.hid htk
  clear htk
  have hbl := b0.toNat_lt
  go_enter Tryd.func14, Tryd.ntmps14
  go_wp2_with fail
  go_loopg [0, 1, 5] 8 (fun gk rv bv i wr => ∃ k r b : Nat, 8 - k ≤ gk ∧ i = .int .i64 k ∧ k ≤ 8 ∧ rv = .int .u32 r ∧ bv = .int .u8 b ∧ r < 4294967296 ∧ b < 256 ∧ Crc.stpN (8 - k) (r ^^^ b) = t ∧ b < 2 ^ (8 - k) ∧ w = wr)
  case atStart => exact ⟨0, r0, b0.toNat, by omega, rfl, Nat.zero_le _, rfl, rfl, hr, by omega, HT.out, by omega, rfl⟩
  case round =>
    obtain ⟨k, r, b, hgk, rfl, hk, rfl, rfl, hrl, hb, hst, hb2, rfl⟩ := hrel
    have HS := Lib.hid hst
    have HB := Lib.hid hb2
    clear hst hb2 hbl hr HT
    by_cases hlt : k < 8
    · have hkk : (k : Int) < 8 := by omega
      have hxor := u32_xor_nat (r / 2) 3988292384 (by omega) (by omega)
      rw [show ((r / 2 : Nat) : Int) = (r : Int) / 2 from rfl, show ((3988292384 : Nat) : Int) = 3988292384 from rfl] at hxor
      have hxl := Crc.xor_lt32 (a := r / 2) (b := 3988292384) (by omega) (by omega)
      obtain ⟨x, hx⟩ : ∃ x, r / 2 ^^^ 3988292384 = x := ⟨_, rfl⟩
      have HX := Lib.hid hx
      rw [hx] at hxor hxl
      clear hx
      by_cases hr1 : r % 2 = 1 <;> by_cases hb1 : b % 2 = 1
      · have f1 := odd_int hr1
        have f2 := odd_int hb1
        have hn := taken_step hlt HS.out HB.out (r / 2) (by rw [if_neg (by omega)])
        have HN := Lib.hid hn
        clear hn hr1 hb1
        go_wp2_with fail
        go_roundg (8 - (k + 1))
        case measure => omega
        case rel => exact ⟨k + 1, r / 2, b / 2, by omega, by go_num, by omega, rfl, rfl, by omega, by omega, HN.out.1, HN.out.2, rfl⟩
      · have f1 := odd_int hr1
        have f2 := even_int hb1
        have hn := taken_step hlt HS.out HB.out x (by rw [if_pos (by omega)]; exact HX.out)
        have HN := Lib.hid hn
        clear hn hr1 hb1
        go_wp2_with fail
        go_roundg (8 - (k + 1))
        case measure => omega
        case rel => exact ⟨k + 1, x, b / 2, by omega, by go_num, by omega, rfl, rfl, hxl, by omega, HN.out.1, HN.out.2, rfl⟩
      · have f1 := even_int hr1
        have f2 := odd_int hb1
        have hn := taken_step hlt HS.out HB.out x (by rw [if_pos (by omega)]; exact HX.out)
        have HN := Lib.hid hn
        clear hn hr1 hb1
        go_wp2_with fail
        go_roundg (8 - (k + 1))
        case measure => omega
        case rel => exact ⟨k + 1, x, b / 2, by omega, by go_num, by omega, rfl, rfl, hxl, by omega, HN.out.1, HN.out.2, rfl⟩
      · have f1 := even_int hr1
        have f2 := even_int hb1
        have hn := taken_step hlt HS.out HB.out (r / 2) (by rw [if_neg (by omega)])
        have HN := Lib.hid hn
        clear hn hr1 hb1
        go_wp2_with fail
        go_roundg (8 - (k + 1))
        case measure => omega
        case rel => exact ⟨k + 1, r / 2, b / 2, by omega, by go_num, by omega, rfl, rfl, by omega, by omega, HN.out.1, HN.out.2, rfl⟩
    · have hkk : ¬ (k : Int) < 8 := by omega
      have hfin : r = t := by
        have h1 := HB.out
        have h2 := HS.out
        rw [show 8 - k = 0 by omega] at h1 h2
        obtain rfl : b = 0 := by omega
        rw [← h2, Nat.xor_zero]
        rfl
      have HF := Lib.hid hfin
      clear hfin
      go_wp2_with fail
      go_ret
      exact ⟨ret_int (by rw [HF.out]), rfl⟩

set_option maxRecDepth 100000 in
set_option maxHeartbeats 1000000 in
theorem rmore_any (s : Nat) (z : ByteArray) (w : World) (hs : s < 4294967296) (hz : z.size ≤ maxLen) :
    Calls Tryd.prog 12 #[.int .u32 s, .string z] w fun e w' => e = .returned (.int .u32 (Crc.more s z.data.toList)) ∧ w = w' := by
  unfold maxLen at hz
  have hr0 : Crc.M - s < 4294967296 := by unfold Crc.M; omega
  have hfin : Crc.M - Crc.run (Crc.M - s) z.data.toList = Crc.more s z.data.toList := rfl
  have hse : (4294967295 : Int) - (s : Int) = ((Crc.M - s : Nat) : Int) := by unfold Crc.M; omega
  have HFIN := Lib.hid hfin
  clear hfin
  generalize Crc.M - s = r0 at *
  go_enter Tryd.func12, Tryd.ntmps12
  go_wp2_with fail
  go_loopg [5, 6] z.size (fun gk r i wr => ∃ k : Nat, z.size - k ≤ gk ∧ i = .int .i64 k ∧ k ≤ z.size ∧ r = .int .u32 (Crc.run r0 (z.data.toList.take k)) ∧ w = wr)
  case atStart => exact ⟨0, by omega, rfl, Nat.zero_le _, rfl, rfl⟩
  case round =>
    clear hse
    obtain ⟨k, hgk, rfl, hk, rfl, rfl⟩ := hrel
    have hrl := Crc.run_lt (z.data.toList.take k) r0 hr0
    by_cases hlt : k < z.size
    · obtain ⟨b, hb, hbl⟩ := byte_at hlt
      have hsn := run_snoc (r := r0) hbl
      have HSN := Lib.hid hsn
      clear hsn hbl
      generalize Crc.run r0 (z.data.toList.take k) = rj at *
      go_wp2_with fail
      refine (rtaken_any rj b w hrl).mono ?_
      rintro e w1 ⟨rfl, rfl⟩
      go_wp2_with fail
      go_roundg (z.size - (k + 1))
      case measure => omega
      case rel => exact ⟨k + 1, by omega, by go_num, by omega, by rw [HSN.out], rfl⟩
    · have hkn : z.data.toList.take k = z.data.toList := List.take_of_length_le (by simp; omega)
      rw [hkn] at hrl
      rw [hkn]
      obtain ⟨m, hm⟩ : ∃ m, Crc.more s z.data.toList = m := ⟨_, rfl⟩
      have HM := Lib.hid hm
      have hsub := HFIN.out
      rw [hm] at hsub
      have hse2 : (4294967295 : Int) - ((Crc.run r0 z.data.toList : Nat) : Int) = (m : Int) := by unfold Crc.M at hsub; omega
      clear hkn HFIN hm hsub
      generalize Crc.run r0 z.data.toList = rr at *
      go_wp2_with fail
      go_ret
      exact ⟨ret_int (by rw [HM.out]), rfl⟩
theorem rmore_to (s m : Nat) (z : ByteArray) (w : World) (hm : Crc.more s z.data.toList = m) (hs : s < 4294967296) (hz : z.size ≤ maxLen) :
    Calls Tryd.prog 12 #[.int .u32 s, .string z] w fun e w' => e = .returned (.int .u32 m) ∧ w = w' := by
  rw [← hm]
  exact rmore_any s z w hs hz
set_option maxHeartbeats 1000000 in
theorem rsum_to (m : Nat) (z : ByteArray) (w : World) (hm : Crc.more 0 z.data.toList = m) (hz : z.size ≤ maxLen) :
    Calls Tryd.prog 10 #[.string z] w fun e w' => e = .returned (.int .u32 m) ∧ w = w' := by
  have HM := Lib.hid hm
  clear hm
  go_enter Tryd.func10, Tryd.ntmps10
  go_wp2_with fail
  refine (rmore_to 0 m z w HM.out (by omega) hz).mono ?_
  rintro e w1 ⟨rfl, rfl⟩
  go_wp2_with fail
  go_ret
  exact ⟨rfl, rfl⟩
end Go.Proofs.YtglehfpddhkoeaaDoor
