/- The document's own bytes of numbers and texts. -/
import Derived.Test.YtencjlkmpodghaaPkA
import Derived.Test.YtencjlkmpodghaaPkT
namespace Go.Proofs.Ytencjlkmpodghaa
set_option maxRecDepth 100000
open Go.RowKit
set_option linter.unusedVariables false

theorem conv_one (w : World) (x : Int) (b : UInt8) (hx : x = (b.toNat : Int)) :
    (convert 31 9 (.slice (some ⟨w.heap.size, 0, none⟩) 1 1)).run Try.prog (w.alloc (.cells #[.int .u8 x] 5)) = .ok (.string ⟨#[b]⟩) (w.alloc (.cells #[.int .u8 x] 5)) := by
  subst hx
  refine run_convert_bytes_back (P := Try.prog) _ 31 9 5 ⟨w.heap.size, 0, none⟩ 1 [b] Try.underlying31 Try.underlying5 Try.underlying9 fun j hj => ?_
  obtain rfl : j = 0 := by simp at hj; omega
  exact ((At.new w _ _).cell 0).trans rfl
def OutIs (z : Nat) (s : ByteArray) (k : Nat) : Prop := s.data.toList ++ enc k = enc z
theorem push_list (s : ByteArray) (b : UInt8) : (s ++ ByteArray.mk #[b]).data.toList = s.data.toList ++ [b] := by simp
theorem OutIs.step {z k : Nat} {s : ByteArray} {b : UInt8} (h : OutIs z s k) (hk : 128 ≤ k) (hb : UInt8.ofNat (k % 128 + 128) = b) : OutIs z (s ++ ⟨#[b]⟩) (k / 128) := by
  unfold OutIs at h ⊢
  rw [push_list, ← h, enc_big hk, hb]
  simp
theorem OutIs.last {z : Nat} {s : ByteArray} {b : UInt8} (h : OutIs z s b.toNat) (hk : b.toNat < 128) : (s ++ ByteArray.mk #[b]).data.toList = enc z := by
  unfold OutIs at h
  rw [push_list, ← h, enc_small hk]
  simp
theorem OutIs.size_le {z k : Nat} {s : ByteArray} (h : OutIs z s k) (hz : z ≤ 18446744073709551615) : s.size ≤ 10 := by
  have h1 := congrArg List.length h
  have h2 := (enc_len10 hz).2
  simp only [List.length_append, Array.length_toList, ByteArray.size_data] at h1
  omega
set_option maxRecDepth 100000 in
set_option maxHeartbeats 1000000 in
theorem rnum_any (n : Int) (w : World) (h1 : -9223372036854775808 ≤ n) (h2 : n ≤ 9223372036854775807) :
    Calls Try.prog 43 #[.int .i64 n] w fun e w' => ∃ s : ByteArray, e = .returned (.string s) ∧ s.data.toList = numB n ∧ Kp [] w w' := by
  unfold numB
  obtain ⟨z, hz⟩ : ∃ z, fold n = z := ⟨_, rfl⟩
  have hzb := fold_lt h1 h2
  rw [hz] at hzb ⊢
  by_cases hn : n < 0
  · obtain ⟨m, hm⟩ : ∃ m, IntKind.u64.wrap n = m := ⟨_, rfl⟩
    obtain ⟨m2, hm2⟩ : ∃ m2, IntKind.u64.wrap (m * 2) = m2 := ⟨_, rfl⟩
    obtain ⟨m3, hm3⟩ : ∃ m3, IntKind.u64.wrap (-m2) = m3 := ⟨_, rfl⟩
    have hm4 : IntKind.u64.wrap (m3 - 1) = (z : Int) := by
      rw [← hz, ← hm3, ← hm2, ← hm]
      unfold fold
      rw [if_pos hn]
      simp only [IntKind.wrap_u64]
      omega
    clear hz
    go_enter Try.func43, Try.ntmps43
    go_wp2_with fail
    go_loopg [3, 4] z (fun gk i o wr => ∃ (k : Nat) (s : ByteArray), k ≤ gk ∧ i = .int .u64 k ∧ o = .string s ∧ k ≤ 18446744073709551615 ∧ OutIs z s k ∧ s.size ≤ 100 ∧ Kp [] w wr)
    case atStart => exact ⟨z, ⟨#[]⟩, Nat.le_refl _, rfl, rfl, hzb, rfl, by decide, Kp.rfl_ _ _⟩
    case round =>
      clear hm hm2 hm3 hm4
      obtain ⟨k, s, hgk, rfl, rfl, hk, ho, hsz, hkp⟩ := hrel
      by_cases hbig : 128 ≤ k
      · obtain ⟨b, hbn, hbe⟩ : ∃ b : UInt8, UInt8.ofNat (k % 128 + 128) = b ∧ ((k : Int) % 128 + 128) = ((b.toNat : Nat) : Int) := ⟨_, rfl, by rw [u8_of (by omega)]; omega⟩
        have hcv := conv_one wr _ b hbe
        have hst := ho.step hbig hbn
        have hs2 := hst.size_le hzb
        clear hbe hbn
        go_wp2_with fail
        go_roundg (k / 128)
        case measure => omega
        case rel => exact ⟨k / 128, s ++ ⟨#[b]⟩, Nat.le_refl _, by go_num, rfl, by omega, hst, by omega, hkp.alloc _⟩
      · obtain ⟨b, rfl⟩ : ∃ b : UInt8, k = b.toNat := ⟨UInt8.ofNat k, by rw [u8_of (by omega)]⟩
        have hcv := conv_one wr _ b rfl
        have hst := ho.last (by omega)
        have HST := Lib.hid hst
        clear hst
        go_wp2_with fail
        go_ret
        exact ⟨_, rfl, HST.out, hkp.alloc _⟩
  · obtain ⟨m, hm⟩ : ∃ m, IntKind.u64.wrap n = m := ⟨_, rfl⟩
    have hm2 : IntKind.u64.wrap (m * 2) = (z : Int) := by
      rw [← hz, ← hm]
      unfold fold
      rw [if_neg hn]
      simp only [IntKind.wrap_u64]
      omega
    have hnn : n * 2 = (z : Int) := by
      rw [← hz]; unfold fold; rw [if_neg hn]; omega
    clear hz
    go_enter Try.func43, Try.ntmps43
    go_wp2_with fail
    go_loopg [3, 4] z (fun gk i o wr => ∃ (k : Nat) (s : ByteArray), k ≤ gk ∧ i = .int .u64 k ∧ o = .string s ∧ k ≤ 18446744073709551615 ∧ OutIs z s k ∧ s.size ≤ 100 ∧ Kp [] w wr)
    case atStart => exact ⟨z, ⟨#[]⟩, Nat.le_refl _, rfl, rfl, hzb, rfl, by decide, Kp.rfl_ _ _⟩
    case round =>
      clear hm hm2 hnn
      obtain ⟨k, s, hgk, rfl, rfl, hk, ho, hsz, hkp⟩ := hrel
      by_cases hbig : 128 ≤ k
      · obtain ⟨b, hbn, hbe⟩ : ∃ b : UInt8, UInt8.ofNat (k % 128 + 128) = b ∧ ((k : Int) % 128 + 128) = ((b.toNat : Nat) : Int) := ⟨_, rfl, by rw [u8_of (by omega)]; omega⟩
        have hcv := conv_one wr _ b hbe
        have hst := ho.step hbig hbn
        have hs2 := hst.size_le hzb
        clear hbe hbn
        go_wp2_with fail
        go_roundg (k / 128)
        case measure => omega
        case rel => exact ⟨k / 128, s ++ ⟨#[b]⟩, Nat.le_refl _, by go_num, rfl, by omega, hst, by omega, hkp.alloc _⟩
      · obtain ⟨b, rfl⟩ : ∃ b : UInt8, k = b.toNat := ⟨UInt8.ofNat k, by rw [u8_of (by omega)]⟩
        have hcv := conv_one wr _ b rfl
        have hst := ho.last (by omega)
        have HST := Lib.hid hst
        clear hst
        go_wp2_with fail
        go_ret
        exact ⟨_, rfl, HST.out, hkp.alloc _⟩
end Go.Proofs.Ytencjlkmpodghaa
