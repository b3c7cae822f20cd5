/- CrcTurned. -/
import Derived.Test.YtglehfpddhkoeaaDoorCrL
import Derived.Test.YtglehfpddhkoeaaDoorBuf
import Derived.ChangeAlike
import Derived.RegionTactic
namespace Go.Proofs.YtglehfpddhkoeaaDoor
open Go.RowKit
set_option linter.unusedVariables false

theorem modk2 (a : Int) (n : Nat) (h1 : -9223372036854775808 ≤ a) (h2 : a ≤ 9223372036854775807) (h0 : 5 ≤ n) (hn : n ≤ 4096) : ∃ k : Nat, wrap64 ((IntKind.u64.wrap a).tmod (8 * ((n : Int) - 4))) = (k : Int) ∧ k < 8 * (n - 4) := by
  obtain ⟨m, hm⟩ : ∃ m : Nat, 8 * (n - 4) = m + 1 := ⟨8 * (n - 4) - 1, by omega⟩
  obtain ⟨k, hk, hkm⟩ := modk a m h1 h2 (by omega)
  refine ⟨k, ?_, by omega⟩
  rw [← hk]
  congr 2
  omega
theorem mul_xor (k a b : Nat) : 2 ^ k * (a ^^^ b) = 2 ^ k * a ^^^ 2 ^ k * b := by
  apply Nat.eq_of_testBit_eq
  intro i
  rw [Nat.testBit_xor, Nat.testBit_two_pow_mul, Nat.testBit_two_pow_mul, Nat.testBit_two_pow_mul, Nat.testBit_xor]
  by_cases hi : k ≤ i <;> simp [hi]
theorem mod_bit0 {q i : Nat} (h : q / 2 ^ i % 2 = 0) : q % 2 ^ (i + 1) = q % 2 ^ i := by
  rw [Nat.pow_succ, Nat.mod_mul, h, Nat.mul_zero, Nat.add_zero]
theorem mod_bit1 {q i : Nat} (h : q / 2 ^ i % 2 = 1) : q % 2 ^ (i + 1) = q % 2 ^ i ^^^ 2 ^ i := by
  rw [Nat.pow_succ, Nat.mod_mul, h, Nat.mul_one, Nat.xor_comm, Nat.add_comm]
  have := Crc.add_xor (a := 1) i (Nat.mod_lt q (Nat.two_pow_pos i))
  rwa [Nat.mul_one] at this
set_option maxRecDepth 100000 in
set_option maxHeartbeats 2000000 in
theorem cturned (s : ByteArray) (at0 : Int) (q : Nat) (w : World) (ht : Tab w) (hs : 5 ≤ s.size) (hs2 : s.size ≤ 4096) (h1 : -9223372036854775808 ≤ at0) (h2 : at0 ≤ 9223372036854775807) (hq : q < 4294967296) (hq0 : q ≠ 0) :
    Calls Tryd.prog 5 #[.string s, .int .i64 at0, .int .u32 q] w (Yes w) := by
  obtain ⟨k, hk, hkn⟩ := modk2 at0 s.size h1 h2 hs (by omega)
  have hqb : ((q : Int) == 0) = false := by rw [beq_eq_false_iff_ne]; omega
  go_enter Tryd.func5, Tryd.ntmps5
  go_wp2_with fail
  refine (cawake _ ht).mono ?_
  rintro e w2 ⟨rfl, hk2⟩
  have ht2 := ht.kp hk2
  obtain ⟨c3, w3, hconv, hbuf, hk3, hsz3⟩ := run_bytes w2 s
  go_wp2_with fail
  rw [hk]
  have hlen0 : s.data.toList.length = s.size := by simp
  have hg : w.heap.size ≤ w2.heap.size := hk2.size
  obtain ⟨g, hgg⟩ : ∃ g, w2.heap.size = g := ⟨_, rfl⟩
  rw [hgg] at hbuf hg ⊢
  have hkp3 := hk2.trans hk3
  clear hconv hk hgg hk3
  go_loopg [37] 32 (fun gk iv wr => ∃ (i : Nat) (l : List UInt8), 32 - i ≤ gk ∧ iv = .int .i64 i ∧ i ≤ 32 ∧ Buf wr g l ∧ l.length = s.size ∧ Kp [] w wr ∧ Crc.val l = Crc.val s.data.toList ^^^ 2 ^ k * (q % 2 ^ i))
  case atStart => exact ⟨0, s.data.toList, by omega, rfl, by omega, hbuf, hlen0, hkp3, by rw [Nat.pow_zero, Nat.mod_one, Nat.mul_zero, Nat.xor_zero]⟩
  case round =>
    clear hbuf hkp3 hlen0 ht2 hk2
    obtain ⟨i, l, hgk, rfl, hi, hbuf, hlen, hkp, hval⟩ := hrel
    have HLEN := Lib.hid hlen
    have HVAL := Lib.hid hval
    clear hlen hval
    by_cases hlt : i < 32
    · have hi2 : (i : Int) < 32 := by omega
      have hand := u32_and_nat (q / 2 ^ i) 1 (Nat.lt_of_le_of_lt (Nat.div_le_self _ _) hq) (by decide)
      have e1 : ((q / 2 ^ i : Nat) : Int) = (q : Int) / 2 ^ i := by push_cast; rfl
      rw [e1, nat_mask1] at hand
      have hmod : q / 2 ^ i % 2 = 0 ∨ q / 2 ^ i % 2 = 1 := by omega
      rcases hmod with hm | hm
      · have hb : (bits .and .u32 ((q : Int) / 2 ^ i) 1 == 1) = false := by rw [show (1 : Int) = ((1 : Nat) : Int) from rfl, hand, hm]; rfl
        have hnext : Crc.val l = Crc.val s.data.toList ^^^ 2 ^ k * (q % 2 ^ (i + 1)) := by rw [HVAL.out, mod_bit0 hm]
        have HN := Lib.hid hnext
        clear hnext hand e1 hm
        go_wp2_with fail
        go_roundg (32 - (i + 1))
        case measure => omega
        case rel => exact ⟨i + 1, l, by omega, by go_num, by omega, hbuf, HLEN.out, hkp, HN.out⟩
      · have hb : (bits .and .u32 ((q : Int) / 2 ^ i) 1 == 1) = true := by rw [show (1 : Int) = ((1 : Nat) : Int) from rfl, hand, hm]; rfl
        have hj : (k + i) / 8 < l.length := by rw [HLEN.out]; omega
        obtain ⟨b, hbl⟩ : ∃ b, l[(k + i) / 8]? = some b := ⟨_, List.getElem?_eq_getElem hj⟩
        have hc := hbuf.cell hbl
        have hf := hbuf.free hj
        have hj1 : (0 : Int) ≤ ((k : Int) + (i : Int)) / 8 := by omega
        have hj2 : ((k : Int) + (i : Int)) / 8 < (s.size : Int) := by have := HLEN.out; omega
        have hxb : bits .xor .u8 ((b.toNat : Nat) : Int) (2 ^ ((k + i) % 8) % 256) = (((b ^^^ UInt8.ofNat (2 ^ ((k + i) % 8))).toNat : Nat) : Int) := by
          have hp : 2 ^ ((k + i) % 8) < 256 := Nat.lt_of_lt_of_le (Nat.pow_lt_pow_right (by omega) (Nat.mod_lt _ (by omega))) (by decide : 2 ^ 8 ≤ 256)
          have e : (2 : Int) ^ ((k + i) % 8) % 256 = ((2 ^ ((k + i) % 8) : Nat) : Int) := by
            rw [show (2 : Int) ^ ((k + i) % 8) = ((2 ^ ((k + i) % 8) : Nat) : Int) by push_cast; rfl]
            have key : ∀ x : Nat, x < 256 → (x : Int) % 256 = x := by omega
            exact key _ hp
          rw [e, u8_xor_nat b.toNat (2 ^ ((k + i) % 8)) b.toNat_lt hp, UInt8.toNat_xor, show (UInt8.ofNat (2 ^ ((k + i) % 8))).toNat = 2 ^ ((k + i) % 8) by simp [Nat.mod_eq_of_lt hp]]
        have hnext : Crc.val (l.set ((k + i) / 8) (b ^^^ UInt8.ofNat (2 ^ ((k + i) % 8)))) = Crc.val s.data.toList ^^^ 2 ^ k * (q % 2 ^ (i + 1)) := by
          rw [Crc.val_set l _ _ b hbl (Nat.mod_lt _ (by omega)), HVAL.out, mod_bit1 hm, Nat.xor_assoc]
          congr 1
          rw [show 8 * ((k + i) / 8) + (k + i) % 8 = k + i by omega, Nat.pow_add, mul_xor]
        have hlen' : (l.set ((k + i) / 8) (b ^^^ UInt8.ofNat (2 ^ ((k + i) % 8)))).length = s.size := by rw [List.length_set]; exact HLEN.out
        have hbuf2 := hbuf.set (j := (k + i) / 8) (b ^^^ UInt8.ofNat (2 ^ ((k + i) % 8)))
        have HN := Lib.hid hnext
        have HL2 := Lib.hid hlen'
        rw [← hxb] at hbuf2
        have hkp2 : Kp [] w (wr.setCell ⟨g, (k + i) / 8, none⟩ (.int .u8 (bits .xor .u8 ((b.toNat : Nat) : Int) (2 ^ ((k + i) % 8) % 256)))) := hkp.set (by simp; omega) _
        clear hand e1 hm hnext hlen' hxb hbuf
        go_wp2_with fail
        go_region
        clear hc hf hj1 hj2
        have hbuf3 : Buf (wr.setCell ⟨g, (k + i) / 8, none⟩ (.int .u8 (bits .xor .u8 ((b.toNat : Nat) : Int) (2 ^ ((k + i) % 8) % 256)))).drew g (l.set ((k + i) / 8) (b ^^^ UInt8.ofNat (2 ^ ((k + i) % 8)))) := hbuf2
        have hkp3 := hkp2.drew
        generalize (wr.setCell ⟨g, (k + i) / 8, none⟩ (.int .u8 (bits .xor .u8 ((b.toNat : Nat) : Int) (2 ^ ((k + i) % 8) % 256)))).drew = wq at *
        go_wp2_with fail
        go_roundg (32 - (i + 1))
        case measure => omega
        case rel => exact ⟨i + 1, _, by omega, by go_num, by omega, hbuf3, HL2.out, hkp3, HN.out⟩
    · obtain rfl : i = 32 := by omega
      have hq32 : q % 2 ^ 32 = q := Nat.mod_eq_of_lt (by omega)
      have hv : Crc.val l = Crc.val s.data.toList ^^^ 2 ^ k * q := by rw [HVAL.out, hq32]
      have hne := Crc.burst (a := s.data.toList) (b := l) (by rw [HLEN.out]; simp) hq hq0 (by simp; omega) hv
      have hback := hbuf.back c3 s.size HLEN.out
      obtain ⟨m, hm⟩ : ∃ m, Crc.more 0 (flat [bs l]) = m := ⟨_, rfl⟩
      obtain ⟨m2, hm2⟩ : ∃ m, Crc.more 0 (flat [s]) = m := ⟨_, rfl⟩
      have hmm : ((m : Int) == (m2 : Int)) = false := by
        rw [beq_eq_false_iff_ne, ← hm, ← hm2]
        simp only [flat, List.flatMap_cons, List.flatMap_nil, List.append_nil, bs_list]
        intro e
        exact hne (by exact_mod_cast e)
      have hmm2 : ((m : Int) != (m2 : Int)) = true := by simp [bne, hmm]
      have HM := Lib.hid hm
      have HM2 := Lib.hid hm2
      have hz1 : Hid (∀ z ∈ [bs l], z.size ≤ maxLen) := fun z h => by
        obtain rfl : z = bs l := by simpa using h
        rw [bs_size, HLEN.out]; unfold maxLen; omega
      have hz2 : Hid (∀ z ∈ [s], z.size ≤ maxLen) := fun z h => by
        obtain rfl : z = s := by simpa using h
        unfold maxLen; omega
      have htr := ht.kp hkp
      clear hq32 hv hne hm hm2 hbuf
      generalize bs l = t at *
      go_wp2_with fail
      refine (sum_to (some ⟨wr.heap.size, 0, none⟩) 1 1 [t] m _ HM.out (htr.kp ((Kp.rfl_ _ _).alloc _)) (Ls.of_at (At.new wr 9 #[.string t])) hz1.out (by decide)).mono ?_
      rintro e w5 ⟨rfl, rfl⟩
      go_wp2_with fail
      refine (sum_to (some ⟨wr.heap.size + 1, 0, none⟩) 1 1 [s] m2 _ HM2.out (htr.kp (((Kp.rfl_ _ _).alloc _).alloc _)) (Ls.of_at (At.new_ (by simp))) hz2.out (by decide)).mono ?_
      rintro e w5 ⟨rfl, rfl⟩
      go_wp2_with fail
      go_ret
      exact ⟨rfl, (hkp.alloc _).alloc _⟩

set_option maxHeartbeats 1000000 in
theorem cturned_not (s : ByteArray) (at0 : Int) (q : Nat) (w : World) (ht : Tab w) (hz : s.size ≤ maxLen) (h : s.size < 5 ∨ (5 ≤ s.size ∧ 4096 < s.size) ∨ (5 ≤ s.size ∧ s.size ≤ 4096 ∧ q = 0)) :
    Calls Tryd.prog 5 #[.string s, .int .i64 at0, .int .u32 q] w (Yes w) := by
  unfold maxLen at hz
  rcases h with h | ⟨h5, h⟩ | ⟨h5, h, rfl⟩
  all_goals
    go_enter Tryd.func5, Tryd.ntmps5
    go_wp2_with fail
    refine (cawake _ ht).mono ?_
    rintro e w2 ⟨rfl, hk2⟩
    go_wp2_with fail
    refine (cawake _ (ht.kp hk2)).mono ?_
    rintro e w3 ⟨rfl, hk3⟩
    go_wp2_with fail
    go_ret
    exact ⟨rfl, hk2.trans hk3⟩
theorem cturned_walk (v0 v1 v2 : Value) (w : World) (hl : LaidCrc w) (i0 : In w 9 v0) (i1 : In w 3 v1) (i2 : In w 22 v2) : Calls Tryd.prog 5 #[v0, v1, v2] w (Yes w) := by
  obtain ⟨s, rfl, hs⟩ := in_string Tryd.underlying9 i0
  obtain ⟨a, rfl, wa⟩ := in_int Tryd.underlying3 i1
  obtain ⟨q0, rfl, wq⟩ := in_int Tryd.underlying22 i2
  have hb := bd_i64 wa
  obtain ⟨q, rfl, hq⟩ := bd_u32 wq
  by_cases h : 5 ≤ s.size ∧ s.size ≤ 4096 ∧ q ≠ 0
  · exact cturned s a q w (tab_of hl) h.1 h.2.1 hb.1 hb.2 hq h.2.2
  · exact cturned_not s a q w (tab_of hl) hs (by omega)
end Go.Proofs.YtglehfpddhkoeaaDoor
