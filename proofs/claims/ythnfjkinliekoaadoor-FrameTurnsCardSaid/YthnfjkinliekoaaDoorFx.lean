/- The laws of frame: FrameTurns, FrameLong. -/
import Derived.Test.YthnfjkinliekoaaDoorFv
import Derived.Test.YthnfjkinliekoaaDoorBuf
import Derived.Laws.BitsAllLaws
import Derived.RegionTactic
import Derived.ChangeAlike
namespace Go.Proofs.YthnfjkinliekoaaDoor
set_option maxRecDepth 100000
open Go.RowKit
set_option linter.unusedVariables false

/-- A frame of which one bit has turned, behind its length, is no frame. -/
theorem opn_turned {p : List UInt8} {j t : Nat} {x : UInt8} (hp : p.length ≤ 1048576) (hj : (sum4 (Crc.more 0 p) ++ p)[j]? = some x) (ht : t < 8) :
    opn (numB (p.length : Int) ++ (sum4 (Crc.more 0 p) ++ p).set j (x ^^^ UInt8.ofNat (2 ^ t))) = none := by
  have hjl := (List.getElem?_eq_some_iff.1 hj).1
  rw [List.length_append, sum4_len] at hjl
  have hb := numB_pos p.length (by omega)
  obtain ⟨b, hbe⟩ : ∃ b, numB (p.length : Int) = b := ⟨_, rfl⟩
  rw [hbe] at hb
  obtain ⟨T, hT⟩ : ∃ T, (sum4 (Crc.more 0 p) ++ p).set j (x ^^^ UInt8.ofNat (2 ^ t)) = T := ⟨_, rfl⟩
  have hTl : T.length = 4 + p.length := by rw [← hT, List.length_set, List.length_append, sum4_len]
  have hd : decN (b ++ T) = ((p.length : Int), b.length) := by rw [← hbe, decN_numB _ _ (by omega) (by omega)]
  rw [hbe, hT, opn_sum hd (by omega) hp (by rw [List.length_append]; omega), ← List.drop_drop, List.drop_left' rfl]
  refine if_neg fun hs => ?_
  have hxne : x ^^^ UInt8.ofNat (2 ^ t) ≠ x := by
    intro e
    have e2 := congrArg UInt8.toNat e
    have hlt : 2 ^ t < 256 := Nat.lt_of_lt_of_le (Nat.pow_lt_pow_right (by omega) ht) (by decide : 2 ^ 8 ≤ 256)
    rw [UInt8.toNat_xor, show (UInt8.ofNat (2 ^ t)).toNat = 2 ^ t by simp [Nat.mod_eq_of_lt hlt]] at e2
    have e3 : (x.toNat ^^^ 2 ^ t) ^^^ x.toNat = x.toNat ^^^ x.toNat := by rw [e2]
    rw [Nat.xor_comm x.toNat, Nat.xor_assoc, Nat.xor_self, Nat.xor_zero] at e3
    have := Nat.two_pow_pos t
    omega
  by_cases h4 : j < 4
  · have e1 : (T.drop 4).take p.length = p := by
      rw [← hT, List.set_append, if_pos (by rw [sum4_len]; exact h4), List.drop_left' (by rw [List.length_set, sum4_len]), List.take_of_length_le (Nat.le_refl _)]
    have e2 : T.take 4 = (sum4 (Crc.more 0 p)).set j (x ^^^ UInt8.ofNat (2 ^ t)) := by
      rw [← hT, List.set_append, if_pos (by rw [sum4_len]; exact h4), List.take_left' (by rw [List.length_set, sum4_len])]
    rw [e1, e2] at hs
    have hx : (sum4 (Crc.more 0 p))[j]? = some x := by rw [List.getElem?_append_left (by rw [sum4_len]; exact h4)] at hj; exact hj
    have := congrArg (·[j]?) hs
    rw [hx, List.getElem?_set_self (by rw [sum4_len]; exact h4)] at this
    injection this with this
    exact hxne this.symm
  · have hx : p[j - 4]? = some x := by rw [List.getElem?_append_right (by rw [sum4_len]; omega), sum4_len] at hj; exact hj
    have e1 : (T.drop 4).take p.length = p.set (j - 4) (x ^^^ UInt8.ofNat (2 ^ t)) := by
      rw [← hT, List.set_append, if_neg (by rw [sum4_len]; exact h4), sum4_len, List.drop_left' (by rw [sum4_len]), List.take_of_length_le (by rw [List.length_set]; exact Nat.le_refl _)]
    have e2 : T.take 4 = sum4 (Crc.more 0 p) := by
      rw [← hT, List.set_append, if_neg (by rw [sum4_len]; exact h4), List.take_left' (by rw [sum4_len])]
    rw [e1, e2] at hs
    have h5 := sum4_inj (Crc.more_lt _ _) (Crc.more_lt _ _) hs
    have hv := Crc.val_set p (j - 4) t x hx ht
    refine Crc.burst (a := p) (b := p.set (j - 4) (x ^^^ UInt8.ofNat (2 ^ t))) (bits := 1) (at_ := 8 * (j - 4) + t) (by rw [List.length_set]) (by decide) (by decide) (by omega) ?_ h5
    rw [hv, Nat.mul_one]

theorem modk3 (a : Int) (m n : Nat) (hn : 8 * n = m + 1) (h1 : -9223372036854775808 ≤ a) (h2 : a ≤ 9223372036854775807) (hm : m ≤ 1000000) : ∃ k : Nat, wrap64 ((IntKind.u64.wrap a).tmod (8 * (n : Int))) = (k : Int) ∧ k < 8 * n := by
  obtain ⟨k, hk, hkm⟩ := modk a m h1 h2 (by omega)
  refine ⟨k, ?_, by omega⟩
  rw [← hk]
  congr 2
  omega
set_option maxHeartbeats 4000000 in
theorem fturns (p : ByteArray) (at0 : Int) (w : World) (ht : Tab w) (hp : p.size ≤ 4096) (h1 : -9223372036854775808 ≤ at0) (h2 : at0 ≤ 9223372036854775807) :
    Calls Tryd.prog 11 #[.string p, .int .i64 at0] w (Yes w) := by
  obtain ⟨s, hs⟩ : ∃ s, bs (frms [p]) = s := ⟨_, rfl⟩
  have hpl : p.data.toList.length = p.size := by simp
  obtain ⟨b, hbe⟩ : ∃ b, numB (p.size : Int) = b := ⟨_, rfl⟩
  obtain ⟨h, hh⟩ : ∃ h, b.length = h := ⟨_, rfl⟩
  have hb := numB_pos p.size (by omega)
  rw [hbe, hh] at hb
  have hsl : s.data.toList = b ++ (sum4 (Crc.more 0 p.data.toList) ++ p.data.toList) := by rw [← hs, bs_list]; simp [frms, frm, hbe]
  have hss : s.size = h + (4 + p.size) := by rw [← hs, bs_size]; simp [frms, frm, hbe, hh, sum4_len]
  have hft : (frms [p]).length ≤ 900000000 := by
    have : s.size = (frms [p]).length := by rw [← hs, bs_size]
    omega
  have hs1 : s.size ≤ h + (4 + p.size) := by omega
  have hs2 : h + (4 + p.size) ≤ s.size := by omega
  obtain ⟨k, hk, hkn⟩ := modk3 at0 (8 * (4 + p.size) - 1) (4 + p.size) (by omega) h1 h2 (by omega)
  have hk : wrap64 ((IntKind.u64.wrap at0).tmod (8 * (4 + (p.size : Int)))) = (k : Int) := by rw [← hk]; congr 2
  have hwh : IntKind.i64.wrap (IntKind.i64.wrap ((s.size : Int) - (p.size : Int)) - 4) = (h : Int) := by rw [IntWalk.i64_in ((s.size : Int) - (p.size : Int)) (by omega), IntWalk.i64_in _ (by omega)]; omega
  have hsub : (s.size : Int) - (p.size : Int) - 4 = (h : Int) := by omega
  have hsub2 : (s.size : Int) - (h : Int) = ((4 + p.size : Nat) : Int) := by omega
  have hl2 : (sum4 (Crc.more 0 p.data.toList) ++ p.data.toList).length = 4 + p.size := by rw [List.length_append, sum4_len, hpl]
  obtain ⟨x, hx⟩ : ∃ x, (sum4 (Crc.more 0 p.data.toList) ++ p.data.toList)[k / 8]? = some x := ⟨_, List.getElem?_eq_getElem (by rw [hl2]; omega)⟩
  have hxs : s.data.toList[h + k / 8]? = some x := by rw [hsl, List.getElem?_append_right (by omega), hh, Nat.add_sub_cancel_left]; exact hx
  have hopn : opn (s.data.toList.set (h + k / 8) (x ^^^ UInt8.ofNat (2 ^ (k % 8)))) = none := by
    have h1 := opn_turned (p := p.data.toList) (j := k / 8) (t := k % 8) (x := x) (by omega) hx (Nat.mod_lt _ (by omega))
    rw [hpl, hbe] at h1
    rw [hsl, List.set_append, if_neg (by omega), hh, Nat.add_sub_cancel_left]
    exact h1
  have hxb : bits .xor .u8 ((x.toNat : Nat) : Int) (2 ^ (k % 8) % 256) = (((x ^^^ UInt8.ofNat (2 ^ (k % 8))).toNat : Nat) : Int) := by
    have hp : 2 ^ (k % 8) < 256 := Nat.lt_of_lt_of_le (Nat.pow_lt_pow_right (by omega) (Nat.mod_lt _ (by omega))) (by decide : 2 ^ 8 ≤ 256)
    have e : (2 : Int) ^ (k % 8) % 256 = ((2 ^ (k % 8) : Nat) : Int) := by
      rw [show (2 : Int) ^ (k % 8) = ((2 ^ (k % 8) : Nat) : Int) by push_cast; rfl]
      have key : ∀ x : Nat, x < 256 → (x : Int) % 256 = x := by omega
      exact key _ hp
    rw [e, u8_xor_nat x.toNat (2 ^ (k % 8)) x.toNat_lt hp, UInt8.toNat_xor, show (UInt8.ofNat (2 ^ (k % 8))).toNat = 2 ^ (k % 8) by simp [Nat.mod_eq_of_lt hp]]
  have hsz5 : s.size ≤ 4200 := by omega
  have hjs : h + k / 8 < s.data.toList.length := by simp; omega
  have hpos : 5 + (p.size : Int) ≤ (s.size : Int) := by omega
  have hps : p.size < s.size := by omega
  have HS := Lib.hid hs
  have HFT := Lib.hid hft
  have HXS := Lib.hid hxs
  have HOPN := Lib.hid hopn
  have HXB := Lib.hid hxb
  have HJS := Lib.hid hjs
  have hz1 := Lib.hid (fun y hy => by obtain rfl : y = p := by simpa using hy
                                      omega : ∀ y ∈ [p], y.size ≤ 1048576)
  clear hs hsl hft hbe hpl hh hss hxs hopn hxb hjs hx hl2
  go_enter Tryd.func11, Tryd.ntmps11
  go_wp2_with fail
  refine (fawake _ ht).mono ?_
  rintro e w1 ⟨rfl, hk1⟩
  have ht1 := ht.kp hk1
  go_wp2_with fail
  refine (seal_to (some ⟨w1.heap.size, 0, none⟩) 1 1 [p] s _ HS.out (ht1.kp ((Kp.rfl_ _ _).alloc _)) (Ls.of_at (At.new w1 9 #[.string p])) hz1.out (by omega) HFT.out).mono ?_
  rintro e w2 ⟨rfl, hk2⟩
  have hk12 := (hk1.alloc _).trans hk2
  obtain ⟨c3, w3, hconv, hbuf, hk3, hsz3⟩ := run_bytes w2 s
  have hk13 := hk12.trans hk3
  have hg : w.heap.size ≤ w2.heap.size := hk12.size
  obtain ⟨g, hgg⟩ : ∃ g, w2.heap.size = g := ⟨_, rfl⟩
  clear hk1 hk2 hk3 ht1
  go_wp2_with fail
  simp only [hgg] at hbuf hg ⊢
  rw [hk]
  clear hconv hk hgg hk12 hsz3
  have hj := HJS.out
  have hc := hbuf.cell HXS.out
  have hf := hbuf.free hj
  have hj1 : (0 : Int) ≤ (h : Int) + (k : Int) / 8 := by omega
  have hj2 : (h : Int) + (k : Int) / 8 < (s.size : Int) := by simp at hj; omega
  have hbuf2 := hbuf.set (j := h + k / 8) (x ^^^ UInt8.ofNat (2 ^ (k % 8)))
  rw [← HXB.out] at hbuf2
  have hkp2 : Kp [] w (w3.setCell ⟨g, h + k / 8, none⟩ (.int .u8 (bits .xor .u8 ((x.toNat : Nat) : Int) (2 ^ (k % 8) % 256)))) := hk13.set (by simp; omega) _
  clear hbuf hk13
  go_wp2_with fail
  go_region
  clear hc hf hj1 hj2
  have hbuf3 : Buf (w3.setCell ⟨g, h + k / 8, none⟩ (.int .u8 (bits .xor .u8 ((x.toNat : Nat) : Int) (2 ^ (k % 8) % 256)))).drew g (s.data.toList.set (h + k / 8) (x ^^^ UInt8.ofNat (2 ^ (k % 8)))) := hbuf2
  have hkp3 := hkp2.drew
  generalize (w3.setCell ⟨g, h + k / 8, none⟩ (.int .u8 (bits .xor .u8 ((x.toNat : Nat) : Int) (2 ^ (k % 8) % 256)))).drew = wq at *
  have hback := hbuf3.back c3 s.size (by rw [List.length_set]; simp)
  obtain ⟨l, hl⟩ : ∃ l, s.data.toList.set (h + k / 8) (x ^^^ UInt8.ofNat (2 ^ (k % 8))) = l := ⟨_, rfl⟩
  have hln : (bs l).size ≤ 1000000000 := by rw [bs_size, ← hl, List.length_set]; simp; omega
  have hno : opn (bs l).data.toList = none := by rw [bs_list, ← hl]; exact HOPN.out
  rw [hl] at hback
  clear hbuf3 hbuf2 hl hkp2
  generalize bs l = z at *
  have HNO := Lib.hid hno
  clear hno
  go_wp2_with fail
  refine (open_none z _ (ht.kp hkp3) HNO.out hln).mono ?_
  rintro e w5 ⟨rfl, hk5⟩
  go_wp2_with fail
  go_ret
  exact ⟨rfl, hkp3.trans hk5⟩
set_option maxHeartbeats 1000000 in
theorem fturns_not (p : ByteArray) (at0 : Int) (w : World) (ht : Tab w) (hp : 4096 < p.size) (hz : p.size ≤ 9223372036854775807) :
    Calls Tryd.prog 11 #[.string p, .int .i64 at0] w (Yes w) := by
  go_enter Tryd.func11, Tryd.ntmps11
  go_wp2_with fail
  refine (fawake _ ht).mono ?_
  rintro e w2 ⟨rfl, hk2⟩
  go_wp2_with fail
  refine (fawake _ (ht.kp hk2)).mono ?_
  rintro e w3 ⟨rfl, hk3⟩
  go_wp2_with fail
  go_ret
  exact ⟨rfl, hk2.trans hk3⟩
theorem fturns_walk (v0 v1 : Value) (w : World) (hl : LaidCrc w) (i0 : In w 9 v0) (i1 : In w 3 v1) : Calls Tryd.prog 11 #[v0, v1] w (Yes w) := by
  obtain ⟨s, rfl, hs⟩ := in_string Tryd.underlying9 i0
  obtain ⟨a, rfl, wa⟩ := in_int Tryd.underlying3 i1
  have hb := bd_i64 wa
  by_cases h : s.size ≤ 4096
  · exact fturns s a w (tab_of hl) h hb.1 hb.2
  · exact fturns_not s a w (tab_of hl) (by omega) (size_le hs)
end Go.Proofs.YthnfjkinliekoaaDoor
