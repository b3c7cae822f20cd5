/- Digests' names: the document's own. -/
import Derived.Test.YthnfjkinliekoaaDoorSa
namespace Go.Proofs.YthnfjkinliekoaaDoor
set_option maxRecDepth 100000
open Go.RowKit
set_option linter.unusedVariables false

set_option maxHeartbeats 1000000 in
theorem rname_any (s : ByteArray) (w : World) (hs : s.size ≤ 1000000) :
    Calls Tryd.prog 20 #[.string s] w fun e w' => e = .returned (.string (bs (hexN s.data.toList))) ∧ Kp [] w w' := by
  obtain ⟨r, hr⟩ : ∃ r, hexN s.data.toList = r := ⟨_, rfl⟩
  rw [hr]
  have HR := Lib.hid hr
  clear hr
  have hown1 : OwnB w.heap.size (w.alloc (.cells #[] 5)) (.slice (some ⟨w.heap.size, 0, none⟩) 0 0) [] := own_empty w 5
  have hb1 : Below w.heap.size w (w.alloc (.cells #[] 5)) := (Below.refl _ _).alloc (Nat.le_refl _) _
  have hs1 : w.heap.size ≤ (w.alloc (.cells #[] 5)).heap.size := by simp
  go_enter Tryd.func20, Tryd.ntmps20
  go_wp2_with fail
  go_loopg [4, 5] s.size (fun gk v i wr => ∃ k : Nat, s.size - k ≤ gk ∧ i = .int .i64 k ∧ k ≤ s.size ∧ OwnB w.heap.size wr v (hexN (s.data.toList.take k)) ∧ Below w.heap.size w wr ∧ w.heap.size ≤ wr.heap.size)
  case atStart => exact ⟨0, by omega, rfl, Nat.zero_le _, hown1, hb1, hs1⟩
  case round =>
    clear hown1 hb1 hs1
    obtain ⟨k, hgk, rfl, hk, hown, hbel, hsz⟩ := hrel
    by_cases hlt : k < s.size
    · obtain ⟨b, hbb, hbl⟩ := byte_at hlt
      have hst := hexN_succ hbl
      have hln : (hexN (s.data.toList.take k)).length ≤ 2000000 := by rw [hexN_len, List.length_take]; simp; omega
      have HST := Lib.hid hst
      clear hst hbl
      generalize hexN (s.data.toList.take k) = l at *
      obtain ⟨x, hx⟩ : ∃ x, b.toNat / 16 = x := ⟨_, rfl⟩
      obtain ⟨y, hy⟩ : ∃ y, b.toNat % 16 = y := ⟨_, rfl⟩
      have hb256 := b.toNat_lt
      have hw1 : IntKind.u8.wrap ((b.toNat : Int) / 16) = (x : Int) := by rw [IntWalk.u8_in _ (by omega)]; omega
      have hw2 : (b.toNat : Int).tmod 16 = (y : Int) := by rw [Int.tmod_eq_emod_of_nonneg (by omega)]; omega
      have hy0 : (0 : Int) ≤ (y : Int) := by omega
      have hq2 : (x : Int) < 16 := by omega
      have hm2 : (y : Int) < 16 := by omega
      have hhx : hexB b = [dig x, dig y] := by unfold hexB; rw [hx, hy]
      have HHX := Lib.hid hhx
      clear hhx hx hy
      have hd1 := dig_at x (by omega)
      have hd2 := dig_at y (by omega)
      go_wp2_with fail
      go_region_law (refine step_bytes w.heap.size rfl (.tmp 13) (.tmp 26) rfl (some ⟨wr.heap.size, 0, none⟩) 2 2 _ l [dig x, dig y] rfl rfl (own_kp (S := []) hown (((Kp.rfl_ [] wr).drew).alloc _) (by simp)) (Ls.of_at (At.new _ _ #[.int .u8 ((dig x).toNat : Int), .int .u8 ((dig y).toNat : Int)])) (by simp; omega) (by omega) (by omega) ?_; intro v2 w2 hown2 hbel2 hsz2)
      all_goals
        have hb4 : Below w.heap.size w w2 := (hbel.drew.alloc hsz _).trans hbel2
        have hs4 : w.heap.size ≤ w2.heap.size := by simp at hsz2; omega
        have hst : OwnB w.heap.size w2 v2 (hexN (s.data.toList.take (k + 1))) := by rw [HST.out, HHX.out]; exact hown2
        clear hbel2 hown2 hsz2 hd1 hd2 hw1 hw2
        have HS := Lib.hid hst
        clear hst
        go_wp2_with fail
        go_roundg (s.size - (k + 1))
        case measure => omega
        case rel => exact ⟨k + 1, by omega, by go_num, by omega, HS.out, hb4, hs4⟩
    · have hkn : s.data.toList.take k = s.data.toList := List.take_of_length_le (by simp; omega)
      rw [hkn, HR.out] at hown
      have hcv := conv_bytes hown
      go_wp2_with fail
      go_ret
      exact ⟨rfl, Kp.of_below hbel⟩
theorem val_to (c : UInt8) (w : World) : Calls Tryd.prog 39 #[.int .u8 (c.toNat : Int)] w fun e w' => e = .returned (.int .i64 (((val c).map fun n => (n : Int)).getD (-1))) ∧ w = w' := by
  have hc := c.toNat_lt
  by_cases h1 : 48 ≤ c.toNat ∧ c.toNat ≤ 57
  · have hv : ((val c).map fun n => (n : Int)).getD (-1) = (c.toNat : Int) - 48 := by unfold val; rw [if_pos h1]; simp; omega
    rw [hv]
    have i1 : (48 : Int) ≤ (c.toNat : Int) := by omega
    have i2 : (c.toNat : Int) ≤ 57 := by omega
    go_enter Tryd.func39, Tryd.ntmps39
    go_wp2_with fail
    go_ret
    exact ⟨ret_int (by omega), rfl⟩
  · by_cases h2 : 97 ≤ c.toNat ∧ c.toNat ≤ 102
    · have hv : ((val c).map fun n => (n : Int)).getD (-1) = (c.toNat : Int) - 87 := by unfold val; rw [if_neg h1, if_pos h2]; simp; omega
      rw [hv]
      have i1 : (57 : Int) < (c.toNat : Int) := by omega
      have i2 : (c.toNat : Int) ≤ 102 := by omega
      have i3 : (97 : Int) ≤ (c.toNat : Int) := by omega
      go_enter Tryd.func39, Tryd.ntmps39
      go_wp2_with fail
      go_ret
      exact ⟨ret_int (by omega), rfl⟩
    · have hv : ((val c).map fun n => (n : Int)).getD (-1) = -1 := by unfold val; rw [if_neg h1, if_neg h2]; rfl
      rw [hv]
      have h3 : c.toNat < 48 ∨ (57 < c.toNat ∧ c.toNat < 97) ∨ 102 < c.toNat := by omega
      rcases h3 with h3 | h3 | h3
      all_goals
        go_enter Tryd.func39, Tryd.ntmps39
        go_wp2_with fail
        go_ret
        exact ⟨rfl, rfl⟩
end Go.Proofs.YthnfjkinliekoaaDoor
