/- What a name is of: the document's own. -/
import Derived.Test.YthnfjkinliekoaaDoorSc
namespace Go.Proofs.YthnfjkinliekoaaDoor
set_option maxRecDepth 100000
open Go.RowKit
set_option linter.unusedVariables false

theorem unhex_odd' (l : List UInt8) (h : l.length % 2 = 1) : unhex l = none := unhex_odd (l.length / 2) l (by omega)
/-- So far: of two digits. -/
def Two (a b : UInt8) (j q m : Nat) : Prop := (q = j ∧ m = 0) ∨ (q = j + 1 ∧ val a = some m) ∨ (q = j + 2 ∧ ∃ x y, val a = some x ∧ val b = some y ∧ m = 16 * x + y)
theorem val_d {c : UInt8} (h1 : 48 ≤ c.toNat) (h2 : c.toNat ≤ 57) : val c = some (c.toNat - 48) := by unfold val; rw [if_pos ⟨h1, h2⟩]
theorem val_l {c : UInt8} (h1 : 97 ≤ c.toNat) (h2 : c.toNat ≤ 102) : val c = some (c.toNat - 87) := by unfold val; rw [if_neg (by omega), if_pos ⟨h1, h2⟩]
theorem val_n {c : UInt8} (h : c.toNat < 48 ∨ (57 < c.toNat ∧ c.toNat < 97) ∨ 102 < c.toNat) : val c = none := by unfold val; rw [if_neg (by omega), if_neg (by omega)]
theorem two_step {s : ByteArray} {a b : UInt8} {j q m : Nat} (h : Two a b j q m) (hq : q < j + 2) (hj : j + 1 < s.size) (ha : s.data.toList[j]? = some a) (hb : s.data.toList[j + 1]? = some b) :
    ∃ c, (∃ h, s[q]'h = c) ∧ m < 16 ∧ (∀ d, val c = some d → Two a b j (q + 1) (m * 16 + d)) ∧ (val c = none → val a = none ∨ val b = none) := by
  have hg : ∀ (i : Nat) (u : UInt8), s.data.toList[i]? = some u → ∃ h, s[i]'h = u := by
    intro i u hu
    have hi : i < s.size := by have := (List.getElem?_eq_some_iff.1 hu).1; simpa using this
    obtain ⟨v, h1, h2⟩ := byte_at hi
    rw [hu] at h2
    injection h2 with h2
    exact ⟨hi, h1.trans h2.symm⟩
  rcases h with ⟨rfl, rfl⟩ | ⟨rfl, hm⟩ | ⟨rfl, _⟩
  · exact ⟨a, hg _ _ ha, by omega, fun d hd => .inr (.inl ⟨rfl, by rw [hd]; congr 1; omega⟩), .inl⟩
  · exact ⟨b, hg _ _ hb, (val_lt hm).1, fun d hd => .inr (.inr ⟨rfl, m, d, hm, hd, by omega⟩), .inr⟩
  · omega
set_option maxHeartbeats 1000000 in
theorem rhash_any (s : ByteArray) (w : World) (hs : s.size ≤ 1000000) :
    Calls Tryd.prog 18 #[.string s] w (Hashed s w) := by
  have hll : s.data.toList.length = s.size := by simp
  have HLL := Lib.hid hll
  clear hll
  have hown1 : OwnB w.heap.size (w.alloc (.cells #[] 5)) (.slice (some ⟨w.heap.size, 0, none⟩) 0 0) [] := own_empty w 5
  have hb1 : Below w.heap.size w (w.alloc (.cells #[] 5)) := (Below.refl _ _).alloc (Nat.le_refl _) _
  have hs1 : w.heap.size ≤ (w.alloc (.cells #[] 5)).heap.size := by simp
  go_enter Tryd.func18, Tryd.ntmps18
  go_wp2_with fail
  go_loopg [4, 5] s.size (fun gk v i wr => ∃ (j k : Nat) (acc : List UInt8), s.size - j ≤ gk ∧ i = .int .i64 (j : Int) ∧ j = 2 * k ∧ j ≤ s.size ∧ OwnB w.heap.size wr v acc ∧ unhex (s.data.toList.take (2 * k)) = some acc ∧ Below w.heap.size w wr ∧ w.heap.size ≤ wr.heap.size)
  case atStart => exact ⟨0, 0, [], by omega, rfl, rfl, by omega, hown1, by rw [Nat.mul_zero, List.take_zero, unhex], hb1, hs1⟩
  case round =>
    clear hown1 hb1 hs1
    obtain ⟨j, k, acc, hgk, rfl, hjk, hk, hown, hun, hbel, hsz⟩ := hrel
    have HUN := Lib.hid hun
    clear hun
    have i4 : IntKind.i64.wrap ((j : Int) + 1) = (j : Int) + 1 := IntWalk.i64_in _ (by omega)
    have HJ := Lib.hid hjk
    clear hjk
    by_cases hlt : j + 1 < s.size
    · obtain ⟨a, haa, hal⟩ := byte_at (show j < s.size by omega)
      obtain ⟨b, hbb, hbl⟩ := byte_at hlt
      have hlti : (j : Int) + 1 < (s.size : Int) := by omega
      have hacl : acc.length ≤ 1000000 := by
        have := unhex_len _ _ _ (Nat.le_refl _) HUN.out
        rw [List.length_take, HLL.out] at this
        omega
      go_wp2_with fail
      have h2w : IntKind.i64.wrap ((j : Int) + 2) = (j : Int) + 2 := IntWalk.i64_in _ (by omega)
      go_loopg [6, 7] 2 (fun gk nv kv w2 => ∃ q m : Nat, j + 2 - q ≤ gk ∧ kv = .int .i64 (q : Int) ∧ nv = .int .i64 (m : Int) ∧ j ≤ q ∧ q ≤ j + 2 ∧ Two a b j q m ∧ wr = w2)
      case atStart => exact ⟨j, 0, by omega, rfl, rfl, by omega, by omega, .inl ⟨rfl, rfl⟩, rfl⟩
      case round =>
        obtain ⟨q, m, hgq, rfl, rfl, hq1, hq2, htwo, rfl⟩ := hrel
        by_cases hlq : q < j + 2
        · obtain ⟨c, ⟨hqs, hcc⟩, hm16, hnx, hbad⟩ := two_step htwo hlq hlt hal hbl
          have HNX := Lib.hid hnx
          have HBAD := Lib.hid hbad
          have HAL := Lib.hid hal
          have HBL := Lib.hid hbl
          have hc256 := c.toNat_lt
          clear hnx hbad htwo hal hbl haa hbb
          have hcase : (48 ≤ c.toNat ∧ c.toNat ≤ 57) ∨ (97 ≤ c.toNat ∧ c.toNat ≤ 102) ∨ c.toNat < 48 ∨ (57 < c.toNat ∧ c.toNat < 97) ∨ 102 < c.toNat := by omega
          rcases hcase with ⟨hc1, hc2⟩ | ⟨hc1, hc2⟩ | hc
          · have hT := HNX.out _ (val_d hc1 hc2)
            have HT := Lib.hid hT
            clear hT
            go_wp2_with fail
            go_roundg (j + 2 - (q + 1))
            case measure => omega
            case rel => exact ⟨q + 1, m * 16 + (c.toNat - 48), by omega, by go_num, by go_num, by omega, by omega, HT.out, rfl⟩
          · have hT := HNX.out _ (val_l hc1 hc2)
            have HT := Lib.hid hT
            clear hT
            go_wp2_with fail
            go_roundg (j + 2 - (q + 1))
            case measure => omega
            case rel => exact ⟨q + 1, m * 16 + (c.toNat - 87), by omega, by go_num, by go_num, by omega, by omega, HT.out, rfl⟩
          · have hbd := HBAD.out (val_n hc)
            have hno := unhex_bad (l := s.data.toList) (k := k) (by rw [HLL.out]; have := HJ.out; omega) (by rw [← HJ.out]; exact HAL.out) (by rw [← HJ.out]; exact HBL.out) hbd
            have HNO := Lib.hid hno
            clear hno hbd
            rcases hc with hc | ⟨hc, hc3⟩ | hc
            all_goals
              go_wp2_with fail
              go_ret2
              exact ⟨Kp.of_below hbel, .inl ⟨HNO.out, rfl⟩⟩
        · obtain rfl : q = j + 2 := by omega
          have hxy : ∃ x y, val a = some x ∧ val b = some y ∧ m = 16 * x + y := by
            rcases htwo with ⟨h, _⟩ | ⟨h, _⟩ | ⟨_, h⟩
            · omega
            · omega
            · exact h
          obtain ⟨x, y, hx, hy, hmxy⟩ := hxy
          have hx1 := (val_lt hx).1
          have hy1 := (val_lt hy).1
          have hst := unhex_step HUN.out (by rw [HLL.out]; have := HJ.out; omega) (by rw [← HJ.out]; exact hal) (by rw [← HJ.out]; exact hbl) hx hy
          obtain ⟨c, hcz⟩ : ∃ c : UInt8, c.toNat = m := ⟨UInt8.ofNat m, by simp; omega⟩
          have hce : UInt8.ofNat (16 * x + y) = c := by
            apply UInt8.toNat_inj.1
            simp
            omega
          rw [hce] at hst
          subst hcz
          have HST := Lib.hid hst
          have hc256 := c.toNat_lt
          clear hst hce hx hy hmxy htwo hal hbl haa hbb
          go_wp2_with (at_builtin; go_must (refine wpl_byte wr w.heap.size rfl _ _ rfl _ acc c hown rfl rfl hsz (by omega) ?_); intro v6 w6 hown6 hbel6 hsz6)
          go_roundg (s.size - (j + 2))
          case measure => omega
          case rel => exact ⟨j + 2, k + 1, acc ++ [c], by omega, by go_num, by have := HJ.out; omega, by omega, hown6, HST.out, hbel.trans hbel6, by omega⟩
    · by_cases hodd : s.size % 2 = 1
      · have hno := unhex_odd' s.data.toList (by rw [HLL.out]; exact hodd)
        have HNO := Lib.hid hno
        clear hno
        have hti : (s.size : Int).tmod 2 = 1 := by rw [Int.tmod_eq_emod_of_nonneg (by omega)]; omega
        have hlti : ¬ (j : Int) + 1 < (s.size : Int) := by omega
        go_wp2_with fail
        go_ret2
        exact ⟨Kp.of_below hbel, .inl ⟨HNO.out, rfl⟩⟩
      · have hti : (s.size : Int).tmod 2 = 0 := by rw [Int.tmod_eq_emod_of_nonneg (by omega)]; omega
        have hlti : ¬ (j : Int) + 1 < (s.size : Int) := by omega
        have htk : s.data.toList.take (2 * k) = s.data.toList := List.take_of_length_le (by rw [HLL.out]; have := HJ.out; omega)
        rw [htk] at HUN
        have hcv := conv_bytes hown
        go_wp2_with fail
        go_ret2
        exact ⟨Kp.of_below hbel, .inr ⟨acc, HUN.out, rfl⟩⟩
end Go.Proofs.YthnfjkinliekoaaDoor
