/- The document's own: the message with what stands behind it. -/
import Derived.Test.YtencpplopdogmaaDoorSm
import Derived.Test.YtencpplopdogmaaDoorAc
namespace Go.Proofs.YtencpplopdogmaaDoor
set_option maxRecDepth 100000
open Go.RowKit
set_option linter.unusedVariables false

theorem OwnC.shape {base : Nat} {w : World} {v : Value} {l : List UInt8} (h : OwnC base w v l) : ∃ g c, v = .slice (some ⟨g, 0, none⟩) l.length c := by
  obtain ⟨g, c, e, _⟩ := h
  exact ⟨g, c, e⟩
/-- The first j bytes of the length. -/
def lenJ (n j : Nat) : List UInt8 := (List.range j).map fun i => UInt8.ofNat (8 * n / 2 ^ (8 * (7 - i)))
theorem lenJ_succ (n j : Nat) : lenJ n (j + 1) = lenJ n j ++ [UInt8.ofNat (8 * n / 2 ^ (8 * (7 - j)))] := by
  unfold lenJ
  rw [List.range_succ, List.map_append]
  rfl
theorem lenJ_len (n j : Nat) : (lenJ n j).length = j := by simp [lenJ]
theorem byte_sh (n b : Nat) : (n : Int) / 2 ^ b % 256 = ((UInt8.ofNat (n / 2 ^ b)).toNat : Int) := by
  rw [shr_nat]
  simp
def Msgd (s : ByteArray) (w : World) (e : Ending) (w' : World) : Prop := ∃ (g c n : Nat) (l : List UInt8), l = s.data.toList ++ padW s.size ∧ l.length = n ∧ e = .returned (.slice (some ⟨g, 0, none⟩) n c) ∧ w.heap.size ≤ g ∧ Ls w' (some ⟨g, 0, none⟩) n (Lib.byteCells l) ∧ Below w.heap.size w w'
set_option maxHeartbeats 1000000 in
theorem message_any (s : ByteArray) (w : World) (hs : s.size ≤ 1000000000) :
    Calls Tryd.prog 52 #[.string s] w (Msgd s w) := by
  obtain ⟨v0, w0, hconv, hown0, k0⟩ := run_bytesC w s (by omega)
  have hsl : s.data.toList.length = s.size := by simp
  have HSL := Lib.hid hsl
  obtain ⟨z, hz⟩ : ∃ z, (119 - s.size % 64) % 64 = z := ⟨_, rfl⟩
  have hpad : padW s.size = 128 :: (List.replicate z 0 ++ lenJ s.size 8) := by unfold padW; rw [hz]; rfl
  have HPAD := Lib.hid hpad
  have h0 := Lib.hid hown0
  have hz64 : z < 64 := by omega
  have hs0 := k0.size
  have hb0 : Below w.heap.size w w0 := k0.below (Nat.le_refl _) (by simp)
  clear hown0 hsl hpad
  go_enter Tryd.func52, Tryd.ntmps52
  go_wp2_with (at_builtin; go_must (refine wpl_appc rfl _ _ rfl w.heap.size v0 s.data.toList [128] rfl (h0.out.kp ((Kp.rfl_ [] w0).alloc _)) ⟨w0.heap.size, 0, none⟩ 1 1 rfl (Ls.of_at (At.new w0 5 #[.int .u8 128])) (by rw [HSL.out]; omega) (by simp; omega) ?_); intro v1 w1 hown1 hbel1 hsz1)
  obtain ⟨g1, c1, rfl⟩ := hown1.shape
  have hl1 : (s.data.toList ++ [128]).length = s.size + 1 := by rw [List.length_append, HSL.out]; rfl
  rw [hl1] at hown1 ⊢
  have hb1 : Below w.heap.size w w1 := (hb0.alloc hs0 _).trans hbel1
  have hs1 : w.heap.size ≤ w1.heap.size := by simp at hsz1; omega
  clear hb0 hbel1 hsz1 h0 hconv k0 hs0
  go_wp2_with fail
  go_loopg [3] (z + 1) (fun gk bv wr => ∃ (k g c L : Nat) (l : List UInt8), z + 1 - k ≤ gk ∧ k ≤ z ∧ Hid (L = s.size + 1 + k) ∧ bv = .slice (some ⟨g, 0, none⟩) L c ∧ Hid (l = s.data.toList ++ 128 :: List.replicate k 0) ∧ OwnC w.heap.size wr (.slice (some ⟨g, 0, none⟩) L c) l ∧ Below w.heap.size w wr ∧ w.heap.size ≤ wr.heap.size)
  case atStart => exact ⟨0, g1, c1, s.size + 1, _, by omega, by omega, Lib.hid rfl, rfl, Lib.hid rfl, hown1, hb1, hs1⟩
  case round =>
    clear hown1 hb1 hs1 hl1
    obtain ⟨k, g, c, L, l, hgk, hk, HLL0, rfl, HL, hown, hbel, hsz⟩ := hrel
    have hL := HLL0.out
    have hLb : L ≤ 2000000000 := by omega
    have hll : l.length = L := by rw [HL.out, List.length_append, HSL.out, List.length_cons, List.length_replicate]; omega
    by_cases hlt : k < z
    · have hc : (((L : Int).tmod 64) != 56) = true := by
        rw [Int.tmod_eq_emod_of_nonneg (by omega)]
        simp [bne]
        omega
      have hc2 : (((L : Int) % 64) != 56) = true := by
        simp [bne]
        omega
      have HLL := Lib.hid hll
      clear hll hL
      go_wp2_with (at_builtin; go_must (refine wpl_appc rfl _ _ rfl w.heap.size _ l [0] rfl (hown.kp ((Kp.rfl_ [] wr).alloc _)) ⟨wr.heap.size, 0, none⟩ 1 1 rfl (Ls.of_at (At.new wr 5 #[.int .u8 0])) (by rw [HLL.out]; omega) (by simp; omega) ?_); intro v6 w6 hown6 hbel6 hsz6)
      obtain ⟨g6, c6, rfl⟩ := hown6.shape
      have hl6 : (l ++ [0]).length = L + 1 := by rw [List.length_append, HLL.out]; rfl
      rw [hl6] at hown6 ⊢
      have hb6 : Below w.heap.size w w6 := (hbel.alloc hsz _).trans hbel6
      have hs6 : w.heap.size ≤ w6.heap.size := by simp at hsz6; omega
      clear hbel hbel6 hsz6 hown hsz hc hc2
      go_wp2_with fail
      go_roundg (z + 1 - (k + 1))
      case measure => omega
      case rel => exact ⟨k + 1, g6, c6, L + 1, l ++ [0], by omega, by omega, Lib.hid (by rw [HLL0.out]; omega), rfl, Lib.hid (by rw [HL.out, List.replicate_succ']; simp), hown6, hb6, hs6⟩
    · obtain rfl : k = z := by omega
      have hc : (((L : Int).tmod 64) != 56) = false := by
        rw [Int.tmod_eq_emod_of_nonneg (by omega)]
        simp [bne]
        omega
      have hc2 : (((L : Int) % 64) != 56) = false := by
        simp [bne]
        omega
      have HLL := Lib.hid hll
      clear hll hL
      go_wp2_with fail
      go_loopg [3, 5] 9 (fun gk bv iv wr => ∃ (j g c L : Nat) (l : List UInt8), 9 - j ≤ gk ∧ j ≤ 8 ∧ iv = .int .i64 (56 - 8 * (j : Int)) ∧ Hid (L = s.size + 1 + k + j) ∧ bv = .slice (some ⟨g, 0, none⟩) L c ∧ Hid (l = s.data.toList ++ 128 :: (List.replicate k 0 ++ lenJ s.size j)) ∧ OwnC w.heap.size wr (.slice (some ⟨g, 0, none⟩) L c) l ∧ Below w.heap.size w wr ∧ w.heap.size ≤ wr.heap.size)
      case atStart => exact ⟨0, g, c, L, l, by omega, by omega, rfl, Lib.hid (by rw [HLL0.out]; rfl), rfl, Lib.hid (by rw [HL.out]; simp [lenJ]), hown, hbel, hsz⟩
      case round =>
        clear hown hbel hsz HL HLL hc hc2 HLL0 hLb
        obtain ⟨j, g, c, L, l, hgj, hj, rfl, HLL0, rfl, HL, hown, hbel, hsz⟩ := hrel
        have hL := HLL0.out
        have hLb : L ≤ 2000000100 := by omega
        have hll : l.length = L := by rw [HL.out, List.length_append, HSL.out, List.length_cons, List.length_append, List.length_replicate, lenJ_len]; omega
        by_cases hlt : j < 8
        · have i1 : (0 : Int) ≤ 56 - 8 * (j : Int) := by omega
          obtain ⟨sh, hsh⟩ : ∃ sh, 8 * (7 - j) = sh := ⟨_, rfl⟩
          have i2 : (56 - 8 * (j : Int)).toNat = sh := by omega
          have i3 : IntKind.i64.wrap (56 - 8 * (j : Int) - 8) = 56 - 8 * ((j + 1 : Nat) : Int) := by rw [IntWalk.i64_in _ (by omega)]; omega
          obtain ⟨b, hb⟩ : ∃ b, UInt8.ofNat (8 * s.size / 2 ^ sh) = b := ⟨_, rfl⟩
          have F : (s.size : Int) * 8 / 2 ^ sh % 256 = (b.toNat : Int) := by
            rw [show (s.size : Int) * 8 = ((8 * s.size : Nat) : Int) by omega, byte_sh, hb]
          have hnext : lenJ s.size (j + 1) = lenJ s.size j ++ [b] := by rw [lenJ_succ, hsh, hb]
          have HLL := Lib.hid hll
          have HN := Lib.hid hnext
          clear hll hnext hb hL
          go_wp2_with (at_builtin; go_must (refine wpl_appc rfl _ _ rfl w.heap.size _ l [b] rfl (hown.kp ((Kp.rfl_ [] wr).alloc _)) ⟨wr.heap.size, 0, none⟩ 1 1 rfl (Ls.of_at (At.new wr 5 #[.int .u8 (b.toNat : Int)])) (by rw [HLL.out]; omega) (by simp; omega) ?_); intro v6 w6 hown6 hbel6 hsz6)
          obtain ⟨g6, c6, rfl⟩ := hown6.shape
          have hl6 : (l ++ [b]).length = L + 1 := by rw [List.length_append, HLL.out]; rfl
          rw [hl6] at hown6 ⊢
          have hb6 : Below w.heap.size w w6 := (hbel.alloc hsz _).trans hbel6
          have hs6 : w.heap.size ≤ w6.heap.size := by simp at hsz6; omega
          clear hbel hbel6 hsz6 hown hsz F
          go_wp2_with fail
          go_roundg (9 - (j + 1))
          case measure => omega
          case rel => exact ⟨j + 1, g6, c6, L + 1, l ++ [b], by omega, by omega, congrArg (Value.int .i64) (by omega), Lib.hid (by rw [HLL0.out]; omega), rfl, Lib.hid (by rw [HL.out, HN.out]; simp), hown6, hb6, hs6⟩
        · obtain rfl : j = 8 := by omega
          have i1 : ¬ (0 : Int) ≤ 56 - 8 * ((8 : Nat) : Int) := by omega
          have heq : l = s.data.toList ++ padW s.size := by rw [HL.out, HPAD.out]
          have hgb : w.heap.size ≤ g := by
            obtain ⟨g', c', e, hb', _⟩ := hown
            injection e with e _ _
            injection e with e
            injection e with e _ _
            omega
          obtain ⟨A', c', e, hLs⟩ := hown.ls
          injection e with e1 e2 e3
          subst e1
          clear e2 e3
          rw [hll] at hLs
          have HEQ := Lib.hid heq
          have HLL := Lib.hid hll
          have HLS := Lib.hid hLs
          clear heq hLs hll hown hL
          go_wp2_with fail
          go_ret
          exact ⟨g, c, L, l, HEQ.out, HLL.out, rfl, hgb, HLS.out, hbel⟩
end Go.Proofs.YtencpplopdogmaaDoor
