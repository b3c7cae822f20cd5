/- The state's bytes. -/
import Derived.Test.YtencpplopdogmaaDoorSe
namespace Go.Proofs.YtencpplopdogmaaDoor
set_option maxRecDepth 100000
open Go.RowKit
set_option linter.unusedVariables false

/-- A word's four bytes, the greatest first. -/
def be4 (x : Nat) : List UInt8 := [UInt8.ofNat (x / 2 ^ 24), UInt8.ofNat (x / 2 ^ 16), UInt8.ofNat (x / 2 ^ 8), UInt8.ofNat x]
def beW (l : List Nat) : List UInt8 := l.flatMap be4
theorem beW_succ {l : List Nat} {k x : Nat} (h : l[k]? = some x) : beW (l.take (k + 1)) = beW (l.take k) ++ be4 x := by
  unfold beW
  rw [List.take_add_one, h]
  simp
theorem beW_len (l : List Nat) : (beW l).length = 4 * l.length := by
  induction l with
  | nil => rfl
  | cons x l ih => unfold beW at *; rw [List.flatMap_cons, List.length_append, ih]; simp [be4]; omega
/-- The block begins with these words. -/
def Words (w : World) (g : Nat) (H : List Nat) : Prop := g < w.heap.size ∧ ∀ (j x : Nat), H[j]? = some x → w.cell? ⟨g, j, none⟩ = some (.int .u32 (x : Int)) ∧ x < 4294967296
theorem Words.kp {w w' : World} {g : Nat} {H : List Nat} {S : List Nat} (h : Words w g H) (k : Kp S w w') (hS : g ∉ S) : Words w' g H :=
  ⟨Nat.lt_of_lt_of_le h.1 k.size, fun j x hj => ⟨by rw [k.cell h.1 hS]; exact (h.2 j x hj).1, (h.2 j x hj).2⟩⟩
theorem be4_parts (x : Nat) (h : x < 4294967296) : ∃ b0 b1 b2 b3 : UInt8, be4 x = [b0, b1, b2, b3] ∧ (x : Int) / 16777216 = (b0.toNat : Int) ∧ (x : Int) / 65536 % 256 = (b1.toNat : Int) ∧ (x : Int) / 256 % 256 = (b2.toNat : Int) ∧ (x : Int) % 256 = (b3.toNat : Int) := by
  refine ⟨_, _, _, _, rfl, ?_, ?_, ?_, ?_⟩
  all_goals simp
  all_goals omega
set_option maxHeartbeats 1000000 in
theorem text_any' (g : Nat) (H : List Nat) (w : World) (hH : H.length = 8) (hw : Words w g H) :
    Calls Tryd.prog 48 #[.pointer (some ⟨g, 0, none⟩)] w fun e w' => e = .returned (.string (bs (beW H))) ∧ Kp [] w w' := by
  obtain ⟨r, hr⟩ : ∃ r, beW H = r := ⟨_, rfl⟩
  rw [hr]
  have HR := Lib.hid hr
  have HH := Lib.hid hH
  clear hr hH
  obtain ⟨i0, hi, hz, hz1, hz2⟩ := info_parts info_u8
  go_enter Tryd.func48, Tryd.ntmps48
  go_wp2_with (at_make; go_must (refine wpList_make_own _ rfl _ _ 47 rfl w.heap.size 5 i0 _ 1 Tryd.underlying47 hi hz hz1 .i64 .i64 32 32 rfl rfl (by omega) (by rw [hz2]; decide) (by decide) (Nat.le_refl _) ?_); intro w1 hown1 hg1)
  have hb1 : Below w.heap.size w w1 := (Below.refl _ _).grown hg1 (Nat.le_refl _) (by simp)
  have hs1 := hg1.size
  go_wp2_with fail
  go_loopg [3, 8] 8 (fun gk v i wr => ∃ k : Nat, 8 - k ≤ gk ∧ i = .int .i64 k ∧ k ≤ 8 ∧ OwnB w.heap.size wr v (beW (H.take k)) ∧ Below w.heap.size w wr ∧ w.heap.size ≤ wr.heap.size)
  case atStart => exact ⟨0, by omega, rfl, Nat.zero_le _, hown1, hb1, hs1⟩
  case round =>
    clear hown1 hb1 hs1 hg1
    obtain ⟨k, hgk, rfl, hk, hown, hbel, hsz⟩ := hrel
    by_cases hlt : k < 8
    · obtain ⟨x, hx⟩ : ∃ x, H[k]? = some x := ⟨_, List.getElem?_eq_getElem (by rw [HH.out]; exact hlt)⟩
      obtain ⟨hc, hx32⟩ := (hw.kp (Kp.of_below hbel) (by simp)).2 k x hx
      have hst := beW_succ hx
      have hln : (beW (H.take k)).length ≤ 32 := by rw [beW_len, List.length_take]; omega
      have HST := Lib.hid hst
      have hki : (k : Int) < 8 := by omega
      clear hst hx
      generalize beW (H.take k) = l at *
      obtain ⟨b0, b1, b2, b3, hbe, hv0, hv1, hv2, hv3⟩ := be4_parts x hx32
      rw [hbe] at HST
      clear hbe
      have hcells : ∀ u ∈ Lib.byteCells [b0, b1, b2, b3], u.oneCell' = true := by
        intro u hu
        obtain ⟨b, -, rfl⟩ := List.mem_map.1 hu
        rfl
      have HC := Lib.hid hcells
      clear hcells
      go_wp2_with (at_builtin; go_must (refine wpl_app _ rfl _ _ 47 rfl w.heap.size 5 i0 _ 1 Tryd.underlying47 hi hz hz1 hz2 rfl _ l.length (Lib.byteCells l) rfl (own_kp hown ((Kp.rfl_ [] wr).alloc _) (by simp)) (some ⟨wr.heap.size, 0, none⟩) 4 4 (Lib.byteCells [b0, b1, b2, b3]) rfl (Ls.of_at (At.new wr 5 #[.int .u8 (b0.toNat : Int), .int .u8 (b1.toNat : Int), .int .u8 (b2.toNat : Int), .int .u8 (b3.toNat : Int)])) HC.out (by unfold maxLen; omega) (by omega) (by simp; omega) ?_); intro v6 w6 hown6 hg6 hat6)
      have hown7 : OwnB w.heap.size w6 v6 (l ++ [b0, b1, b2, b3]) := by
        unfold OwnB
        rw [Lib.byteCells_append, List.length_append]
        exact hown6
      have hb7 : Below w.heap.size w w6 := (hbel.alloc hsz _).grown hg6 (by simp; omega) fun k hk => (own_block_lt hown hk).1
      have hs7 := hg6.size
      simp only [World.alloc, Array.size_push] at hs7
      go_roundg (8 - (k + 1))
      case measure => omega
      case rel => exact ⟨k + 1, by omega, by go_num, by omega, by rw [HST.out]; exact hown7, hb7, by omega⟩
    · obtain rfl : k = 8 := by omega
      have hkn : H.take 8 = H := List.take_of_length_le (by rw [HH.out]; exact Nat.le_refl _)
      rw [hkn, HR.out] at hown
      have hcv := conv_bytes hown
      go_wp2_with fail
      go_ret
      exact ⟨rfl, Kp.of_below hbel⟩
end Go.Proofs.YtencpplopdogmaaDoor
