/- The laws of frame: FrameLong. -/
import Derived.Test.YthnfjkinliekoaaDoorFv
namespace Go.Proofs.YthnfjkinliekoaaDoor
set_option maxRecDepth 100000
open Go.RowKit
set_option linter.unusedVariables false

theorem made_conv {base g n : Nat} {w : World} {l : List UInt8} (h : w.ownsRow base 5 1 (.slice (some ⟨g, 0, none⟩) n n) n (madeCells (Value.int .u8 0).cells (n * 1)).toList) (hl : List.replicate n 0 = l) :
    (convert 48 9 (.slice (some ⟨g, 0, none⟩) n n)).run Tryd.prog w = .ok (.string (bs l)) w := by
  have hn : l.length = n := by rw [← hl]; simp
  rw [made_bytes, hl] at h
  have := conv_bytes (l := l) (v := .slice (some ⟨g, 0, none⟩) n n) (base := base) (w := w) (by rw [hn]; exact h)
  exact this
theorem opn_fr {p r : ByteArray} (hr : bs (frms [p]) = r) : r.data.toList = frm p.data.toList ++ (ByteArray.mk #[]).data.toList := by rw [← hr]; simp [bs, frms]
set_option maxHeartbeats 1200000 in
theorem flong (p : ByteArray) (w : World) (ht : Tab w) (hp : p.size ≤ 100) :
    Calls Tryd.prog 12 #[.string p] w (Yes w) := by
  obtain ⟨i0, hi0, hz0, hz1, hz2⟩ := info_parts info_u8
  obtain ⟨l, hl⟩ : ∃ l : List UInt8, List.replicate 1048576 0 = l := ⟨_, rfl⟩
  have hll : l.length = 1048576 := by rw [← hl, List.length_replicate]
  obtain ⟨x, hx⟩ : ∃ x, bs l = x := ⟨_, rfl⟩
  have hxz : x.size = 1048576 := by rw [← hx, bs_size, hll]
  obtain ⟨r, hr⟩ : ∃ r, bs (frms [x]) = r := ⟨_, rfl⟩
  have hxl : x.data.toList.length = 1048576 := by rw [← hxz]; simp
  have hfl := frm_len (p := x.data.toList) (by omega)
  have hfr : frms [x] = frm x.data.toList := by simp [frms]
  have hrz : r.size ≤ 1048590 := by rw [← hr, bs_size, hfr]; omega
  have hft : (frms [x]).length ≤ 900000000 := by rw [hfr]; omega
  have hro := opn_fr hr
  have hz1' := Lib.hid (fun y hy => by obtain rfl : y = x := by simpa using hy
                                       omega : ∀ y ∈ [x], y.size ≤ 1048576)
  have hxa : (x ++ ⟨#[120]⟩).size = 1048577 := by rw [ByteArray.size_append, hxz]; rfl
  have hxxi : (x.size : Int) = 1048576 := by omega
  have HL := Lib.hid hl
  have HX := Lib.hid hx
  have HR := Lib.hid hr
  have HRO := Lib.hid hro
  have HFT := Lib.hid hft
  have HXA := Lib.hid hxa
  clear hl hll hx hr hxl hfl hfr hft hro hxa hxz
  go_enter Tryd.func12, Tryd.ntmps12
  go_wp2_with fail
  refine (fawake _ ht).mono ?_
  rintro e w1 ⟨rfl, hk1⟩
  have ht1 := ht.kp hk1
  go_wp2_with (at_make; go_must (refine wpList_make_full _ rfl _ _ 48 rfl w1.heap.size 5 i0 _ 1 Tryd.underlying48 hi0 hz0 hz1 .i64 .i64 1048576 1048576 1048576 rfl rfl rfl rfl (by rw [hz2]; decide) (by decide) (Nat.le_refl _) ?_); intro w3 hown3 hg3; have hcv := made_conv hown3 HL.out)
  rw [HX.out]
  have hk3 : Kp [] w1 w3 := Kp.of_grown hg3 (by simp)
  have hk13 := hk1.trans hk3
  have ht3 := ht1.kp hk3
  clear hown3 hg3 hcv hk1 hk3 ht1
  refine (seal_to (some ⟨w3.heap.size, 0, none⟩) 1 1 [x] r _ HR.out (ht3.kp ((Kp.rfl_ _ _).alloc _)) (Ls.of_at (At.new w3 9 #[.string x])) hz1'.out (by omega) HFT.out).mono ?_
  rintro e w4 ⟨rfl, hk4⟩
  have hk14 := (hk13.alloc _).trans hk4
  have ht4 := ht.kp hk14
  clear hk4 hk13 ht3
  go_wp2_with fail
  refine (open_frm r x ⟨#[]⟩ ⟨#[]⟩ _ ht4 HRO.out (by omega) (by omega)).mono ?_
  rintro e w5 ⟨rfl, hk5⟩
  have hk15 := hk14.trans hk5
  have ht5 := ht.kp hk15
  clear hk5 hk14 ht4
  have hall : ∀ z ∈ [p, x ++ ByteArray.mk #[120]], z.size ≤ maxLen := fun z hz => by
    have h1 := HXA.out
    simp only [List.mem_cons, List.not_mem_nil, or_false] at hz
    unfold maxLen
    rcases hz with rfl | rfl <;> omega
  have HALL := Lib.hid hall
  clear hall
  obtain ⟨y, hy⟩ : ∃ y, x ++ ByteArray.mk #[120] = y := ⟨_, rfl⟩
  rw [hy] at HALL HXA
  go_wp2_with fail
  try rw [hy]
  refine (seal_long (some ⟨w5.heap.size, 0, none⟩) 2 2 [p, y] _ (ht5.kp ((Kp.rfl_ _ _).alloc _)) (Ls.of_at (At.new w5 9 #[.string p, .string y])) HALL.out ⟨y, by simp, by have := HXA.out; omega⟩ (by omega)).mono ?_
  rintro e w6 ⟨rfl, hk6⟩
  have hk16 := (hk15.alloc _).trans hk6
  clear hk6 hk15 ht5
  go_wp2_with fail
  go_ret
  exact ⟨ret_bool (by simp), hk16⟩
set_option maxHeartbeats 1000000 in
theorem flong_not (p : ByteArray) (w : World) (ht : Tab w) (hp : 100 < p.size) (hz : p.size ≤ 9223372036854775807) :
    Calls Tryd.prog 12 #[.string p] w (Yes w) := by
  go_enter Tryd.func12, Tryd.ntmps12
  go_wp2_with fail
  refine (fawake _ ht).mono ?_
  rintro e w2 ⟨rfl, hk2⟩
  go_wp2_with fail
  refine (fawake _ (ht.kp hk2)).mono ?_
  rintro e w3 ⟨rfl, hk3⟩
  go_wp2_with fail
  go_ret
  exact ⟨rfl, hk2.trans hk3⟩
theorem flong_walk (v0 : Value) (w : World) (hl : LaidCrc w) (i0 : In w 9 v0) : Calls Tryd.prog 12 #[v0] w (Yes w) := by
  obtain ⟨s, rfl, hs⟩ := in_string Tryd.underlying9 i0
  by_cases h : s.size ≤ 100
  · exact flong s w (tab_of hl) h
  · exact flong_not s w (tab_of hl) (by omega) (size_le hs)
end Go.Proofs.YthnfjkinliekoaaDoor
