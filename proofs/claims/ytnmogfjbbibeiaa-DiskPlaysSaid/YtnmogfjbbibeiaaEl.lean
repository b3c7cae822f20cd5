/- The document's drive: Names, Copy. -/
import Derived.Test.YtnmogfjbbibeiaaEk
namespace Go.Proofs.Ytnmogfjbbibeiaa
set_option maxRecDepth 100000
open Go.RowKit
set_option linter.unusedVariables false

def namesL (fs : List DF) (p : ByteArray) : List ByteArray := (fs.filter fun f => hpre f.name p).map DF.name
def RS.names (R : RS) (p : ByteArray) : List ByteArray := if R.off = true then [] else namesL R.fs p
theorem namesL_succ {fs : List DF} {i : Nat} {f : DF} (h : fs[i]? = some f) (p : ByteArray) : namesL (fs.take (i + 1)) p = namesL (fs.take i) p ++ (if hpre f.name p = true then [f.name] else []) := by
  unfold namesL
  rw [List.take_add_one, h]
  simp only [Option.toList_some, List.filter_append, List.map_append]
  congr 1
  by_cases hh : hpre f.name p = true <;> simp [hh]
theorem namesL_len (fs : List DF) (p : ByteArray) : (namesL fs p).length ≤ fs.length := by unfold namesL; rw [List.length_map]; exact List.length_filter_le _ _
def RNm (w : World) (L : List ByteArray) (e : Ending) (w' : World) : Prop := ∃ v, e = .returned v ∧ w'.ownsRow w.heap.size 9 1 v L.length (L.map Value.string) ∧ Kp [] w w'
set_option maxHeartbeats 8000000 in
theorem rnames_any (p : ByteArray) {w : World} {g : Nat} {R : RS} {P : Nat → Prop} (h : RDrv w g R P) (hn : R.fs.length ≤ 1000) :
    Calls Try.prog 18 #[.pointer (some ⟨g, 0, none⟩), .string p] w (RNm w (R.names p)) := by
  obtain ⟨v, h1, h2, h3⟩ := h
  obtain ⟨fs, left, off, count⟩ := R
  have hn : fs.length ≤ 1000 := hn
  obtain ⟨A, c, rfl, hnc, hcm, -⟩ := h1.row.slice
  cases off
  · rw [show RS.names ⟨fs, left, false, count⟩ p = namesL fs p by unfold RS.names; rw [if_neg (by simp)]]
    go_enter Try.func18, Try.ntmps18
    go_wp2_with fail
    go_loopg [5, 6] fs.length (fun gk s5 s6 wr => ∃ i : Nat, fs.length - i ≤ gk ∧ s6 = .int .i64 i ∧ i ≤ fs.length ∧ wr.ownsRow w.heap.size 9 1 s5 (namesL (fs.take i) p).length ((namesL (fs.take i) p).map Value.string) ∧ Kp [] w wr)
    case atStart => exact ⟨0, by omega, rfl, Nat.zero_le _, own_none _ _ _, Kp.rfl_ _ _⟩
    case round =>
      obtain ⟨i, hgk, rfl, hi, hown, hkr⟩ := hrel
      have hr := h1.kp hkr (by simp) (by simp)
      have c0 := hr.blk.cell 0
      have c2 := hr.blk.cell 2
      by_cases hlt : i < fs.length
      · obtain ⟨f, hf⟩ : ∃ f, fs[i]? = some f := ⟨_, List.getElem?_eq_getElem hlt⟩
        obtain ⟨gk2, hA, r0, -⟩ := hr.row.at_ hf
        subst hA
        have b2 : (i : Int) < (fs.length : Int) := by omega
        have hsucc := namesL_succ hf p
        have hll := namesL_len (fs.take i) p
        have htl : (fs.take i).length ≤ i := by simp; omega
        have HS := Lib.hid hsucc
        have HLL : Hid ((namesL (fs.take i) p).length ≤ 1000) := Lib.hid (by omega)
        clear hsucc hf hll htl
        obtain ⟨L, hL⟩ : ∃ L, namesL (fs.take i) p = L := ⟨_, rfl⟩
        rw [hL] at hown HS HLL
        clear hL
        by_cases hz : p.size ≤ f.name.size
        · obtain ⟨y, hy⟩ : ∃ y, ((f.name.extract 0 p.size).toList == p.toList) = y := ⟨_, rfl⟩
          have HP : Hid (hpre f.name p = y) := Lib.hid (by unfold hpre; rw [decide_eq_true hz, hy]; rfl)
          cases y
          · go_wp2_with fail
            go_roundg (fs.length - (i + 1))
            case measure => omega
            case rel => exact ⟨i + 1, by omega, by go_num, by omega, by rw [HS.out, HP.out]; simpa using hown, hkr⟩
          · have hl9 := HLL.out
            go_wp2_with (at_builtin; go_must (refine wpl_one_kp dinfo_str Try.underlying38 rfl (by omega) wr w.heap.size rfl _ _ rfl u5 L.length (L.map Value.string) (.string f.name) rfl hown rfl rfl hkr.size (by omega) ?_); intro v8 w8 h8 hk8 hv8; have hkw8 : Kp [] w w8 := hkr.then hk8 (fun z hz hlt => by have := (own_block_lt hown (g := z) (by simpa using hz)).1; omega))
            go_roundg (fs.length - (i + 1))
            case measure => omega
            case rel => exact ⟨i + 1, by omega, by go_num, by omega, by rw [HS.out, HP.out]; simpa using h8, hkw8⟩
        · have HP : Hid (hpre f.name p = false) := Lib.hid (by unfold hpre; rw [decide_eq_false hz]; rfl)
          go_wp2_with fail
          go_roundg (fs.length - (i + 1))
          case measure => omega
          case rel => exact ⟨i + 1, by omega, by go_num, by omega, by rw [HS.out, HP.out]; simpa using hown, hkr⟩
      · obtain rfl : i = fs.length := by omega
        rw [List.take_length] at hown
        go_wp2_with fail
        go_ret
        exact ⟨_, rfl, hown, hkr⟩
  · rw [show RS.names ⟨fs, left, true, count⟩ p = [] by unfold RS.names; rw [if_pos rfl]]
    have c0 := h1.blk.cell 0
    have c2 := h1.blk.cell 2
    go_enter Try.func18, Try.ntmps18
    go_wp2_with fail
    go_loopg [5, 6] 0 (fun gk s5 s6 wr => s5 = .slice none 0 0 ∧ s6 = .int .i64 0 ∧ w = wr)
    case atStart => exact ⟨rfl, rfl, rfl⟩
    case round =>
      obtain ⟨rfl, rfl, rfl⟩ := hrel
      by_cases hlt : (0 : Int) < (fs.length : Int)
      · go_wp2_with fail
        go_ret
        exact ⟨_, rfl, own_none _ _ _, Kp.rfl_ _ _⟩
      · go_wp2_with fail
        go_ret
        exact ⟨_, rfl, own_none _ _ _, Kp.rfl_ _ _⟩
set_option maxHeartbeats 8000000 in
theorem rcopy_any {w : World} {g : Nat} {R : RS} {P : Nat → Prop} (h : RDrv w g R P) (hn : R.fs.length ≤ 1000) :
    Calls Try.prog 24 #[.pointer (some ⟨g, 0, none⟩)] w fun e w' => ∃ g', e = .returned (.pointer (some ⟨g', 0, none⟩)) ∧ RDrv w' g' R (fun x => w.heap.size ≤ x) ∧ Kp [] w w' := by
  obtain ⟨v, h1, h2, h3⟩ := h
  obtain ⟨fs, left, off, count⟩ := R
  have hn : fs.length ≤ 1000 := hn
  obtain ⟨A, c, rfl, hnc, hcm, -⟩ := h1.row.slice
  have c0 := h1.blk.cell 0
  have c1 := h1.blk.cell 1
  have c2 := h1.blk.cell 2
  have c3 := h1.blk.cell 3
  have k1 : Kp [] w (w.alloc (.cells #[.slice A fs.length c, .int .i64 left, .bool off, .int .i64 count] 60)) := (Kp.rfl_ [] w).alloc _
  have a1 : At (w.alloc (.cells #[.slice A fs.length c, .int .i64 left, .bool off, .int .i64 count] 60)) w.heap.size 60 #[.slice A fs.length c, .int .i64 left, .bool off, .int .i64 count] := At.new w _ _
  obtain ⟨gn, hgn⟩ : ∃ gn, w.heap.size = gn := ⟨_, rfl⟩
  have HG := Lib.hid hgn
  go_enter Try.func24, Try.ntmps24
  go_upto_region 2 with fail
  have hrow := h1.row.kp k1 (by simp)
  have hb1 := h1.blk.kp k1 (by simp)
  generalize w.alloc (.cells #[.slice A fs.length c, .int .i64 left, .bool off, .int .i64 count] 60) = w1 at *
  rw [hgn] at a1
  have kb : Kp [] w1 (w1.alloc (.cells #[] 64)) := (Kp.rfl_ [] w1).alloc _
  have d0 := (hb1.kp kb (by simp)).cell 0
  have hl1 := a1.lt
  go_wp2_with (at_builtin; go_must (refine wpl_fapp w1.heap.size rfl _ _ rfl rfl (.slice (some ⟨w1.heap.size, 0, none⟩) 0 0) [] (FO.empty w1) rfl A fs.length c fs rfl rfl (hrow.src.kp kb (by simp)) (by simp; omega) (by simp) ?_); intro v8 w8 ho8 hk8 hv8; have hk18 : Kp [] w1 w8 := kb.then hk8 (fun z hz hlt => by simp [Value.ownBlock] at hz; omega); have a8 := a1.kp hk18 (by simp); have f8 := a8.frozen 0; have q8 := a8.cell 0; obtain ⟨A8, c8, rfl, -⟩ := ho8.row.slice)
  go_ret
  rw [List.nil_append] at ho8
  have k9 : Kp [gn] w8 (w8.setCell ⟨gn, 0, none⟩ (.slice A8 ([] ++ fs).length c8)) := (Kp.rfl_ [gn] w8).set (by simp) _
  have hne : ∀ x, (Value.slice A8 ([] ++ fs).length c8).ownBlock = some x → w1.heap.size ≤ x := fun x hx => ho8.base hx
  refine ⟨gn, rfl, ⟨_, ⟨a8.set 0 _, ho8.row.kp k9 (fun x hx => by have := hne x hx; simp; omega), fun e => by have := hne _ e; omega⟩, by omega, fun x hx => by have := hne x hx; have := k1.size; omega⟩, (k1.trans hk18).then k9 (fun z hz hlt => by simp at hz; omega)⟩
end Go.Proofs.Ytnmogfjbbibeiaa
