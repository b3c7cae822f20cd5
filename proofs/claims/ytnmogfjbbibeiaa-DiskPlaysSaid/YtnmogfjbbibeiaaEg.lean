/- The document's drive: where a file stands; names that may be; a step. -/
import Derived.Test.YtnmogfjbbibeiaaEf
namespace Go.Proofs.Ytnmogfjbbibeiaa
set_option maxRecDepth 100000
open Go.RowKit
set_option linter.unusedVariables false

def Atd (fs : List DF) (s : ByteArray) (w : World) (e : Ending) (w' : World) : Prop := e = .returned (.tuple #[.int .i64 (posL fs s), .bool (isL fs s)]) ∧ Kp [] w w'
theorem Atd.ret {fs : List DF} {s : ByteArray} {w : World} (e : Ending) (w' : World) (h : Atd fs s w e w') : ∃ v, e = .returned v := ⟨_, h.1⟩
set_option maxHeartbeats 4000000 in
theorem at_any (s : ByteArray) (w : World) {g : Nat} {v : Value} {fs : List DF} {left : Int} {off : Bool} {count : Nat} (h : FSt w g v fs left off count) (hn : fs.length ≤ 1000000) :
    Calls Try.prog 39 #[.pointer (some ⟨g, 0, none⟩), .string s] w (Atd fs s w) := by
  obtain ⟨A, c, rfl, hnc, hcm, -⟩ := h.row.slice
  have c0 := h.blk.cell 0
  have hd : Kp [] w w.drew := (Kp.rfl_ [] w).drew
  go_enter Try.func39, Try.ntmps39
  go_wp2_with fail
  go_loopg [6] fs.length (fun gk s6 wr => ∃ i : Nat, fs.length - i ≤ gk ∧ s6 = .int .i64 i ∧ i ≤ fs.length ∧ w = wr ∧ ∀ (j : Nat) (f' : DF), j < i → fs[j]? = some f' → f'.name.data.toList < s.data.toList)
  case atStart => exact ⟨0, by omega, rfl, Nat.zero_le _, rfl, fun j f' h => by omega⟩
  case round =>
    obtain ⟨i, hgk, rfl, hi, rfl, hpre⟩ := hrel
    have HPRE := Lib.hid hpre
    clear hpre
    by_cases hlt : i < fs.length
    · obtain ⟨f, hf⟩ : ∃ f, fs[i]? = some f := ⟨_, List.getElem?_eq_getElem hlt⟩
      obtain ⟨gk2, hA, r0, -⟩ := h.row.at_ hf
      subst hA
      have b2 : (i : Int) < (fs.length : Int) := by omega
      have hst := posL_step fs s i f hf HPRE.out
      have HST := Lib.hid hst
      have HF := Lib.hid hf
      clear hst hf
      by_cases hl : f.name.data.toList < s.data.toList
      · have e1 : Op.bytesLess f.name.toList s.toList = true := by rw [less_dec]; exact decide_eq_true hl
        have HL := Lib.hid hl
        clear hl
        go_wp2_with fail
        go_roundg (fs.length - (i + 1))
        case measure => omega
        case rel => exact ⟨i + 1, by omega, by go_num, by omega, rfl, fun j f' hj hf' => by
            rcases Nat.lt_or_ge j i with h1 | h1
            · exact HPRE.out j f' h1 hf'
            · obtain rfl : j = i := by omega
              have := HF.out.symm.trans hf'
              injection this with this
              rw [← this]
              exact HL.out⟩
      · have e1 : Op.bytesLess f.name.toList s.toList = false := by rw [less_dec]; exact decide_eq_false hl
        have hp := HST.out.2 hl
        have HI : Hid (isL fs s = decide (f.name = s)) := Lib.hid (by unfold isL; rw [hp, HF.out])
        have HP := Lib.hid hp
        have r1 : w.drew.cell? ⟨gk2, i * 4, none⟩ = some (.string f.name) := r0
        have c1 : w.drew.cell? ⟨g, 0, none⟩ = some (.slice (some ⟨gk2, 0, none⟩) fs.length c) := c0
        clear hl hp
        by_cases en : f.name = s
        · have HI2 : Hid (isL fs s = true) := Lib.hid (by rw [HI.out]; exact decide_eq_true en)
          clear HI
          subst en
          go_wp2_with fail
          refine region_sq_l (by kernel_rfl) (by kernel_rfl) (calm_of (fun _ _ _ h => h.2) (fun _ _ h => h) Atd.ret) ?_
          go_wp2_with fail
          refine sqQ_end (by rfl) ?_
          go_wp2_with fail
          go_ret2
          exact ⟨by rw [HP.out, HI2.out]; rfl, hd⟩
        · have e2 := toList_ne en
          have HN := Lib.hid en
          clear en
          go_wp2_with fail
          refine region_sq_l (by kernel_rfl) (by kernel_rfl) (calm_of (fun _ _ _ h => h.2) (fun _ _ h => h) Atd.ret) ?_
          go_wp2_with fail
          refine sqQ_end (by rfl) ?_
          go_wp2_with fail
          go_ret2
          exact ⟨by rw [HP.out, HI.out, decide_eq_false HN.out]; rfl, hd⟩
    · obtain rfl : i = fs.length := by omega
      have hp := posL_all fs s fun j f' hf' => HPRE.out j f' (List.getElem?_eq_some_iff.1 hf').1 hf'
      have HI : Hid (isL fs s = false) := Lib.hid (by unfold isL; rw [hp, List.getElem?_eq_none (Nat.le_refl _)])
      have HP := Lib.hid hp
      have c1 : w.drew.cell? ⟨g, 0, none⟩ = some (.slice A fs.length c) := c0
      clear hp
      go_wp2_with fail
      refine region_sq_l (by kernel_rfl) (by kernel_rfl) (calm_of (fun _ _ _ h => h.2) (fun _ _ h => h) Atd.ret) ?_
      go_wp2_with fail
      refine sqQ_end (by rfl) ?_
      go_wp2_with fail
      go_ret2
      exact ⟨by rw [HP.out, HI.out]; rfl, hd⟩
set_option maxHeartbeats 4000000 in
theorem rnamed_any (s : ByteArray) (w : World) (hs : s.size ≤ maxLen) : Calls Try.prog 48 #[.string s] w fun e w' => e = .returned (.bool (okName s)) ∧ w = w' := by
  obtain ⟨ok, hok⟩ : ∃ ok, okName s = ok := ⟨_, rfl⟩
  have HOK := Lib.hid hok
  rw [hok]
  clear hok
  unfold maxLen at hs
  go_enter Try.func48, Try.ntmps48
  go_wp2_with fail
  go_loopg [3] s.size (fun gk i wr => ∃ m : Nat, s.size - m ≤ gk ∧ i = .int .i64 m ∧ m ≤ s.size ∧ w = wr ∧ ∀ (k : Nat) (b : UInt8), k < m → s.data.toList[k]? = some b → okc b = true)
  case atStart => exact ⟨0, by omega, rfl, Nat.zero_le _, rfl, fun k b h => by omega⟩
  case round =>
    obtain ⟨m, hgk, rfl, hm, rfl, hpre⟩ := hrel
    have HPRE := Lib.hid hpre
    clear hpre
    by_cases hlt : m < s.size
    · obtain ⟨b, hb, hbl⟩ := byte_at hlt
      have hgood : okc b = true → ∀ k b', k < m + 1 → s.data.toList[k]? = some b' → okc b' = true := fun h k b' hk hk2 => by
        rcases Nat.lt_or_ge k m with h1 | h1
        · exact HPRE.out k b' h1 hk2
        · obtain rfl : k = m := by omega
          have := hbl.symm.trans hk2
          injection this with this
          rw [← this]
          exact h
      have HG := Lib.hid hgood
      have HB : Hid (okc b = false → ok = false) := Lib.hid fun h => by rw [← HOK.out]; exact okName_no hbl h
      have b2 : (m : Int) < (s.size : Int) := by omega
      obtain ⟨c, hc⟩ : ∃ c, b.toNat = c := ⟨_, rfl⟩
      have HC : Hid (okc b = ((decide (97 ≤ c) && decide (c ≤ 122)) || (decide (48 ≤ c) && decide (c ≤ 57)) || decide (c = 46))) := Lib.hid (by unfold okc; rw [hc])
      have hc255 : c ≤ 255 := by rw [← hc]; have := b.toNat_lt; omega
      clear hgood hbl
      rcases (show (97 ≤ c ∧ c ≤ 122) ∨ (48 ≤ c ∧ c ≤ 57) ∨ c = 46 ∨ (c < 46) ∨ c = 47 ∨ (57 < c ∧ c < 97) ∨ 122 < c by omega) with h | h | h | h | h | h | h
      · have hy : okc b = true := by rw [HC.out]; simp; omega
        go_wp2_with fail
        go_roundg (s.size - (m + 1))
        case measure => omega
        case rel => exact ⟨m + 1, by omega, by go_num, by omega, rfl, HG.out hy⟩
      · have hy : okc b = true := by rw [HC.out]; simp; omega
        go_wp2_with fail
        go_roundg (s.size - (m + 1))
        case measure => omega
        case rel => exact ⟨m + 1, by omega, by go_num, by omega, rfl, HG.out hy⟩
      · have hy : okc b = true := by rw [HC.out]; simp; omega
        go_wp2_with fail
        go_roundg (s.size - (m + 1))
        case measure => omega
        case rel => exact ⟨m + 1, by omega, by go_num, by omega, rfl, HG.out hy⟩
      · have hy : okc b = false := by rw [HC.out]; simp; omega
        have h46 : ((c : Int) == 46) = false := by rw [beq_eq_false_iff_ne]; omega
        have hok := HB.out hy
        subst hok
        go_wp2_with fail
        go_ret
        exact ⟨rfl, rfl⟩
      · have hy : okc b = false := by rw [HC.out]; simp; omega
        have h46 : ((c : Int) == 46) = false := by rw [beq_eq_false_iff_ne]; omega
        have hok := HB.out hy
        subst hok
        go_wp2_with fail
        go_ret
        exact ⟨rfl, rfl⟩
      · have hy : okc b = false := by rw [HC.out]; simp; omega
        have h57 : decide ((c : Int) ≤ 57) = false := by simp; omega
        have h46 : ((c : Int) == 46) = false := by rw [beq_eq_false_iff_ne]; omega
        have hok := HB.out hy
        subst hok
        go_wp2_with fail
        go_ret
        exact ⟨rfl, rfl⟩
      · have hy : okc b = false := by rw [HC.out]; simp; omega
        have h57 : decide ((c : Int) ≤ 57) = false := by simp; omega
        have h122 : decide ((c : Int) ≤ 122) = false := by simp; omega
        have h46 : ((c : Int) == 46) = false := by rw [beq_eq_false_iff_ne]; omega
        have hok := HB.out hy
        subst hok
        go_wp2_with fail
        go_ret
        exact ⟨rfl, rfl⟩
    · have hmn : m = s.size := by omega
      have hall : ∀ (k : Nat) (b : UInt8), s.data.toList[k]? = some b → okc b = true := fun k b hk => HPRE.out k b (by have := (List.getElem?_eq_some_iff.1 hk).1; simp at this; omega) hk
      have HALL := Lib.hid hall
      clear hall
      rcases (show s.size < 1 ∨ 80 < s.size ∨ (1 ≤ s.size ∧ s.size ≤ 80) by omega) with h | h | ⟨h1, h2⟩
      · have hno : ok = false := by rw [← HOK.out]; unfold okName; simp; omega
        subst hno
        have hz : ¬ (1 : Int) ≤ (s.size : Int) := by omega
        go_wp2_with fail
        go_ret
        exact ⟨rfl, rfl⟩
      · have hno : ok = false := by rw [← HOK.out]; unfold okName; simp; omega
        subst hno
        have hz : ¬ (s.size : Int) ≤ 80 := by omega
        have hz1 : (1 : Int) ≤ (s.size : Int) := by omega
        go_wp2_with fail
        go_ret
        exact ⟨rfl, rfl⟩
      · have hyes : ok = true := by rw [← HOK.out]; exact okName_yes h1 h2 HALL.out
        subst hyes
        have hz : (s.size : Int) ≤ 80 := by omega
        have hz1 : (1 : Int) ≤ (s.size : Int) := by omega
        go_wp2_with fail
        go_ret
        exact ⟨rfl, rfl⟩
end Go.Proofs.Ytnmogfjbbibeiaa
