/- Package disk: names that may be; bytes that a file holds. -/
import Derived.Test.YtnmogfjbbibeiaaSame
import Derived.Test.YtnmogfjbbibeiaaSv
import Derived.Maps.Own
import Derived.Maps.OwnSet
import Derived.Maps.Views
namespace Go.Proofs.Ytnmogfjbbibeiaa
set_option maxRecDepth 100000
open Go.RowKit Go.Maps Go.WideMaps Go.WideElems Go.ChangeMaps
set_option linter.unusedVariables false

def okc (c : UInt8) : Bool := (decide (97 ≤ c.toNat) && decide (c.toNat ≤ 122)) || (decide (48 ≤ c.toNat) && decide (c.toNat ≤ 57)) || decide (c.toNat = 46)
def okName (s : ByteArray) : Bool := decide (1 ≤ s.size) && decide (s.size ≤ 80) && s.data.toList.all okc
theorem okName_no {s : ByteArray} {k : Nat} {b : UInt8} (hb : s.data.toList[k]? = some b) (h : okc b = false) : okName s = false := by
  unfold okName
  have : s.data.toList.all okc = false := by
    rw [List.all_eq_false]
    exact ⟨b, List.mem_of_getElem? hb, by simp [h]⟩
  rw [this, Bool.and_false]
theorem okName_yes {s : ByteArray} (h1 : 1 ≤ s.size) (h2 : s.size ≤ 80) (h : ∀ (k : Nat) (b : UInt8), s.data.toList[k]? = some b → okc b = true) : okName s = true := by
  unfold okName
  have : s.data.toList.all okc = true := by
    rw [List.all_eq_true]
    intro b hb
    obtain ⟨k, hk⟩ := List.mem_iff_getElem?.1 hb
    exact h k b hk
  rw [this]
  simp [h1, h2]
set_option maxHeartbeats 4000000 in
theorem mayBe_any (s : ByteArray) (w : World) : Calls Try.prog 52 #[.string s] w fun e w' => e = .returned (.bool (okName s)) ∧ w = w' := by
  rcases (show s.size < 1 ∨ 80 < s.size ∨ (1 ≤ s.size ∧ s.size ≤ 80) by omega) with h | h | ⟨h1, h2⟩
  · have hno : okName s = false := by unfold okName; simp; omega
    rw [hno]
    clear hno
    go_enter Try.func52, Try.ntmps52
    go_wp2_with fail
    go_ret
    exact ⟨rfl, rfl⟩
  · have hno : okName s = false := by unfold okName; simp; omega
    rw [hno]
    clear hno
    go_enter Try.func52, Try.ntmps52
    go_wp2_with fail
    go_ret
    exact ⟨rfl, rfl⟩
  obtain ⟨ok, hok⟩ : ∃ ok, okName s = ok := ⟨_, rfl⟩
  have HOK := Lib.hid hok
  rw [hok]
  clear hok
  go_enter Try.func52, Try.ntmps52
  go_wp2_with fail
  go_loopg [15] s.size (fun gk i wr => ∃ m : Nat, s.size - m ≤ gk ∧ i = .int .i64 m ∧ m ≤ s.size ∧ w = wr ∧ ∀ (k : Nat) (b : UInt8), k < m → s.data.toList[k]? = some b → okc b = true)
  case atStart => exact ⟨0, by omega, rfl, Nat.zero_le _, rfl, fun k b h => by omega⟩
  case round =>
    obtain ⟨m, hgk, rfl, hm, rfl, hpre⟩ := hrel
    have HPRE := Lib.hid hpre
    clear hpre
    by_cases hlt : m < s.size
    · obtain ⟨b, hb, hbl⟩ := byte_at hlt
      have hgood : okc b = true → ∀ k b', k < m + 1 → s.data.toList[k]? = some b' → okc b' = true := fun h k b' hk hk2 => by
        rcases Nat.lt_or_ge k m with h1 | h1
        · exact HPRE.out k b' h1 hk2
        · obtain rfl : k = m := by omega
          have := hbl.symm.trans hk2
          injection this with this
          rw [← this]
          exact h
      have HG := Lib.hid hgood
      have HB : Hid (okc b = false → ok = false) := Lib.hid fun h => by rw [← HOK.out]; exact okName_no hbl h
      have b2 : (m : Int) < (s.size : Int) := by omega
      obtain ⟨c, hc⟩ : ∃ c, b.toNat = c := ⟨_, rfl⟩
      have HC : Hid (okc b = ((decide (97 ≤ c) && decide (c ≤ 122)) || (decide (48 ≤ c) && decide (c ≤ 57)) || decide (c = 46))) := Lib.hid (by unfold okc; rw [hc])
      have hc255 : c ≤ 255 := by rw [← hc]; have := b.toNat_lt; omega
      clear hgood hbl
      rcases (show (97 ≤ c ∧ c ≤ 122) ∨ (48 ≤ c ∧ c ≤ 57) ∨ c = 46 ∨ (c < 46) ∨ c = 47 ∨ (57 < c ∧ c < 97) ∨ 122 < c by omega) with h | h | h | h | h | h | h
      · have hy : okc b = true := by rw [HC.out]; simp; omega
        go_wp2_with fail
        go_roundg (s.size - (m + 1))
        case measure => omega
        case rel => exact ⟨m + 1, by omega, by go_num, by omega, rfl, HG.out hy⟩
      · have hy : okc b = true := by rw [HC.out]; simp; omega
        go_wp2_with fail
        go_roundg (s.size - (m + 1))
        case measure => omega
        case rel => exact ⟨m + 1, by omega, by go_num, by omega, rfl, HG.out hy⟩
      · have hy : okc b = true := by rw [HC.out]; simp; omega
        go_wp2_with fail
        go_roundg (s.size - (m + 1))
        case measure => omega
        case rel => exact ⟨m + 1, by omega, by go_num, by omega, rfl, HG.out hy⟩
      · have hy : okc b = false := by rw [HC.out]; simp; omega
        have h46 : ((c : Int) == 46) = false := by rw [beq_eq_false_iff_ne]; omega
        have hok := HB.out hy
        subst hok
        go_wp2_with fail
        go_ret
        exact ⟨rfl, rfl⟩
      · have hy : okc b = false := by rw [HC.out]; simp; omega
        have h46 : ((c : Int) == 46) = false := by rw [beq_eq_false_iff_ne]; omega
        have hok := HB.out hy
        subst hok
        go_wp2_with fail
        go_ret
        exact ⟨rfl, rfl⟩
      · have hy : okc b = false := by rw [HC.out]; simp; omega
        have h57 : decide ((c : Int) ≤ 57) = false := by simp; omega
        have h46 : ((c : Int) == 46) = false := by rw [beq_eq_false_iff_ne]; omega
        have hok := HB.out hy
        subst hok
        go_wp2_with fail
        go_ret
        exact ⟨rfl, rfl⟩
      · have hy : okc b = false := by rw [HC.out]; simp; omega
        have h57 : decide ((c : Int) ≤ 57) = false := by simp; omega
        have h122 : decide ((c : Int) ≤ 122) = false := by simp; omega
        have h46 : ((c : Int) == 46) = false := by rw [beq_eq_false_iff_ne]; omega
        have hok := HB.out hy
        subst hok
        go_wp2_with fail
        go_ret
        exact ⟨rfl, rfl⟩
    · have hmn : m = s.size := by omega
      have hyes : ok = true := by rw [← HOK.out]; exact okName_yes h1 h2 fun k b hk => HPRE.out k b (by have := (List.getElem?_eq_some_iff.1 hk).1; simp at this; omega) hk
      subst hyes
      go_wp2_with fail
      go_ret
      exact ⟨rfl, rfl⟩
theorem mayBe_to (s : ByteArray) (b : Bool) (h : okName s = b) (w : World) : Calls Try.prog 52 #[.string s] w fun e w' => e = .returned (.bool b) ∧ w = w' := by
  rw [← h]
  exact mayBe_any s w
/-- How many bytes a file has. -/
theorem HSize.ret {n : Int} {w : World} (e : Ending) (w' : World) (h : e = .returned (.int .i64 n) ∧ Kp [] w w') : ∃ v, e = .returned v := ⟨_, h.1⟩
set_option maxHeartbeats 1000000 in
theorem hsize_any (g : Nat) (l t : ByteArray) (y : Bool) (w : World) (h : At w g 70 #[.string l, .string t, .bool y]) (hl : l.size ≤ 1099511627776) (ht : t.size ≤ 1099511627776) :
    Calls Try.prog 41 #[.pointer (some ⟨g, 0, none⟩)] w fun e w' => e = .returned (.int .i64 (l.size + t.size : Nat)) ∧ Kp [] w w' := by
  have hd : Kp [] w w.drew := (Kp.rfl_ [] w).drew
  have h2 := h.kp hd (by simp)
  have c0 := h2.cell 0
  have c1 := h2.cell 1
  go_enter Try.func41, Try.ntmps41
  go_wp2_with fail
  refine region_sq_l (by kernel_rfl) (by kernel_rfl) (calm_of (fun _ _ _ h => h.2) (fun _ _ h => h) HSize.ret) ?_
  go_wp2_with fail
  refine sqQ_end (by rfl) ?_
  go_wp2_with fail
  go_ret
  exact ⟨by simp, hd⟩
set_option maxHeartbeats 1000000 in
theorem hput_any (g : Nat) (l t x : ByteArray) (y : Bool) (w : World) (h : At w g 70 #[.string l, .string t, .bool y]) (hs : t.size + x.size ≤ 1099511627776) :
    Calls Try.prog 44 #[.pointer (some ⟨g, 0, none⟩), .string x] w fun e w' => e = .returned (.tuple #[]) ∧ At w' g 70 #[.string l, .string (t ++ x), .bool y] ∧ Kp [g] w w' := by
  have c0 := h.cell 0
  have c1 := h.cell 1
  have f1 := h.frozen 1
  have h1 := h.set 1 (.string (t ++ x))
  have k1 : Kp [g] w (w.setCell ⟨g, 1, none⟩ (.string (t ++ x))) := (Kp.rfl_ [g] w).set (by simp) _
  go_enter Try.func44, Try.ntmps44
  go_wp2_with fail
  go_end0
  exact ⟨rfl, h1, k1⟩
end Go.Proofs.Ytnmogfjbbibeiaa
