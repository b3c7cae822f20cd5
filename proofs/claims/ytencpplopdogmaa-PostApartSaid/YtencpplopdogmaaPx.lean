/- slices.Index and slices.Contains over integers. -/
import Derived.Test.YtencpplopdogmaaPw
namespace Go.Proofs.Ytencpplopdogmaa
set_option maxRecDepth 100000
open Go.RowKit
set_option linter.unusedVariables false

def Idx (zs : List Int) (v r : Int) : Prop := (r = -1 ∧ ∀ z ∈ zs, z ≠ v) ∨ ∃ k : Nat, r = (k : Int) ∧ zs[k]? = some v
def hasI (zs : List Int) (v : Int) : Bool := zs.any fun z => z == v
theorem Idx.has {zs : List Int} {v r : Int} (h : Idx zs v r) : decide (0 ≤ r) = hasI zs v := by
  rcases h with ⟨rfl, h⟩ | ⟨k, rfl, h⟩
  · have : hasI zs v = false := by
      unfold hasI
      rw [List.any_eq_false]
      intro z hz
      simpa using h z hz
    rw [this]; rfl
  · have : hasI zs v = true := by
      unfold hasI
      rw [List.any_eq_true]
      exact ⟨v, List.mem_of_getElem? h, by simp⟩
    rw [this]
    simp
theorem ints_at {w : World} {A : Option Addr} {n k : Nat} {zs : List Int} (hs : Ls w A n (zs.map (Value.int .i64))) (hlt : k < n) :
    ∃ ad s, A = some ad ∧ zs[k]? = some s ∧ w.cell? (ad.add k) = some (.int .i64 s) := by
  obtain ⟨ad, u, rfl, _, hu, hcell⟩ := hs.at_ hlt
  rw [List.getElem?_map] at hu
  cases hz : zs[k]? with
  | none => rw [hz] at hu; cases hu
  | some s =>
    rw [hz] at hu
    injection hu with hu
    subst hu
    exact ⟨ad, s, rfl, rfl, hcell⟩
set_option maxHeartbeats 1000000 in
theorem index_any (v : Int) (A : Option Addr) (n c : Nat) (zs : List Int) (w : World) (hs : Ls w A n (zs.map (Value.int .i64))) (hn : n ≤ maxLen) :
    Calls Try.prog 34 #[.slice A n c, .int .i64 v] w fun e w' => (∃ r, e = .returned (.int .i64 r) ∧ Idx zs v r) ∧ w = w' := by
  unfold maxLen at hn
  have hlen : zs.length = n := by simpa using hs.1
  have HL := Lib.hid hlen
  clear hlen
  go_enter Try.func34, Try.ntmps34
  go_wp2_with fail
  go_loopg [8] n (fun gk i wr => ∃ m : Nat, n - m ≤ gk ∧ i = .int .i64 m ∧ m ≤ n ∧ w = wr ∧ ∀ z ∈ zs.take m, z ≠ v)
  case atStart => exact ⟨0, by omega, rfl, Nat.zero_le _, rfl, by simp⟩
  case round =>
    obtain ⟨m, hgk, rfl, hm, rfl, hno⟩ := hrel
    by_cases hlt : m < n
    · obtain ⟨ad, s, rfl, hz, hc⟩ := ints_at hs hlt
      have b2 : (m : Int) < (n : Int) := by omega
      by_cases hsv : v = s
      · subst hsv
        have HZ := Lib.hid hz
        clear hz hno
        go_wp2_with fail
        go_ret
        exact ⟨⟨_, rfl, .inr ⟨m, rfl, HZ.out⟩⟩, rfl⟩
      · have hmb : (v == s) = false := by rw [beq_eq_false_iff_ne]; exact hsv
        have HNO : Hid (∀ z ∈ zs.take (m + 1), z ≠ v) := Lib.hid fun z hz2 => by
          rw [List.take_add_one, hz] at hz2
          rcases List.mem_append.1 hz2 with h | h
          · exact hno z h
          · have : z = s := by simpa using h
            rw [this]
            exact fun e => hsv e.symm
        clear hno hsv hz
        go_wp2_with fail
        go_roundg (n - (m + 1))
        case measure => omega
        case rel => exact ⟨m + 1, by omega, by go_num, by omega, rfl, HNO.out⟩
    · have hmn : m = n := by omega
      have HNO : Hid (∀ z ∈ zs, z ≠ v) := Lib.hid fun z hz => hno z (by rw [hmn, ← HL.out, List.take_length]; exact hz)
      clear hno
      go_wp2_with fail
      go_ret
      exact ⟨⟨_, rfl, .inl ⟨rfl, HNO.out⟩⟩, rfl⟩
set_option maxHeartbeats 1000000 in
theorem contains_any (v : Int) (A : Option Addr) (n c : Nat) (zs : List Int) (w : World) (hs : Ls w A n (zs.map (Value.int .i64))) (hn : n ≤ maxLen) :
    Calls Try.prog 32 #[.slice A n c, .int .i64 v] w fun e w' => e = .returned (.bool (hasI zs v)) ∧ w = w' := by
  go_enter Try.func32, Try.ntmps32
  go_wp2_with fail
  refine (index_any v A n c zs w hs hn).mono ?_
  rintro e w2 ⟨⟨r, rfl, hr⟩, rfl⟩
  go_wp2_with fail
  go_ret
  exact ⟨ret_bool (hr.has), rfl⟩
end Go.Proofs.Ytencpplopdogmaa
