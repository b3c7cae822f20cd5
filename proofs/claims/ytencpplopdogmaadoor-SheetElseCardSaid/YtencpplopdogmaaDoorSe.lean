/- Words: rot, of both. -/
import Derived.Test.YtencpplopdogmaaDoorSd
import Derived.Laws.BitsAllLaws
namespace Go.Proofs.YtencpplopdogmaaDoor
set_option maxRecDepth 100000
open Go.RowKit
set_option linter.unusedVariables false

/-- Turned to the right by n, of 32 bits. -/
def rotn (x n : Nat) : Nat := x / 2 ^ n ||| x * 2 ^ (32 - n) % 4294967296
theorem or_lt32 {a b : Nat} (ha : a < 4294967296) (hb : b < 4294967296) : a ||| b < 4294967296 := Nat.or_lt_two_pow (n := 32) ha hb
theorem rotn_lt (x n : Nat) (hx : x < 4294967296) : rotn x n < 4294967296 := or_lt32 (Nat.lt_of_le_of_lt (Nat.div_le_self _ _) hx) (Nat.mod_lt _ (by decide))
theorem and31_all : ∀ n : Fin 32, 1 ≤ n.val → bits .and .u64 (IntKind.u64.wrap (-(n.val : Int))) 31 = ((32 - n.val : Nat) : Int) := by decide +kernel
theorem pow_nat (s : Nat) : (2 : Int) ^ s = ((2 ^ s : Nat) : Int) := by
  rw [Int.natCast_pow]; rfl
theorem shl_nat (x s : Nat) : (x : Int) * 2 ^ s % 4294967296 = ((x * 2 ^ s % 4294967296 : Nat) : Int) := by
  rw [pow_nat, ← Int.natCast_mul]
  generalize x * 2 ^ s = y
  omega
theorem shr_nat (x n : Nat) : (x : Int) / 2 ^ n = ((x / 2 ^ n : Nat) : Int) := by
  rw [pow_nat, ← Int.natCast_ediv]
theorem rot_eq2 (x n : Nat) (hx : x < 4294967296) : bits .or .u32 ((x : Int) / 2 ^ n) ((x : Int) * 2 ^ (32 - n) % 4294967296) = ((rotn x n : Nat) : Int) := by
  rw [shl_nat, shr_nat, u32_or_nat _ _ (Nat.lt_of_le_of_lt (Nat.div_le_self _ _) hx) (Nat.mod_lt _ (by decide))]
  rfl
theorem rot_eq1 (x n s : Nat) (hx : x < 4294967296) (hs : 32 - n = s) (h2 : n ≤ 31) : bits .or .u32 ((x : Int) * 2 ^ s % 4294967296) ((x : Int) / 2 ^ (32 - s)) = ((rotn x n : Nat) : Int) := by
  have e : 32 - s = n := by omega
  rw [e, shl_nat, shr_nat, u32_or_nat _ _ (Nat.mod_lt _ (by decide)) (Nat.lt_of_le_of_lt (Nat.div_le_self _ _) hx), Nat.or_comm]
  unfold rotn
  rw [hs]
set_option maxHeartbeats 1000000 in
theorem rotl_any (x n : Nat) (w : World) (hx : x < 4294967296) (h1 : 1 ≤ n) (h2 : n ≤ 31) :
    Calls Tryd.prog 74 #[.int .u32 x, .int .i64 (-(n : Int))] w fun e w' => e = .returned (.int .u32 (rotn x n : Nat)) ∧ w = w' := by
  have ha := and31_all ⟨n, by omega⟩ h1
  simp only at ha
  obtain ⟨s, hs⟩ : ∃ s, 32 - n = s := ⟨_, rfl⟩
  rw [hs] at ha
  have hs1 : 1 ≤ s := by omega
  have hs2 : s ≤ 31 := by omega
  go_enter Tryd.func74, Tryd.ntmps74
  go_wp2_with fail
  go_ret
  exact ⟨ret_int (rot_eq1 x n s hx hs h2), rfl⟩
theorem rot_any (x n : Nat) (w : World) (hx : x < 4294967296) (h1 : 1 ≤ n) (h2 : n ≤ 31) :
    Calls Tryd.prog 67 #[.int .u32 x, .int .i64 n] w fun e w' => e = .returned (.int .u32 (rotn x n : Nat)) ∧ w = w' := by
  obtain ⟨r, hr⟩ : ∃ r, rotn x n = r := ⟨_, rfl⟩
  have h := rotl_any x n w hx h1 h2
  rw [hr] at h ⊢
  have H := Lib.hid h
  clear h hr
  go_enter Tryd.func67, Tryd.ntmps67
  go_wp2_with fail
  refine H.out.mono ?_
  rintro e w2 ⟨rfl, rfl⟩
  go_wp2_with fail
  go_ret
  exact ⟨rfl, rfl⟩
set_option maxHeartbeats 1000000 in
theorem rrot_any (x n : Nat) (w : World) (hx : x < 4294967296) (h1 : 1 ≤ n) (h2 : n ≤ 31) :
    Calls Tryd.prog 53 #[.int .u32 x, .int .i64 n] w fun e w' => e = .returned (.int .u32 (rotn x n : Nat)) ∧ ∃ m, w' = w.drewN m := by
  have hn1 : (0 : Int) ≤ (n : Int) := by omega
  have hn2 : (0 : Int) ≤ 32 - (n : Int) := by omega
  have hn3 : IntKind.i64.wrap (32 - (n : Int)) = 32 - (n : Int) := IntWalk.i64_in _ (by omega)
  have hn4 : (32 - (n : Int)).toNat = 32 - n := by omega
  go_enter Tryd.func53, Tryd.ntmps53
  go_wp2_with fail
  go_region
  go_wp2_with fail
  go_ret
  exact ⟨ret_int (rot_eq2 x n hx), 1, rfl⟩
end Go.Proofs.YtencpplopdogmaaDoor
