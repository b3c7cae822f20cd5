/- The document's own: primes, roots. -/
import Derived.Test.YtencpplopdogmaaDoorSe
import Derived.Deep.LoopGhost
namespace Go.Proofs.YtencpplopdogmaaDoor
set_option maxRecDepth 100000
open Go.RowKit
set_option linter.unusedVariables false

def good (p : Nat) : Bool := (List.range 21).all fun j => decide (j < 2) || decide (p < j * j) || decide (p % j ≠ 0)
/-- No number below d but 1 divides q. -/
def nd (q d : Nat) : Bool := (List.range d).all fun j => decide (j < 2) || decide (q % j ≠ 0)
theorem nd_succ (q d : Nat) (h : 2 ≤ d) : nd q (d + 1) = (nd q d && decide (q % d ≠ 0)) := by
  unfold nd
  rw [List.range_succ, List.all_append]
  simp only [List.all_cons, List.all_nil, Bool.and_true]
  rw [show decide (d < 2) = false by simpa using h, Bool.false_or]
theorem good_nd {q d : Nat} (hd : 2 ≤ d) (h1 : d = 2 ∨ (d - 1) * (d - 1) ≤ q) (h2 : q < d * d) (h21 : d ≤ 21) : good q = nd q d := by
  rw [Bool.eq_iff_iff]
  unfold good nd
  simp only [List.all_eq_true, List.mem_range, Bool.or_eq_true, decide_eq_true_eq]
  constructor
  · intro h j hj
    rcases h j (by omega) with (h' | h') | h'
    · exact .inl h'
    · rcases h1 with rfl | h1
      · exact .inl hj
      · have : j * j ≤ (d - 1) * (d - 1) := Nat.mul_le_mul (by omega) (by omega)
        omega
    · exact .inr h'
  · intro h j hj
    by_cases hjd : j < d
    · rcases h j hjd with h' | h'
      · exact .inl (.inl h')
      · exact .inr h'
    · have : d * d ≤ j * j := Nat.mul_le_mul (by omega) (by omega)
      exact .inl (.inr (by omega))
def srch : Nat → Nat → Nat → Option Nat
  | 0, _, _ => none
  | f + 1, p, n => if good (p + 1) then (if n = 0 then some (p + 1) else srch f (p + 1) (n - 1)) else srch f (p + 1) n
def beginN : List Nat := [0x6a09e667, 0xbb67ae85, 0x3c6ef372, 0xa54ff53a, 0x510e527f, 0x9b05688c, 0x1f83d9ab, 0x5be0cd19]
def prs : List Nat := (List.range 64).map fun n => (srch 400 1 n).getD 0
theorem prs_all : ∀ n : Fin 64, srch 400 1 n.val = some (prs.getD n.val 0) := by decide +kernel
theorem srch_yes {f p n r : Nat} (h : srch (f + 1) p n = some r) (hg : good (p + 1) = true) : (n = 0 ∧ p + 1 = r) ∨ (0 < n ∧ srch f (p + 1) (n - 1) = some r) := by
  rw [srch, if_pos hg] at h
  by_cases h0 : n = 0
  · rw [if_pos h0] at h
    exact .inl ⟨h0, by injection h⟩
  · rw [if_neg h0] at h
    exact .inr ⟨by omega, h⟩
theorem srch_no {f p n r : Nat} (h : srch (f + 1) p n = some r) (hg : good (p + 1) = false) : srch f (p + 1) n = some r := by
  rw [srch, hg] at h
  exact h
set_option maxHeartbeats 1000000 in
theorem prime_any (n0 r : Nat) (w : World) (h : srch 400 1 n0 = some r) (hn : n0 ≤ 64) :
    Calls Tryd.prog 50 #[.int .i64 n0] w fun e w' => e = .returned (.int .u64 r) ∧ w = w' := by
  have H := Lib.hid h
  clear h
  go_enter Tryd.func50, Tryd.ntmps50
  go_wp2_with fail
  go_loopg [0, 3] 400 (fun gk nv pv wr => ∃ f p n : Nat, f ≤ gk ∧ Hid (srch f p n = some r) ∧ p + f ≤ 401 ∧ n ≤ 64 ∧ nv = .int .i64 n ∧ pv = .int .u64 p ∧ w = wr)
  case atStart => exact ⟨400, 1, n0, Nat.le_refl _, H, by omega, hn, rfl, rfl, rfl⟩
  case round =>
    clear H hn
    obtain ⟨f, p, n, hgk, H, hpf, hn, rfl, rfl, rfl⟩ := hrel
    obtain ⟨f, rfl⟩ : ∃ g, f = g + 1 := by
      cases f with
      | zero => have := H.out; simp [srch] at this
      | succ g => exact ⟨g, rfl⟩
    obtain ⟨q, hq⟩ : ∃ q, p + 1 = q := ⟨_, rfl⟩
    have hqI : (p : Int) + 1 = (q : Int) := by omega
    have hq400 : q ≤ 401 := by omega
    have HQ := Lib.hid hq
    go_wp2_with fail
    go_loopg [4, 5] 21 (fun gk fv dv wr => ∃ d : Nat, 21 - d ≤ gk ∧ 2 ≤ d ∧ d ≤ 21 ∧ Hid (d = 2 ∨ (d - 1) * (d - 1) ≤ q) ∧ fv = .bool (nd q d) ∧ dv = .int .u64 d ∧ w = wr)
    case atStart => exact ⟨2, by omega, by omega, by omega, .inl rfl, rfl, rfl, rfl⟩
    case round =>
      obtain ⟨d, hgd, hd2, hd21, hdd, rfl, rfl, rfl⟩ := hrel
      obtain ⟨m, hm⟩ : ∃ m, d * d = m := ⟨_, rfl⟩
      have hmI : (d : Int) * (d : Int) = (m : Int) := by rw [← hm]; push_cast; rfl
      have hm441 : m ≤ 441 := by rw [← hm]; exact Nat.mul_le_mul hd21 hd21
      by_cases hle : m ≤ q
      · have hleI : (m : Int) ≤ (q : Int) := by omega
        have hd20 : d ≤ 20 := by
          rcases Nat.lt_or_ge 20 d with h | h
          · have := Nat.mul_le_mul (show 21 ≤ d from h) (show 21 ≤ d from h)
            omega
          · exact h
        have hnext : Hid (d + 1 = 2 ∨ (d + 1 - 1) * (d + 1 - 1) ≤ q) := .inr (by rw [Nat.add_sub_cancel, hm]; exact hle)
        have hsucc := nd_succ q d hd2
        by_cases hdv : q % d = 0
        · have hdI : ((q : Int) % (d : Int) == 0) = true := by rw [beq_iff_eq]; omega
          have hdI2 : (((q : Int).tmod (d : Int)) == 0) = true := by rw [Int.tmod_eq_emod_of_nonneg (by omega)]; exact hdI
          have hsf : nd q (d + 1) = false := by rw [hsucc]; simp [hdv]
          have HSF := Lib.hid hsf
          have hdne : ((d : Int) == 0) = false := by rw [beq_eq_false_iff_ne]; omega
          clear hsucc hsf hdv hm hdd
          go_wp2_with fail
          go_roundg (21 - (d + 1))
          case measure => omega
          case rel => exact ⟨d + 1, by omega, by omega, by omega, hnext, by rw [HSF.out], rfl, rfl⟩
        · have hdI : ((q : Int) % (d : Int) == 0) = false := by rw [beq_eq_false_iff_ne]; omega
          have hdI2 : (((q : Int).tmod (d : Int)) == 0) = false := by rw [Int.tmod_eq_emod_of_nonneg (by omega)]; exact hdI
          have hsf : nd q (d + 1) = nd q d := by rw [hsucc]; simp [hdv]
          have HSF := Lib.hid hsf
          have hdne : ((d : Int) == 0) = false := by rw [beq_eq_false_iff_ne]; omega
          clear hsucc hsf hdv hm hdd
          go_wp2_with fail
          go_roundg (21 - (d + 1))
          case measure => omega
          case rel => exact ⟨d + 1, by omega, by omega, by omega, hnext, by rw [HSF.out], rfl, rfl⟩
      · have hleI : ¬ (m : Int) ≤ (q : Int) := by omega
        have hgood : good q = nd q d := good_nd hd2 hdd.out (by omega) hd21
        have HS := H.out
        rw [← hgood]
        cases hgq : good q with
        | false =>
          have hs := srch_no HS (by rw [HQ.out]; exact hgq)
          rw [HQ.out] at hs
          have HS2 := Lib.hid hs
          clear HS hs hgood hgq hm hdd H
          go_wp2_with fail
          go_roundg f
          case measure => omega
          case rel => exact ⟨f, q, n, Nat.le_refl _, HS2, by omega, hn, rfl, rfl, rfl⟩
        | true =>
          rcases srch_yes HS (by rw [HQ.out]; exact hgq) with ⟨rfl, hr⟩ | ⟨h0, hs⟩
          · rw [HQ.out] at hr
            subst hr
            clear HS hgood hgq hm hdd H
            go_wp2_with fail
            go_ret
            exact ⟨rfl, rfl⟩
          · rw [HQ.out] at hs
            have hnI : ((n : Int) == 0) = false := by rw [beq_eq_false_iff_ne]; omega
            have hn1 : (n : Int) - 1 = ((n - 1 : Nat) : Int) := by omega
            have HS2 := Lib.hid hs
            clear HS hs hgood hgq hm hdd H
            go_wp2_with fail
            go_roundg f
            case measure => omega
            case rel => exact ⟨f, q, n - 1, Nat.le_refl _, HS2, by omega, by omega, by go_num, rfl, rfl⟩
/-- One bit of a square root. -/
def sqS (p r b : Nat) : Nat :=
  let x := r + 2 ^ b
  let hi := x / 4294967296
  let lo := x % 4294967296
  let mid := hi * lo * 2 % 4294967296 * 4294967296
  let rest := (lo * lo + mid) % 18446744073709551616
  let top := hi * hi + hi * lo / 2147483648 + if rest < mid then 1 else 0
  if top < p ∨ (top = p ∧ rest = 0) then x else r
def sqR (p : Nat) : Nat → Nat
  | 0 => 0
  | k + 1 => sqS p (sqR p k) (35 - k)
theorem sqS_or (p r b : Nat) : sqS p r b = r ∨ sqS p r b = r + 2 ^ b := by
  unfold sqS
  simp only
  generalize (r + 2 ^ b) / 4294967296 * ((r + 2 ^ b) / 4294967296) + (r + 2 ^ b) / 4294967296 * ((r + 2 ^ b) % 4294967296) / 2147483648 + _ = z
  by_cases h : z < p ∨ z = p ∧ ((r + 2 ^ b) % 4294967296 * ((r + 2 ^ b) % 4294967296) + (r + 2 ^ b) / 4294967296 * ((r + 2 ^ b) % 4294967296) * 2 % 4294967296 * 4294967296) % 18446744073709551616 = 0
  · rw [if_pos h]; exact .inr rfl
  · rw [if_neg h]; exact .inl rfl
theorem u64_mask32 (a : Nat) (h : a < 18446744073709551616) : bits .and .u64 (a : Int) 4294967295 = ((a % 4294967296 : Nat) : Int) := by
  rw [show (4294967295 : Int) = ((4294967295 : Nat) : Int) from rfl, u64_and_nat a 4294967295 h (by decide)]
  congr 1
  exact Nat.and_two_pow_sub_one_eq_mod a 32
theorem sqR_le (p : Nat) : ∀ k, k ≤ 36 → sqR p k + 2 ^ (36 - k) ≤ 2 ^ 36 := by
  intro k
  induction k with
  | zero => intro _; simp [sqR]
  | succ k ih =>
    intro h
    have h1 := ih (by omega)
    have h2 : 2 ^ (36 - k) = 2 ^ (36 - (k + 1)) * 2 := by rw [← Nat.pow_succ]; congr 1; omega
    rw [sqR]
    rcases sqS_or p (sqR p k) (35 - k) with h3 | h3
    · rw [h3]; omega
    · rw [h3, show 35 - k = 36 - (k + 1) by omega]; omega
theorem sq_all : ∀ i : Fin 8, sqR (prs.getD i.val 0) 36 % 4294967296 = beginN.getD i.val 0 := by decide +kernel
set_option maxHeartbeats 1000000 in
theorem square_any (p : Nat) (w : World) (hp : p < 1000) :
    Calls Tryd.prog 49 #[.int .u64 p] w fun e w' => e = .returned (.int .u32 (sqR p 36 % 4294967296 : Nat)) ∧ w = w' := by
  go_enter Tryd.func49, Tryd.ntmps49
  go_wp2_with fail
  go_loopg [3, 4] 36 (fun gk rv bv wr => ∃ k : Nat, 36 - k ≤ gk ∧ k ≤ 36 ∧ rv = .int .u64 (sqR p k) ∧ bv = .int .i64 (35 - (k : Int)) ∧ w = wr)
  case atStart => exact ⟨0, by omega, by omega, rfl, rfl, rfl⟩
  case round =>
    obtain ⟨k, hgk, hk, rfl, rfl, rfl⟩ := hrel
    have hle := sqR_le p k hk
    by_cases hlt : k < 36
    · have hb0 : (0 : Int) ≤ 35 - (k : Int) := by omega
      have hbn : (35 - (k : Int)).toNat = 35 - k := by omega
      have hb2 : IntKind.i64.wrap (35 - (k : Int) - 1) = 35 - ((k + 1 : Nat) : Int) := by rw [IntWalk.i64_in _ (by omega)]; omega
      obtain ⟨x, hx⟩ : ∃ x, sqR p k + 2 ^ (35 - k) = x := ⟨_, rfl⟩
      have h2 : 2 ^ (36 - k) = 2 ^ (35 - k) * 2 := by rw [← Nat.pow_succ]; congr 1; omega
      have hx36 : x < 68719476736 := by have := Nat.two_pow_pos (35 - k); omega
      obtain ⟨pw, hpw⟩ : ∃ pw, 2 ^ (35 - k) = pw := ⟨_, rfl⟩
      have F0 : (2 : Int) ^ (35 - k) = (pw : Int) := by rw [← hpw]; push_cast; rfl
      have hpw36 : pw < 68719476736 := by omega
      have hxI : ((sqR p k : Nat) : Int) + (pw : Int) = (x : Int) := by omega
      obtain ⟨hi, hhi⟩ : ∃ hi, x / 4294967296 = hi := ⟨_, rfl⟩
      obtain ⟨lo, hlo⟩ : ∃ lo, x % 4294967296 = lo := ⟨_, rfl⟩
      have hi15 : hi ≤ 15 := by omega
      have lo32 : lo < 4294967296 := by omega
      have F1 : (x : Int) / 4294967296 = (hi : Int) := by omega
      have F2 : bits .and .u64 (x : Int) 4294967295 = (lo : Int) := by rw [u64_mask32 x (by omega), hlo]
      obtain ⟨hh, hhh⟩ : ∃ hh, hi * hi = hh := ⟨_, rfl⟩
      have b1 : hh ≤ 225 := by rw [← hhh]; exact Nat.mul_le_mul hi15 hi15
      have F3 : (hi : Int) * (hi : Int) = (hh : Int) := by rw [← hhh]; push_cast; rfl
      obtain ⟨hl, hhl⟩ : ∃ hl, hi * lo = hl := ⟨_, rfl⟩
      have b2 : hl ≤ 15 * 4294967295 := by rw [← hhl]; exact Nat.mul_le_mul hi15 (by omega)
      have F4 : (hi : Int) * (lo : Int) = (hl : Int) := by rw [← hhl]; push_cast; rfl
      obtain ⟨t0, ht0⟩ : ∃ t0, hh + hl / 2147483648 = t0 := ⟨_, rfl⟩
      have F5 : (hh : Int) + (hl : Int) / 2147483648 = (t0 : Int) := by omega
      obtain ⟨m1, hm1⟩ : ∃ m1, hl * 2 = m1 := ⟨_, rfl⟩
      have F6 : (hl : Int) * 2 = (m1 : Int) := by omega
      obtain ⟨m2, hm2⟩ : ∃ m2, m1 % 4294967296 = m2 := ⟨_, rfl⟩
      have F7 : bits .and .u64 (m1 : Int) 4294967295 = (m2 : Int) := by rw [u64_mask32 m1 (by omega), hm2]
      obtain ⟨mid, hmid⟩ : ∃ mid, m2 * 4294967296 = mid := ⟨_, rfl⟩
      have F8 : (m2 : Int) * 4294967296 = (mid : Int) := by omega
      have b3 : mid < 18446744073709551616 := by omega
      obtain ⟨ll, hll⟩ : ∃ ll, lo * lo = ll := ⟨_, rfl⟩
      have b4 : ll ≤ 4294967295 * 4294967295 := by rw [← hll]; exact Nat.mul_le_mul (by omega) (by omega)
      have F9 : (lo : Int) * (lo : Int) = (ll : Int) := by rw [← hll]; push_cast; rfl
      obtain ⟨rest, hrest⟩ : ∃ rest, (ll + mid) % 18446744073709551616 = rest := ⟨_, rfl⟩
      have F10 : IntKind.u64.wrap ((ll : Int) + (mid : Int)) = (rest : Int) := by rw [IntKind.wrap_u64]; omega
      have hres : ∀ top, (top = t0 + if rest < mid then 1 else 0) → sqR p (k + 1) = if top < p ∨ (top = p ∧ rest = 0) then x else sqR p k := by
        rintro top rfl
        rw [sqR, sqS]
        simp only [hx, hhi, hlo, hhh, hhl, hll, hm1, hm2, hmid, hrest, ht0]
      have hsq : sqR p k < 68719476736 := by omega
      have HRES := Lib.hid hres
      clear hres hx h2 hle hpw hhi hlo hhh hhl ht0 hm1 hm2 hmid hll hrest
      generalize sqR p k = rk at *
      by_cases c1 : rest < mid
      · obtain ⟨top, htop⟩ : ∃ top, t0 + 1 = top := ⟨_, rfl⟩
        have F11 : (t0 : Int) + 1 = (top : Int) := by omega
        have HR := Lib.hid (HRES.out top (by rw [if_pos c1, htop]))
        clear HRES htop
        by_cases c2 : top < p
        · have hr : sqR p (k + 1) = x := by rw [HR.out, if_pos (.inl c2)]
          have HR2 := Lib.hid hr
          clear hr HR
          go_wp2_with fail
          go_roundg (36 - (k + 1))
          case measure => omega
          case rel => exact ⟨k + 1, by omega, by omega, by rw [HR2.out], by go_num, rfl⟩
        · by_cases c3 : top = p
          · have hc3 : ((top : Int) == (p : Int)) = true := by rw [beq_iff_eq]; omega
            by_cases c4 : rest = 0
            · have hr : sqR p (k + 1) = x := by rw [HR.out, if_pos (.inr ⟨c3, c4⟩)]
              have hc4 : ((rest : Int) == 0) = true := by rw [beq_iff_eq]; omega
              have HR2 := Lib.hid hr
              clear hr HR c3 c4
              go_wp2_with fail
              go_roundg (36 - (k + 1))
              case measure => omega
              case rel => exact ⟨k + 1, by omega, by omega, by rw [HR2.out], by go_num, rfl⟩
            · have hr : sqR p (k + 1) = rk := by rw [HR.out, if_neg (by omega)]
              have hc4 : ((rest : Int) == 0) = false := by rw [beq_eq_false_iff_ne]; omega
              have HR2 := Lib.hid hr
              clear hr HR c3
              go_wp2_with fail
              go_roundg (36 - (k + 1))
              case measure => omega
              case rel => exact ⟨k + 1, by omega, by omega, by rw [HR2.out], by go_num, rfl⟩
          · have hr : sqR p (k + 1) = rk := by rw [HR.out, if_neg (by omega)]
            have hc3 : ((top : Int) == (p : Int)) = false := by rw [beq_eq_false_iff_ne]; omega
            have HR2 := Lib.hid hr
            clear hr HR
            go_wp2_with fail
            go_roundg (36 - (k + 1))
            case measure => omega
            case rel => exact ⟨k + 1, by omega, by omega, by rw [HR2.out], by go_num, rfl⟩
      · obtain ⟨top, htop⟩ : ∃ top, t0 = top := ⟨_, rfl⟩
        have HR := Lib.hid (HRES.out top (by rw [if_neg c1, htop]; rfl))
        subst htop
        clear HRES
        by_cases c2 : t0 < p
        · have hr : sqR p (k + 1) = x := by rw [HR.out, if_pos (.inl c2)]
          have HR2 := Lib.hid hr
          clear hr HR
          go_wp2_with fail
          go_roundg (36 - (k + 1))
          case measure => omega
          case rel => exact ⟨k + 1, by omega, by omega, by rw [HR2.out], by go_num, rfl⟩
        · by_cases c3 : t0 = p
          · have hc3 : ((t0 : Int) == (p : Int)) = true := by rw [beq_iff_eq]; omega
            by_cases c4 : rest = 0
            · have hr : sqR p (k + 1) = x := by rw [HR.out, if_pos (.inr ⟨c3, c4⟩)]
              have hc4 : ((rest : Int) == 0) = true := by rw [beq_iff_eq]; omega
              have HR2 := Lib.hid hr
              clear hr HR c3 c4
              go_wp2_with fail
              go_roundg (36 - (k + 1))
              case measure => omega
              case rel => exact ⟨k + 1, by omega, by omega, by rw [HR2.out], by go_num, rfl⟩
            · have hr : sqR p (k + 1) = rk := by rw [HR.out, if_neg (by omega)]
              have hc4 : ((rest : Int) == 0) = false := by rw [beq_eq_false_iff_ne]; omega
              have HR2 := Lib.hid hr
              clear hr HR c3
              go_wp2_with fail
              go_roundg (36 - (k + 1))
              case measure => omega
              case rel => exact ⟨k + 1, by omega, by omega, by rw [HR2.out], by go_num, rfl⟩
          · have hr : sqR p (k + 1) = rk := by rw [HR.out, if_neg (by omega)]
            have hc3 : ((t0 : Int) == (p : Int)) = false := by rw [beq_eq_false_iff_ne]; omega
            have HR2 := Lib.hid hr
            clear hr HR
            go_wp2_with fail
            go_roundg (36 - (k + 1))
            case measure => omega
            case rel => exact ⟨k + 1, by omega, by omega, by rw [HR2.out], by go_num, rfl⟩
    · obtain rfl : k = 36 := by omega
      have hb0 : ¬ (0 : Int) ≤ 35 - ((36 : Nat) : Int) := by omega
      have hlt36 : sqR p 36 < 18446744073709551616 := by omega
      obtain ⟨rk, hrk⟩ : ∃ rk, sqR p 36 = rk := ⟨_, rfl⟩
      rw [hrk] at hlt36
      rw [hrk]
      have HRK := Lib.hid hrk
      clear hle hrk
      go_wp2_with fail
      go_ret
      exact ⟨ret_int (by rw [HRK.out]), rfl⟩
end Go.Proofs.YtencpplopdogmaaDoor
