/- A map from texts to six answers each (hunt: HuntAll). -/
import Derived.Test.YtbhhenhabhahdaaNb
import Derived.Maps.Own
import Derived.Maps.OwnSet
import Derived.Maps.Views
namespace Go.Proofs.Ytbhhenhabhahdaa
set_option maxRecDepth 100000
open Go.RowKit Go.Maps Go.WideMaps Go.WideElems Go.ChangeMaps
set_option linter.unusedVariables false

def b6 (f : Nat → Bool) : Value := .agg #[.bool (f 0), .bool (f 1), .bool (f 2), .bool (f 3), .bool (f 4), .bool (f 5)]
def d6 (f : Nat → Bool) : DataW Unit := .agg [.lit (.bool (f 0)), .lit (.bool (f 1)), .lit (.bool (f 2)), .lit (.bool (f 3)), .lit (.bool (f 4)), .lit (.bool (f 5))]
def R6 (v : Value) : Option (DataW Unit × List MemPlace) := match v with
  | .agg cs => match cs.toList with
    | [.bool a, .bool b, .bool c, .bool d, .bool e, .bool f] => some (.agg [.lit (.bool a), .lit (.bool b), .lit (.bool c), .lit (.bool d), .lit (.bool e), .lit (.bool f)], [])
    | _ => none
  | _ => none
theorem R6_b6 (f : Nat → Bool) : R6 (b6 f) = some (d6 f, []) := rfl
theorem R6_inv {v : Value} {d : DataW Unit} {ps : List MemPlace} (h : R6 v = some (d, ps)) : ∃ f, v = b6 f ∧ d = d6 f := by
  unfold R6 at h
  split at h
  · rename_i cs
    split at h
    · rename_i a b c d' e f hcs
      simp only [Option.some.injEq, Prod.mk.injEq] at h
      refine ⟨fun n => match n with | 0 => a | 1 => b | 2 => c | 3 => d' | 4 => e | _ => f, ?_, h.1.symm⟩
      have hc : cs = #[.bool a, .bool b, .bool c, .bool d', .bool e, .bool f] := Array.ext' hcs
      rw [hc]
      rfl
    · cases h
  · cases h
theorem d6_inj {f g : Nat → Bool} (h : d6 f = d6 g) {n : Nat} (hn : n < 6) : f n = g n := by
  unfold d6 at h
  simp only [DataW.agg.injEq, List.cons.injEq, DataW.lit.injEq, Lit.bool.injEq, and_true] at h
  obtain ⟨h0, h1, h2, h3, h4, h5⟩ := h
  match n, hn with
  | 0, _ => exact h0
  | 1, _ => exact h1
  | 2, _ => exact h2
  | 3, _ => exact h3
  | 4, _ => exact h4
  | 5, _ => exact h5
def kl (s : ByteArray) : Lit := .string s.data.toList
theorem kl_ne {s s' : ByteArray} (h : s ≠ s') : kl s ≠ kl s' := fun e => h (by
  unfold kl at e
  injection e with e
  exact bs_eq e)
theorem kl_key (s : ByteArray) : WideAt.IsKeyLit (kl s) := trivial
def no6 : Nat → Bool := fun _ => false
def up (f : Nat → Bool) (n : Nat) : Nat → Bool := fun m => if m = n then true else f m
def askedBy (D : DataW Unit) (s : ByteArray) (n : Nat) : Prop := ∃ f, D.atKey (kl s) (d6 no6) = d6 f ∧ f n = true
theorem asked_put_same {D : DataW Unit} (hD : IsMap D) (s : ByteArray) (f : Nat → Bool) (n : Nat) : askedBy (D.put (kl s) (d6 (up f n))) s n :=
  ⟨_, atKey_put_same hD (kl_key s) _ _, by simp [up]⟩
theorem asked_put_mono {D : DataW Unit} (hD : IsMap D) {s s' : ByteArray} {f : Nat → Bool} {n m : Nat} (hf : D.atKey (kl s) (d6 no6) = d6 f) (hm : m < 6) (h : askedBy D s' m) : askedBy (D.put (kl s) (d6 (up f n))) s' m := by
  by_cases e : s' = s
  · subst e
    obtain ⟨g, hg, hgm⟩ := h
    refine ⟨_, atKey_put_same hD (kl_key _) _ _, ?_⟩
    have := d6_inj (hf.symm.trans hg) hm
    unfold up
    rw [this, hgm]
    simp
  · obtain ⟨g, hg, hgm⟩ := h
    exact ⟨g, by rw [atKey_put_other (kl_ne e)]; exact hg, hgm⟩
theorem om_kp {k : TypeId} {w w' : World} {b n : Nat} {D : DataW Unit} {S : List Nat} (h : w.ownsMap Try.prog k R6 b n D) (kk : Kp S w w') (hb : b ∉ S) : w'.ownsMap Try.prog k R6 b n D := by
  have hlt := h.lt
  obtain ⟨es, clock, h1, F, hs, hD⟩ := h
  exact ⟨es, clock, (kk.block b hlt hb).trans h1, F, hs, hD⟩
def c6 (f : Nat → Bool) : Array Value := #[.bool (f 0), .bool (f 1), .bool (f 2), .bool (f 3), .bool (f 4), .bool (f 5)]
theorem c6_up (f : Nat → Bool) {p : Nat} (hp : p < 6) : (c6 f).setIfInBounds p (.bool true) = c6 (up f p) := by
  match p, hp with
  | 0, _ => rfl
  | 1, _ => rfl
  | 2, _ => rfl
  | 3, _ => rfl
  | 4, _ => rfl
  | 5, _ => rfl
theorem c6_get (f : Nat → Bool) {p : Nat} (hp : p < 6) : (c6 f)[p]? = some (.bool (f p)) := by
  match p, hp with
  | 0, _ => rfl
  | 1, _ => rfl
  | 2, _ => rfl
  | 3, _ => rfl
  | 4, _ => rfl
  | 5, _ => rfl
theorem skey : Keyed Try.prog 9 := string_keyed Try.underlying9
theorem skey_of {s : ByteArray} (h : s.size ≤ maxLen) : keyOf Try.prog 9 (.string s) = some (kl s) := keyOf_string_mk Try.underlying9 h
theorem zero6 (w : World) : (zeroValue 33).run Try.prog w = .ok (b6 no6) w := by kernel_rfl
theorem ls_ne_map {k : TypeId} {w : World} {b m n : Nat} {D : DataW Unit} {A : Option Addr} {xs : List Value} (h : w.ownsMap Try.prog k R6 b m D) (hL : Ls w A n xs) (hn : 0 < n) : ∀ ad, A = some ad → ad.block ≠ b := by
  intro ad e eb
  obtain ⟨ad', u, e', _, _, hc⟩ := hL.at_ hn
  rw [e] at e'
  injection e' with e'
  subst e'
  obtain ⟨es, clock, h1, _⟩ := h
  have hbk : (ad.add 0).block = b := by rw [addr_add_block]; exact eb
  unfold World.cell? at hc
  rw [hbk, h1] at hc
  cases hc
/-- Within 5 * r ticks each row is asked of each other node. -/
theorem tick_met (T r x y : Nat) (hx : x < r) (hy : y < 5) : ∃ t, T ≤ t ∧ t < T + 5 * r ∧ t % 5 = y ∧ t / 5 % r = x := by
  obtain ⟨c, hc⟩ : ∃ c, 5 * x + y = c := ⟨_, rfl⟩
  have hcr : c < 5 * r := by omega
  have h5r : 0 < 5 * r := by omega
  -- the first number from T on that is c modulo 5 * r
  obtain ⟨q, d, hq, hd⟩ : ∃ q d, T = 5 * r * q + d ∧ d < 5 * r := ⟨T / (5 * r), T % (5 * r), (Nat.div_add_mod _ _).symm, Nat.mod_lt _ h5r⟩
  by_cases hle : d ≤ c
  · refine ⟨5 * r * q + c, by omega, by omega, ?_, ?_⟩
    · rw [Nat.mul_assoc, ← hc]; omega
    · rw [show 5 * r * q + c = 5 * (r * q + x) + y by rw [← hc, Nat.mul_add, Nat.mul_assoc]; omega, Nat.mul_add_div (by omega), Nat.div_eq_of_lt hy, Nat.add_zero, Nat.mul_add_mod, Nat.mod_eq_of_lt hx]
  · refine ⟨5 * r * (q + 1) + c, by rw [Nat.mul_add]; omega, by rw [Nat.mul_add]; omega, ?_, ?_⟩
    · rw [Nat.mul_assoc, ← hc]; omega
    · rw [show 5 * r * (q + 1) + c = 5 * (r * (q + 1) + x) + y by rw [← hc, Nat.mul_add 5, Nat.mul_assoc]; omega, Nat.mul_add_div (by omega), Nat.div_eq_of_lt hy, Nat.add_zero, Nat.mul_add_mod, Nat.mod_eq_of_lt hx]
end Go.Proofs.Ytbhhenhabhahdaa
