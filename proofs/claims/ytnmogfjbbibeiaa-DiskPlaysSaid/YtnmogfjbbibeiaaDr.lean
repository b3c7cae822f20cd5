/- Package disk: Crash. -/
import Derived.Test.YtnmogfjbbibeiaaDq
import Derived.Test.YtnmogfjbbibeiaaSame
namespace Go.Proofs.Ytnmogfjbbibeiaa
set_option maxRecDepth 100000
open Go.RowKit Go.Maps Go.WideMaps Go.WideElems Go.ChangeMaps
set_option linter.unusedVariables false

/-- Of the blocks that w has only those of P may have turned in w'. -/
def KX (P : Nat → Prop) (w w' : World) : Prop := ∃ S, Kp S w w' ∧ ∀ x ∈ S, P x
theorem KX.rfl_ (P : Nat → Prop) (w : World) : KX P w w := ⟨[], Kp.rfl_ _ _, by simp⟩
theorem KX.of {P : Nat → Prop} {S : List Nat} {w w' : World} (h : Kp S w w') (hS : ∀ x ∈ S, P x) : KX P w w' := ⟨S, h, hS⟩
theorem KX.then {P Q : Nat → Prop} {w w' w'' : World} (h : KX P w w') (k : KX Q w' w'') (hq : ∀ x, Q x → x < w.heap.size → P x) : KX P w w'' := by
  obtain ⟨S, h1, h2⟩ := h
  obtain ⟨T, k1, k2⟩ := k
  refine ⟨S ++ T.filter (· < w.heap.size), h1.tr k1 (fun x hx hm => ?_), fun x hx => ?_⟩
  · rcases hm with hm | hm
    · exact List.mem_append_left _ hm
    · exact List.mem_append_right _ (List.mem_filter.2 ⟨hm, by simpa using hx⟩)
  · rcases List.mem_append.1 hx with hx | hx
    · exact h2 x hx
    · obtain ⟨h3, h4⟩ := List.mem_filter.1 hx
      exact hq x (k2 x h3) (by simpa using h4)
theorem KX.kp {P : Nat → Prop} {w w' : World} (h : KX P w w') : ∃ S, Kp S w w' ∧ ∀ x ∈ S, P x := h
theorem KX.size {P : Nat → Prop} {w w' : World} (h : KX P w w') : w.heap.size ≤ w'.heap.size := by obtain ⟨S, h, _⟩ := h; exact h.size
/-- What base has stays: the blocks that may have turned are behind it. -/
theorem KX.base {P : Nat → Prop} {w0 w w' : World} (h0 : Kp [] w0 w) (h : KX P w w') (hp : ∀ x, P x → w0.heap.size ≤ x) : Kp [] w0 w' := by
  obtain ⟨S, h1, h2⟩ := h
  exact h0.then h1 fun x hx hlt => by have := hp x (h2 x hx); omega
theorem Ls.kx {P : Nat → Prop} {w w' : World} {A : Option Addr} {n : Nat} {xs : List Value} (h : Ls w A n xs) (k : KX P w w') (hP : 0 < n → ∀ ad, A = some ad → ¬ P ad.block) : Ls w' A n xs := by
  obtain ⟨S, k1, k2⟩ := k
  exact h.kp k1 fun hn ad e hm => hP hn ad e (k2 _ hm)
theorem Ls.int_at {w : World} {A : Option Addr} {n k : Nat} {zs : List Int} (h : Ls w A n (zs.map (Value.int .i64))) (hk : k < n) : ∃ ad z, A = some ad ∧ zs[k]? = some z ∧ w.cell? (ad.add k) = some (Value.int .i64 z) := by
  obtain ⟨ad, u, e, _, hu, hc⟩ := h.at_ hk
  rw [List.getElem?_map] at hu
  cases hz : zs[k]? with
  | none => rw [hz] at hu; cases hu
  | some z =>
    rw [hz] at hu
    injection hu with hu
    subst hu
    exact ⟨ad, z, e, rfl, hc⟩
theorem size_intc (w : World) : (sizeOf 3).run Try.prog w = .ok 1 w := by kernel_rfl
theorem elem_int : Try.prog.elem 29 = 3 := by kernel_rfl
theorem back_int {w0 : World} {A : Option Addr} {n c k : Nat} {xs : List Value} (hL : Ls w0 A n xs) (hk : k ≤ n) (hc : n ≤ c) :
    ∃ B, (∀ w, (Instr.sliceAt 29 (.slice A n c) (some (.int .i64 (k : Int))) none none).run Try.prog w = .ok (.slice B (n - k) (c - k)) w) ∧ Ls w0 B (n - k) (xs.drop k) ∧ ∀ ad, B = some ad → ∃ ad', A = some ad' ∧ ad.block = ad'.block := by
  have he : Try.prog.underlying 29 = some (.slice (Try.prog.elem 29)) := by rw [elem_int]; exact Try.underlying29
  refine ⟨if c = k then A else A.map (·.add (k * 1)), fun w => ?_, ?_, ?_⟩
  · rw [run_sliceAt_slice (h := he), run_slice_l (ht := he) (kl := .i64) (h0 := by omega) (h1 := by omega), elem_int, size_intc]
    simp [Result.andThen, sliced]
  · by_cases hkn : k = n
    · subst hkn
      refine ⟨by rw [List.length_drop, hL.1], fun h => absurd h (by omega)⟩
    · obtain ⟨ad, rfl, -, -⟩ := hL.2 (by omega)
      rw [if_neg (by omega), Nat.mul_one]
      exact hL.drop hk
  · intro ad e
    split at e
    · exact ⟨ad, e, rfl⟩
    · cases A with
      | none => cases e
      | some a0 =>
        injection e with e
        subst e
        exact ⟨a0, rfl, addr_add_block _ _⟩
/-- How many of m bytes that wait stay. -/
def cropK (ks : List Int) (m : Nat) : Nat := match ks with | [] => 0 | k :: _ => min k.toNat m
def crash1 (x : Fl) (ks : List Int) : Fl := ⟨x.g, x.last ++ x.wait.extract 0 (cropK ks x.wait.size), ⟨#[]⟩, x.sy⟩
def crashT (x : Fl) (ks : List Int) : List Int := if x.wait.size = 0 then ks else ks.tail
def crash1F (F : ByteArray → Option Fl) (s : ByteArray) (y : Fl) : ByteArray → Option Fl := if y.sy = false ∧ y.last.size = 0 then cut F s else upd F s y
def crashL : List ByteArray → List Int → (ByteArray → Option Fl) → ByteArray → Option Fl
  | [], _, F => F
  | s :: L, ks, F => match F s with
    | none => crashL L ks F
    | some x => crashL L (crashT x ks) (crash1F F s (crash1 x ks))
/-- The blocks of a drive. -/
def foot (d b : Nat) (F : ByteArray → Option Fl) (x : Nat) : Prop := x = d ∨ x = b ∨ ∃ s y, F s = some y ∧ y.g = x
def Less (F F' : ByteArray → Option Fl) : Prop := ∀ s y, F' s = some y → ∃ y0, F s = some y0 ∧ y0.g = y.g
theorem Less.rfl_ (F : ByteArray → Option Fl) : Less F F := fun s y h => ⟨y, h, rfl⟩
theorem Less.step {F F' : ByteArray → Option Fl} (h : Less F F') {s : ByteArray} {x : Fl} (hx : F' s = some x) (ks : List Int) : Less F (crash1F F' s (crash1 x ks)) := by
  intro s' y hy
  unfold crash1F at hy
  split at hy
  · unfold cut at hy
    split at hy
    · cases hy
    · exact h s' y hy
  · unfold upd at hy
    split at hy
    · rename_i e
      injection hy with hy
      subst hy
      rw [e]
      exact h s x hx
    · exact h s' y hy
def Within (F : ByteArray → Option Fl) : Prop := ∀ s x, F s = some x → x.last.size + x.wait.size ≤ 1048576
theorem crop_le (ks : List Int) (m : Nat) : cropK ks m ≤ m := by unfold cropK; split <;> omega
theorem crash1_size (x : Fl) (ks : List Int) : (crash1 x ks).last.size ≤ x.last.size + x.wait.size := by
  have := crop_le ks x.wait.size
  show (x.last ++ x.wait.extract 0 (cropK ks x.wait.size)).size ≤ _
  rw [ByteArray.size_append, ByteArray.size_extract]
  omega
theorem Within.step {F' : ByteArray → Option Fl} (h : Within F') {s : ByteArray} {x : Fl} (hx : F' s = some x) (ks : List Int) : Within (crash1F F' s (crash1 x ks)) := by
  intro s' y hy
  unfold crash1F at hy
  split at hy
  · unfold cut at hy
    split at hy
    · cases hy
    · exact h s' y hy
  · unfold upd at hy
    split at hy
    · injection hy with hy
      subst hy
      have := crash1_size x ks
      have := h s x hx
      show (crash1 x ks).last.size + 0 ≤ _
      omega
    · exact h s' y hy
theorem crashL_cons {s : ByteArray} {L : List ByteArray} {ks : List Int} {F : ByteArray → Option Fl} {x : Fl} (h : F s = some x) : crashL (s :: L) ks F = crashL L (crashT x ks) (crash1F F s (crash1 x ks)) := by
  rw [crashL, h]
theorem crash_some {F : ByteArray → Option Fl} {s s' : ByteArray} {x : Fl} {ks : List Int} (hne : s' ≠ s) (h : (F s').isSome = true) : (crash1F F s (crash1 x ks) s').isSome = true := by
  unfold crash1F cut upd
  split <;> simp [hne, h]
end Go.Proofs.Ytnmogfjbbibeiaa
