/- Package disk: a drive as what it has, whatever blocks that lies in; each call's answer and what it leaves. -/
import Derived.Test.YtnmogfjbbibeiaaDt
namespace Go.Proofs.Ytnmogfjbbibeiaa
set_option maxRecDepth 100000
open Go.RowKit Go.Maps Go.WideMaps Go.WideElems Go.ChangeMaps
set_option linter.unusedVariables false

abbrev FA := ByteArray → Option AF
structure AD where
  F : FA
  down : Bool
  fused : Bool
  left : Nat
  steps : Nat
def FA.set (F : FA) (s : ByteArray) (v : Option AF) : FA := fun s' => if s' = s then v else F s'
def FA.last (F : FA) (s : ByteArray) : ByteArray := match F s with | none => ⟨#[]⟩ | some x => x.last
def FA.wait (F : FA) (s : ByteArray) : ByteArray := match F s with | none => ⟨#[]⟩ | some x => x.wait
def FA.sy (F : FA) (s : ByteArray) : Bool := match F s with | none => false | some x => x.sy
def AD.tick (A : AD) (F : FA) : AD := ⟨F, false, A.fused, if A.fused then A.left - 1 else A.left, A.steps + 1⟩
def AD.oldE (A : AD) (s : ByteArray) : Int := if refE s A.down ≠ 0 then refE s A.down else if A.F s = none then 51 else 0
def AD.append (A : AD) (s x : ByteArray) : Int × AD :=
  if refE s A.down ≠ 0 then (refE s A.down, A)
  else if 1048576 < (A.F.last s).size + (A.F.wait s).size + x.size then (52, A)
  else if A.fused = true ∧ A.left = 0 then (50, { A with down := true })
  else (0, A.tick (A.F.set s (some ⟨A.F.last s, A.F.wait s ++ x, A.F.sy s⟩)))
def AD.sync (A : AD) (s : ByteArray) : Int × AD :=
  if A.oldE s ≠ 0 then (A.oldE s, A)
  else if A.fused = true ∧ A.left = 0 then (50, { A with down := true })
  else (0, A.tick (A.F.set s (some ⟨A.F.last s ++ A.F.wait s, ⟨#[]⟩, true⟩)))
def AD.remove (A : AD) (s : ByteArray) : Int × AD :=
  if A.oldE s ≠ 0 then (A.oldE s, A)
  else if A.fused = true ∧ A.left = 0 then (50, { A with down := true })
  else (0, A.tick (A.F.set s none))
def AD.fuse (A : AD) (n : Int) : AD := { A with fused := decide (0 ≤ n), left := n.toNat }
def AF.flip (x : AF) (n : Nat) : AF := if n / 8 < x.last.size then ⟨tbit x.last (n / 8) (n % 8), x.wait, x.sy⟩ else ⟨x.last, tbit x.wait (n / 8 - x.last.size) (n % 8), x.sy⟩
def AD.flip (A : AD) (s : ByteArray) (n : Int) : Int × AD := match A.F s with
  | none => (51, A)
  | some x => if n < 0 ∨ ((x.last.size + x.wait.size : Nat) : Int) ≤ n / 8 then (1, A) else (0, { A with F := A.F.set s (some (x.flip n.toNat)) })
def AD.read (A : AD) (s : ByteArray) : ByteArray := if A.down = true ∨ A.F s = none then ⟨#[]⟩ else A.F.last s ++ A.F.wait s
def AD.has (A : AD) (s : ByteArray) : Bool := !A.down && (A.F s).isSome
def NamesA (F : FA) (p : ByteArray) (L : List ByteArray) : Prop := Rising L ∧ ∀ s, s ∈ L ↔ ((F s).isSome = true ∧ hpre s p = true)
def AD.names (A : AD) (p : ByteArray) (L : List ByteArray) : Prop := (A.down = true ∧ L = []) ∨ (A.down = false ∧ NamesA A.F p L)
theorem NamesA.eq {F : FA} {p : ByteArray} {L L' : List ByteArray} (h : NamesA F p L) (h' : NamesA F p L') : L = L' := rising_eq h.1 h'.1 fun s => (h.2 s).trans (h'.2 s).symm
theorem AD.names_eq {A : AD} {p : ByteArray} {L L' : List ByteArray} (h : A.names p L) (h' : A.names p L') : L = L' := by
  rcases h with ⟨h, e⟩ | ⟨h, e⟩ <;> rcases h' with ⟨h', e'⟩ | ⟨h', e'⟩
  · rw [e, e']
  · rw [h] at h'; cases h'
  · rw [h] at h'; cases h'
  · exact e.eq e'
def AF.crash (x : AF) (ks : List Int) : AF := ⟨x.last ++ x.wait.extract 0 (cropK ks x.wait.size), ⟨#[]⟩, x.sy⟩
def crashFA (F : FA) (s : ByteArray) (y : AF) : FA := if y.sy = false ∧ y.last.size = 0 then F.set s none else F.set s (some y)
def crashA : List ByteArray → List Int → FA → FA
  | [], _, F => F
  | s :: L, ks, F => match F s with
    | none => crashA L ks F
    | some x => crashA L (if x.wait.size = 0 then ks else ks.tail) (crashFA F s (x.crash ks))
/-- What a loss of power leaves. -/
def AD.crash (A : AD) (ks : List Int) (A' : AD) : Prop := ∃ L, NamesA A.F ⟨#[]⟩ L ∧ A' = ⟨crashA L ks A.F, false, false, 0, A.steps⟩
/-- These files, without their blocks. -/
def strip (F : ByteArray → Option Fl) : FA := fun s => (F s).map Fl.af
theorem strip_upd (F : ByteArray → Option Fl) (s : ByteArray) (x : Fl) : strip (upd F s x) = (strip F).set s (some x.af) := by
  funext s'
  unfold strip upd FA.set
  split <;> rfl
theorem strip_cut (F : ByteArray → Option Fl) (s : ByteArray) : strip (cut F s) = (strip F).set s none := by
  funext s'
  unfold strip cut FA.set
  split <;> rfl
theorem strip_some (F : ByteArray → Option Fl) (s : ByteArray) : (strip F s).isSome = (F s).isSome := by unfold strip; cases F s <;> rfl
theorem strip_none (F : ByteArray → Option Fl) (s : ByteArray) : strip F s = none ↔ F s = none := by unfold strip; cases F s <;> simp
theorem strip_last (F : ByteArray → Option Fl) (s : ByteArray) : (strip F).last s = lastOf F s := by unfold FA.last lastOf; rw [show strip F s = (F s).map Fl.af from rfl]; cases F s <;> rfl
theorem strip_wait (F : ByteArray → Option Fl) (s : ByteArray) : (strip F).wait s = waitOf F s := by unfold FA.wait waitOf; rw [show strip F s = (F s).map Fl.af from rfl]; cases F s <;> rfl
theorem strip_sy (F : ByteArray → Option Fl) (s : ByteArray) : (strip F).sy s = syOf F s := by unfold FA.sy syOf; rw [show strip F s = (F s).map Fl.af from rfl]; cases F s <;> rfl
theorem strip_crash : ∀ (L : List ByteArray) (ks : List Int) (F : ByteArray → Option Fl), strip (crashL L ks F) = crashA L ks (strip F)
  | [], _, _ => rfl
  | s :: L, ks, F => by
    rw [crashL, crashA]
    cases hF : F s with
    | none =>
      rw [show strip F s = none by unfold strip; rw [hF]; rfl]
      exact strip_crash L ks F
    | some x =>
      rw [show strip F s = some x.af by unfold strip; rw [hF]; rfl]
      simp only []
      rw [strip_crash L]
      congr 1
      unfold crash1F crashFA
      by_cases h : (crash1 x ks).sy = false ∧ (crash1 x ks).last.size = 0
      · rw [if_pos h, if_pos (show (x.af.crash ks).sy = false ∧ (x.af.crash ks).last.size = 0 from h), strip_cut]
      · rw [if_neg h, if_neg (show ¬ ((x.af.crash ks).sy = false ∧ (x.af.crash ks).last.size = 0) from h), strip_upd]
        rfl
theorem names_strip {F : ByteArray → Option Fl} {p : ByteArray} {L : List ByteArray} (h : NamesOf F p L) : NamesA (strip F) p L := ⟨h.1, fun s => by rw [h.2, strip_some]⟩
/-- A drive that has this, in blocks of P. -/
def Drv (w : World) (d : Nat) (A : AD) (N : Nat) (P : Nat → Prop) : Prop := ∃ b F, DSt w d b N F A.down A.fused A.left A.steps ∧ strip F = A.F ∧ Within F ∧ ∀ x, foot d b F x → P x
theorem Drv.mono {w : World} {d : Nat} {A : AD} {N N' : Nat} {P Q : Nat → Prop} (h : Drv w d A N P) (hN : N ≤ N') (hP : ∀ x, P x → x < w.heap.size → Q x) : Drv w d A N' Q := by
  obtain ⟨b, F, h1, h2, h3, h4⟩ := h
  refine ⟨b, F, h1.mono hN, h2, h3, fun x hx => hP x (h4 x hx) ?_⟩
  rcases hx with rfl | rfl | ⟨s, y, e, rfl⟩
  · exact h1.disk.lt
  · obtain ⟨D, o, _⟩ := h1.map; exact o.lt
  · exact (h1.file s y e).lt
theorem Drv.kx {w w' : World} {d : Nat} {A : AD} {N : Nat} {P Q : Nat → Prop} (h : Drv w d A N P) (k : KX Q w w') (hd : ∀ x, P x → ¬ Q x) : Drv w' d A N P := by
  obtain ⟨b, F, h1, h2, h3, h4⟩ := h
  obtain ⟨S, k1, k2⟩ := k
  exact ⟨b, F, h1.off k1 (fun hm => hd _ (h4 _ (.inl rfl)) (k2 _ hm)) (fun hm => hd _ (h4 _ (.inr (.inl rfl))) (k2 _ hm)) (fun s x e hm => hd _ (h4 _ (.inr (.inr ⟨s, x, e, rfl⟩))) (k2 _ hm)), h2, h3, h4⟩
theorem Drv.kp {w w' : World} {d : Nat} {A : AD} {N : Nat} {P : Nat → Prop} (h : Drv w d A N P) (k : Kp [] w w') : Drv w' d A N P := h.kx (Q := fun _ => False) ⟨[], k, by simp⟩ (fun _ _ h => h)
def FAW (F : FA) : Prop := ∀ s x, F s = some x → x.last.size + x.wait.size ≤ 1048576
theorem Drv.within {w : World} {d : Nat} {A : AD} {N : Nat} {P : Nat → Prop} (h : Drv w d A N P) : FAW A.F := by
  obtain ⟨b, F, h1, h2, h3, h4⟩ := h
  intro s x hx
  rw [← h2] at hx
  unfold strip at hx
  cases hF : F s with
  | none => rw [hF] at hx; cases hx
  | some y =>
    rw [hF] at hx
    injection hx with hx
    subst hx
    exact h3 s y hF
/-- What a call leaves. -/
def Left (w : World) (d : Nat) (A' : AD) (N' : Nat) (P : Nat → Prop) (w' : World) : Prop := Drv w' d A' N' (fun x => P x ∨ w.heap.size ≤ x) ∧ KX P w w'
theorem foot_upd {d b : Nat} {F : ByteArray → Option Fl} {s : ByteArray} {x : Fl} {y : Nat} (h : foot d b (upd F s x) y) : foot d b F y ∨ y = x.g := by
  rcases h with h | h | ⟨s', z, e, rfl⟩
  · exact .inl (.inl h)
  · exact .inl (.inr (.inl h))
  · unfold upd at e
    split at e
    · injection e with e
      exact .inr (by rw [e])
    · exact .inl (.inr (.inr ⟨s', z, e, rfl⟩))
theorem foot_cut {d b : Nat} {F : ByteArray → Option Fl} {s : ByteArray} {y : Nat} (h : foot d b (cut F s) y) : foot d b F y := by
  rcases h with h | h | ⟨s', z, e, rfl⟩
  · exact .inl h
  · exact .inr (.inl h)
  · unfold cut at e
    split at e
    · cases e
    · exact .inr (.inr ⟨s', z, e, rfl⟩)
theorem Within.upd {F : ByteArray → Option Fl} (h : Within F) {s : ByteArray} {x : Fl} (hx : x.last.size + x.wait.size ≤ 1048576) : Within (upd F s x) := by
  intro s' y hy
  unfold Go.Proofs.Ytnmogfjbbibeiaa.upd at hy
  split at hy
  · injection hy with hy
    subst hy
    exact hx
  · exact h s' y hy
theorem Within.cut {F : ByteArray → Option Fl} (h : Within F) {s : ByteArray} : Within (cut F s) := by
  intro s' y hy
  unfold Go.Proofs.Ytnmogfjbbibeiaa.cut at hy
  split at hy
  · cases hy
  · exact h s' y hy
theorem lw_within {F : ByteArray → Option Fl} (h : Within F) (s : ByteArray) : (lastOf F s).size + (waitOf F s).size ≤ 1048576 := by
  unfold lastOf waitOf
  cases hF : F s with
  | none => decide
  | some x => exact h s x hF
end Go.Proofs.Ytnmogfjbbibeiaa
