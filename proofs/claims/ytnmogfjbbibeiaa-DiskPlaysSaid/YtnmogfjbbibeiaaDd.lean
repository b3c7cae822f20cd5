/- Package disk: Read, and what lasts. -/
import Derived.Test.YtnmogfjbbibeiaaDc
namespace Go.Proofs.Ytnmogfjbbibeiaa
set_option maxRecDepth 100000
open Go.RowKit Go.Maps Go.WideMaps Go.WideElems Go.ChangeMaps
set_option linter.unusedVariables false

theorem HAll.ret {s : ByteArray} {w : World} (e : Ending) (w' : World) (h : e = .returned (.string s) ∧ Kp [] w w') : ∃ v, e = .returned v := ⟨_, h.1⟩
set_option maxHeartbeats 1000000 in
theorem hall_any (g : Nat) (l t : ByteArray) (y : Bool) (w : World) (h : At w g 70 #[.string l, .string t, .bool y]) (hs : l.size + t.size ≤ 1099511627776) :
    Calls Try.prog 38 #[.pointer (some ⟨g, 0, none⟩)] w fun e w' => e = .returned (.string (l ++ t)) ∧ Kp [] w w' := by
  have hd : Kp [] w w.drew := (Kp.rfl_ [] w).drew
  have h2 := h.kp hd (by simp)
  have c0 := h2.cell 0
  have c1 := h2.cell 1
  go_enter Try.func38, Try.ntmps38
  go_wp2_with fail
  refine region_sq_l (by kernel_rfl) (by kernel_rfl) (calm_of (fun _ _ _ h => h.2) (fun _ _ h => h) HAll.ret) ?_
  go_wp2_with fail
  refine sqQ_end (by rfl) ?_
  go_wp2_with fail
  go_ret
  exact ⟨rfl, hd⟩
def rdS (F : ByteArray → Option Fl) (s : ByteArray) (down : Bool) : ByteArray := if down = true ∨ F s = none then ⟨#[]⟩ else lastOf F s ++ waitOf F s
def rdB (F : ByteArray → Option Fl) (s : ByteArray) (down : Bool) : Bool := !down && (F s).isSome
set_option maxHeartbeats 1000000 in
theorem dread_any (s : ByteArray) (w : World) {d b N : Nat} {F : ByteArray → Option Fl} {down fused : Bool} {left steps : Nat} (h : DSt w d b N F down fused left steps) (hs : s.size ≤ maxLen) (hB : ∀ s x, F s = some x → x.last.size + x.wait.size ≤ 1048576) :
    Calls Try.prog 19 #[.pointer (some ⟨d, 0, none⟩), .string s] w fun e w' => e = .returned (.tuple #[.string (rdS F s down), .bool (rdB F s down)]) ∧ Kp [] w w' := by
  have c0 := h.disk.cell 0
  have c1 := h.disk.cell 1
  have hlk := look_any h hs
  cases down
  · cases hF : F s with
    | none =>
      rw [hF] at hlk
      simp only [Option.map_none] at hlk
      rw [show rdS F s false = ⟨#[]⟩ by unfold rdS; rw [if_pos (.inr hF)], show rdB F s false = false by unfold rdB; rw [hF]; rfl]
      clear hF
      go_enter Try.func19, Try.ntmps19
      go_wp2_with fail
      go_ret2
      exact ⟨rfl, Kp.rfl_ _ _⟩
    | some y =>
      rw [hF] at hlk
      simp only [Option.map_some] at hlk
      have a3 := h.file s y hF
      have hby := hB s y hF
      rw [show rdS F s false = y.last ++ y.wait by unfold rdS lastOf waitOf; rw [if_neg (by rw [hF]; simp), hF], show rdB F s false = true by unfold rdB; rw [hF]; rfl]
      clear hF
      go_enter Try.func19, Try.ntmps19
      go_wp2_with fail
      refine (hall_any y.g y.last y.wait y.sy w a3 (by omega)).mono ?_
      rintro e w4 ⟨rfl, hk4⟩
      go_wp2_with fail
      go_ret2
      exact ⟨rfl, hk4⟩
  · rw [show rdS F s true = ⟨#[]⟩ by unfold rdS; rw [if_pos (.inl rfl)], show rdB F s true = false from rfl]
    clear hlk
    go_enter Try.func19, Try.ntmps19
    go_wp2_with fail
    go_ret2
    exact ⟨rfl, Kp.rfl_ _ _⟩
/-- Why a name is refused of which there must be a file. -/
def oldE (F : ByteArray → Option Fl) (s : ByteArray) (down : Bool) : Int := if refE s down ≠ 0 then refE s down else if F s = none then 51 else 0
set_option maxHeartbeats 1000000 in
theorem refusesOld_any (s : ByteArray) (w : World) {d b N : Nat} {F : ByteArray → Option Fl} {down fused : Bool} {left steps : Nat} (h : DSt w d b N F down fused left steps) (hs : s.size ≤ maxLen) :
    Calls Try.prog 46 #[.pointer (some ⟨d, 0, none⟩), .string s] w fun e w' => e = .returned (.int .i64 (oldE F s down)) ∧ w = w' := by
  have c0 := h.disk.cell 0
  have hlk := look_any h hs
  obtain ⟨r, hr⟩ : ∃ r, refE s down = r := ⟨_, rfl⟩
  by_cases h0 : r = 0
  · subst h0
    cases hF : F s with
    | none =>
      rw [hF] at hlk
      simp only [Option.map_none] at hlk
      rw [show oldE F s down = 51 by unfold oldE; rw [if_neg (by rw [hr]; simp), if_pos hF]]
      clear hF
      go_enter Try.func46, Try.ntmps46
      go_wp2_with fail
      refine (refuses_any s w h).mono ?_
      rintro e w2 ⟨rfl, rfl⟩
      rw [hr]
      clear hr
      go_wp2_with fail
      go_ret
      exact ⟨rfl, rfl⟩
    | some y =>
      rw [hF] at hlk
      simp only [Option.map_some] at hlk
      rw [show oldE F s down = 0 by unfold oldE; rw [if_neg (by rw [hr]; simp), if_neg (by rw [hF]; simp)]]
      clear hF
      go_enter Try.func46, Try.ntmps46
      go_wp2_with fail
      refine (refuses_any s w h).mono ?_
      rintro e w2 ⟨rfl, rfl⟩
      rw [hr]
      clear hr
      go_wp2_with fail
      go_ret
      exact ⟨rfl, rfl⟩
  · rw [show oldE F s down = r by unfold oldE; rw [hr, if_pos h0]]
    have hne : (r == 0) = false := by rw [beq_eq_false_iff_ne]; exact h0
    clear h0 hlk
    go_enter Try.func46, Try.ntmps46
    go_wp2_with fail
    refine (refuses_any s w h).mono ?_
    rintro e w2 ⟨rfl, rfl⟩
    rw [hr]
    clear hr
    go_wp2_with fail
    go_ret
    exact ⟨rfl, rfl⟩
def Settled (w : World) (g : Nat) (l t : ByteArray) (y : Bool) (k : Nat) (e : Ending) (w' : World) : Prop := e = .returned (.tuple #[]) ∧ At w' g 70 #[.string (l ++ t.extract 0 k), .string ⟨#[]⟩, .bool y] ∧ Kp [g] w w'
theorem Settled.ret {w : World} {g : Nat} {l t : ByteArray} {y : Bool} {k : Nat} (e : Ending) (w' : World) (h : Settled w g l t y k e w') : ∃ v, e = .returned v := ⟨_, h.1⟩
end Go.Proofs.Ytnmogfjbbibeiaa
