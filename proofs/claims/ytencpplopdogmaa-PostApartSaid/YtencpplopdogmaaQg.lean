/- Package post: Purge, Copy; the document's Purge. -/
import Derived.Test.YtencpplopdogmaaQf
namespace Go.Proofs.Ytencpplopdogmaa
set_option maxRecDepth 100000
open Go.RowKit
set_option linter.unusedVariables false

def Purged (w : World) (g : Nat) (T : TypeId) (vk : Value) (most : Int) (zs : List Int) (ls : List Ltr) (e : Ending) (w' : World) : Prop :=
  e = .returned (.int .i64 ((ls.length : Int) - ((keepL zs ls).length : Int))) ∧ Moved w g T vk most (keepL zs ls) w'
set_option maxHeartbeats 2000000 in
theorem pdrop_any (gb : Nat) (A : Option Addr) (n0 c0 : Nat) (zs : List Int) (g : Nat) (T : TypeId) (vk : Value) (most : Int) (ls : List Ltr) (w : World) (hp : Pst w g T vk most ls) (h : NB w gb A n0 c0 zs) (hl : ls.length ≤ 1000000)
    (hgb : vk.ownBlock ≠ some gb) (hA : 0 < n0 → ∀ ad, A = some ad → vk.ownBlock ≠ some ad.block) :
    Calls Try.prog 30 #[.pointer (some ⟨g, 0, none⟩), FnP gb] w (Purged w g T vk most zs ls) := by
  have HF := Lib.hid (show FnP gb = .func (.func 31) #[] #[.pointer (some ⟨gb, 0, none⟩)] from rfl)
  generalize FnP gb = fv at *
  have a0 := hp.1.cell 0
  have hob : ∀ x, vk.ownBlock = some x → x ≠ g ∧ x < w.heap.size := fun x hx => hp.2.ob hx
  obtain ⟨B, c, rfl⟩ := hp.2.slice
  obtain ⟨n, hn⟩ : ∃ n, ls.length = n := ⟨_, rfl⟩
  have HN := Lib.hid hn
  have hP := Lib.hid hp
  have hkl : (keepL zs ls).length ≤ n := by have := keepL_len zs ls; omega
  rw [hn] at a0 hl
  have hD := delf_any gb A n0 c0 zs 0 (.slice B ls.length c) ls w h hp.2.1 (by omega) hgb hA
  rw [show FnP gb = fv from HF.out.symm, hn] at hD
  rw [hn] at hob
  unfold Purged
  rw [hn]
  clear hn hp
  go_enter Try.func30, Try.ntmps30
  go_wp2_with fail
  refine hD.mono ?_
  rintro e w1 ⟨v', rfl, hrow, hk1, hob1⟩
  obtain ⟨B1, c1, rfl⟩ := hrow.slice
  have hp2 := hP.out
  rw [HN.out] at hp2
  have a1 : At w1 g T #[.slice B n c, .int .i64 most] := hp2.1.kp hk1 (by simp; intro hx; exact (hob _ hx).1 rfl)
  have q0 := a1.cell 0
  have f0 := a1.frozen 0
  have k5 : Kp [g] w1 (w1.setCell ⟨g, 0, none⟩ (.slice B1 (keepL zs ls).length c1)) := (Kp.rfl_ [g] w1).set (by simp) _
  have a2 := a1.set 0 (.slice B1 (keepL zs ls).length c1)
  have q1 := a2.cell 0
  have hw : IntKind.i64.wrap ((n : Int) - ((keepL zs ls).length : Int)) = (n : Int) - ((keepL zs ls).length : Int) := by rw [IntKind.wrap_i64]; omega
  go_wp2_with fail
  go_ret
  refine ⟨rfl, _, ⟨a2, hrow.kp k5 fun x hx => ?_, fun e => (hob g (hob1 ▸ e)).1 rfl⟩, (hk1.mono (T := g :: (Value.slice B n c).ownBlock.toList) (by intro x _ hx; exact List.mem_cons_of_mem _ hx)).then k5 (by simp), fun x hx => .inl (hob1 ▸ hx)⟩
  rw [hob1] at hx
  have := (hob x hx).1
  simp
  omega
set_option maxHeartbeats 400000 in
theorem ppurge_nil (v : Value) (hv : ∃ A n c, v = .slice A n c) (w : World) : Calls Try.prog 19 #[.pointer none, v] w fun e w' => e = .returned (.int .i64 0) ∧ Kp [] w w' := by
  obtain ⟨A, n, c, rfl⟩ := hv
  go_enter Try.func19, Try.ntmps19
  go_wp2_with fail
  go_ret
  exact ⟨rfl, (Kp.rfl_ _ _).alloc _⟩
set_option maxHeartbeats 2000000 in
theorem ppurge_any (A : Option Addr) (n0 c0 : Nat) (zs : List Int) (g : Nat) (T : TypeId) (vk : Value) (most : Int) (ls : List Ltr) (w : World) (hp : Pst w g T vk most ls) (h : Ls w A n0 (zs.map (Value.int .i64))) (hn0 : n0 ≤ maxLen) (hl : ls.length ≤ 1000000)
    (hA : 0 < n0 → ∀ ad, A = some ad → vk.ownBlock ≠ some ad.block) :
    Calls Try.prog 19 #[.pointer (some ⟨g, 0, none⟩), .slice A n0 c0] w (Purged w g T vk most zs ls) := by
  have hk : Kp [] w (w.alloc (.cells #[.slice A n0 c0] 34)) := (Kp.rfl_ [] w).alloc _
  have b1 : At (w.alloc (.cells #[.slice A n0 c0] 34)) w.heap.size 34 #[.slice A n0 c0] := At.new w _ _
  have hob : ∀ x, vk.ownBlock = some x → x ≠ g ∧ x < w.heap.size := fun x hx => hp.2.ob hx
  have hp1 : Pst (w.alloc (.cells #[.slice A n0 c0] 34)) g T vk most ls := ⟨hp.1.kp hk (by simp), hp.2.kp hk (by simp)⟩
  have hN : NB (w.alloc (.cells #[.slice A n0 c0] 34)) w.heap.size A n0 c0 zs := ⟨b1, h.kp hk (by simp), hn0⟩
  have hD := pdrop_any w.heap.size A n0 c0 zs g T vk most ls _ hp1 hN hl (fun e => by have := (hob _ e).2; omega) hA
  unfold FnP at hD
  go_enter Try.func19, Try.ntmps19
  go_wp2_with fail
  refine hD.mono ?_
  rintro e w1 ⟨rfl, hm⟩
  have hm2 := hm.before hk
  go_wp2_with fail
  go_ret
  exact ⟨rfl, hm2⟩
end Go.Proofs.Ytencpplopdogmaa
