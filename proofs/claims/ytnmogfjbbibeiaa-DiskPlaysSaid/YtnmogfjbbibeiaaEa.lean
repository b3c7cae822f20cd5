/- Package disk: a call that is played. -/
import Derived.Test.YtnmogfjbbibeiaaDy
namespace Go.Proofs.Ytnmogfjbbibeiaa
set_option maxRecDepth 100000
open Go.RowKit
set_option linter.unusedVariables false

theorem wpl_copy_int2 {ops : Array Oper} {rest : List Oper} {o : Oper} {a : Act} {Q : Exit → Act → World → Prop} (w0 : World) (hgd : o.guard = none) (s x : Operand)
    (ho : o.op = .call { callee := .builtin .append, args := #[s, x], argTypes := #[29, 29] }) (A : Option Addr) (n c : Nat) (zs : List Int)
    (hs : a.eval s = .slice (some ⟨w0.heap.size, 0, none⟩) 0 0) (hx : a.eval x = .slice A n c) (hr : Ls w0 A n (zs.map (Value.int .i64))) (hn : n * 8 ≤ 140737488355328)
    (h : ∀ A' c' w', n ≤ c' → c' ≤ maxLen → Ls w' A' n (zs.map (Value.int .i64)) → (∀ ad, A' = some ad → w0.heap.size ≤ ad.block) → Kp [] w0 w' → wpList Try.prog ops Q rest (a.put o.dst (.slice A' n c')) w') :
    wpList Try.prog ops Q (o :: rest) a (w0.alloc (.cells #[] 3)) := by
  obtain ⟨i0, hi, hz, h1, h2⟩ := info_parts info_int
  refine wpl_app _ hgd s x 29 ho w0.heap.size 3 i0 _ 8 Try.underlying29 hi hz h1 h2 rfl _ 0 [] hs (own_empty w0 _) A n c _ hx
    (hr.kp ((Kp.rfl_ [] w0).alloc _) (by simp)) oneCell_map_int (by unfold maxLen; omega) (by omega) (by simp) ?_
  intro v' w' hown hg _
  obtain ⟨A', c', rfl, hL, hb, hc, hm⟩ := own_open hown
  rw [Nat.zero_add] at hL hc ⊢
  refine h A' c' w' hc hm hL hb (((Kp.rfl_ [] w0).alloc _).then (Kp.of_grown (S := [w0.heap.size]) hg ?_) (by simp))
  intro k hk _
  simp [Value.ownBlock] at hk
  simp [hk]

/-- What a call answers, and what it leaves. -/
def AD.Did (A : AD) (o : DOp) (e : Int) (A' : AD) : Prop :=
  (o.kind = 1 ∧ e = (A.append o.name o.data).1 ∧ A' = (A.append o.name o.data).2) ∨
  (o.kind = 2 ∧ e = (A.sync o.name).1 ∧ A' = (A.sync o.name).2) ∨
  (o.kind = 3 ∧ e = (A.remove o.name).1 ∧ A' = (A.remove o.name).2) ∨
  (o.kind = 4 ∧ e = 0 ∧ A' = A.fuse o.k) ∨
  (o.kind = 5 ∧ e = 0 ∧ A.crash o.ks A') ∨
  (o.kind = 6 ∧ e = (A.flip o.name o.k).1 ∧ A' = (A.flip o.name o.k).2) ∨
  ((o.kind < 1 ∨ 6 < o.kind) ∧ e = 0 ∧ A' = A)
def oneAns (d : Nat) (r : Int) : Ending := .returned (.tuple #[.pointer (some ⟨d, 0, none⟩), .int .i64 r])
theorem Left.of_alloc {w w' : World} {o : Obj} {d N : Nat} {A : AD} {P : Nat → Prop} (h : Left (w.alloc o) d A N P w') : Left w d A N P w' := by
  obtain ⟨h1, h2⟩ := h
  have k : Kp [] w (w.alloc o) := (Kp.rfl_ [] w).alloc _
  exact ⟨h1.mono (Nat.le_refl _) fun x hx _ => hx.imp id fun hx => Nat.le_trans k.size hx, (KX.of (P := P) k (by simp)).then h2 fun x hx _ => hx⟩
theorem Left.more {w w' : World} {d N N' : Nat} {A : AD} {P : Nat → Prop} (h : Left w d A N P w') (hN : N ≤ N') : Left w d A N' P w' := ⟨h.1.mono hN fun x hx _ => hx, h.2⟩
def DidR (w : World) (d N : Nat) (A : AD) (P : Nat → Prop) (o : DOp) (e : Ending) (w' : World) : Prop := ∃ r A', e = oneAns d r ∧ A.Did o r A' ∧ Left w d A' (N + 1) P w'
set_option maxHeartbeats 8000000 in
theorem did_any (o : DOp) (w : World) {d N : Nat} {A : AD} {P : Nat → Prop} (h : Drv w d A N P) (hok : DOpOK w o) (hdt : o.data.size ≤ 1099511627776) (h7 : o.kind ≠ 7) (hN : N < 100000) (hl : A.left ≤ 9223372036854775807) (hst : A.steps ≤ 1000000000) :
    Calls Try.prog 13 #[.pointer (some ⟨d, 0, none⟩), .agg #[.int .i64 o.kind, .string o.name, .string o.data, .int .i64 o.k, .slice o.A o.n o.c]] w (DidR w d N A P o) := by
  have hk1 : Kp [] w (w.alloc (.cells #[.int .i64 o.kind, .string o.name, .string o.data, .int .i64 o.k, .slice o.A o.n o.c] 31)) := (Kp.rfl_ [] w).alloc _
  have hok1 := hok.kp hk1
  have h1 := h.kp hk1
  obtain ⟨kd, nm, dt, k, B, n, c, ks⟩ := o
  have hnm : nm.size ≤ maxLen := hok.name
  have hkb : -9223372036854775808 ≤ k ∧ k ≤ 9223372036854775807 := hok.k
  have hdt : dt.size ≤ 1099511627776 := hdt
  by_cases e1 : kd = 1
  · subst e1
    go_enter Try.func13, Try.ntmps13
    go_wp2_with fail
    refine (drv_append nm dt h1 hnm hdt (by omega) hl (by omega)).mono ?_
    rintro e w2 ⟨rfl, hl2⟩
    obtain ⟨r, hr⟩ : ∃ r, (A.append nm dt).1 = r := ⟨_, rfl⟩
    have HR := Lib.hid hr
    rw [hr]
    clear hr
    go_wp2_with fail
    go_ret2
    exact ⟨_, _, rfl, .inl ⟨rfl, HR.out.symm, rfl⟩, hl2.of_alloc⟩
  by_cases e2 : kd = 2
  · subst e2
    go_enter Try.func13, Try.ntmps13
    go_wp2_with fail
    refine (drv_sync nm h1 hnm hl (by omega)).mono ?_
    rintro e w2 ⟨rfl, hl2⟩
    obtain ⟨r, hr⟩ : ∃ r, (A.sync nm).1 = r := ⟨_, rfl⟩
    have HR := Lib.hid hr
    rw [hr]
    clear hr
    go_wp2_with fail
    go_ret2
    exact ⟨_, _, rfl, .inr (.inl ⟨rfl, HR.out.symm, rfl⟩), hl2.of_alloc⟩
  by_cases e3 : kd = 3
  · subst e3
    go_enter Try.func13, Try.ntmps13
    go_wp2_with fail
    refine (drv_remove nm h1 hnm hl (by omega)).mono ?_
    rintro e w2 ⟨rfl, hl2⟩
    obtain ⟨r, hr⟩ : ∃ r, (A.remove nm).1 = r := ⟨_, rfl⟩
    have HR := Lib.hid hr
    rw [hr]
    clear hr
    go_wp2_with fail
    go_ret2
    exact ⟨_, _, rfl, .inr (.inr (.inl ⟨rfl, HR.out.symm, rfl⟩)), hl2.of_alloc⟩
  by_cases e4 : kd = 4
  · subst e4
    go_enter Try.func13, Try.ntmps13
    go_wp2_with fail
    refine (drv_fuse k h1).mono ?_
    rintro e w2 ⟨rfl, hl2⟩
    go_wp2_with fail
    go_ret2
    exact ⟨_, _, rfl, .inr (.inr (.inr (.inl ⟨rfl, rfl, rfl⟩))), hl2.of_alloc.more (by omega)⟩
  by_cases e5 : kd = 5
  · subst e5
    have hsz : c * 8 ≤ reachBytes := hok1.sz
    have hnc : n ≤ c := hok1.n
    go_enter Try.func13, Try.ntmps13
    go_wp2_with (at_builtin; go_must (refine wpl_copy_int2 (w.alloc (.cells #[.int .i64 5, .string nm, .string dt, .int .i64 k, .slice B n c] 31)) rfl _ _ rfl B n c ks (by rw [show (w.alloc (.cells #[.int .i64 5, .string nm, .string dt, .int .i64 k, .slice B n c] 31)).heap.size = w.heap.size + 1 from Array.size_push _]; rfl) rfl hok1.ls (by unfold reachBytes at hsz; omega) ?_); intro A2 c2 w2 hv1 hvm hv2 hv3 hk2)
    have hk2w : Kp [] w w2 := hk1.trans hk2
    have hsz1 : w.heap.size ≤ (w.alloc (.cells #[.int .i64 5, .string nm, .string dt, .int .i64 k, .slice B n c] 31)).heap.size := hk1.size
    have h2 : Drv w2 d A N (fun x => P x ∧ x < w.heap.size) := (h.mono (Nat.le_refl _) fun x h1 h2 => ⟨h1, h2⟩).kp hk2w
    refine (drv_crash A2 n c2 ks h2 (by omega) hv2 hv1 hvm (fun _ ad e hp => by have := hv3 ad e; have := hp.2; omega)).mono ?_
    rintro e w3 ⟨rfl, A', hA, hl3⟩
    have HA := Lib.hid hA
    clear hA
    go_wp2_with fail
    go_ret2
    refine ⟨_, _, rfl, .inr (.inr (.inr (.inr (.inl ⟨rfl, rfl, HA.out⟩)))), hl3.1.mono (by omega) fun x hx _ => ?_, (KX.of (P := P) hk2w (by simp)).then hl3.2 fun x hx _ => hx.1⟩
    rcases hx with hx | hx
    · exact .inl hx.1
    · exact .inr (Nat.le_trans hk2w.size hx)
  by_cases e6 : kd = 6
  · subst e6
    go_enter Try.func13, Try.ntmps13
    go_wp2_with fail
    refine (drv_flip nm k h1 hnm hkb.1 hkb.2).mono ?_
    rintro e w2 ⟨rfl, hl2⟩
    obtain ⟨r, hr⟩ : ∃ r, (A.flip nm k).1 = r := ⟨_, rfl⟩
    have HR := Lib.hid hr
    rw [hr]
    clear hr
    go_wp2_with fail
    go_ret2
    exact ⟨_, _, rfl, .inr (.inr (.inr (.inr (.inr (.inl ⟨rfl, HR.out.symm, rfl⟩))))), hl2.of_alloc⟩
  have e7 : kd ≠ 7 := h7
  have HE : Hid (kd < 1 ∨ 6 < kd) := Lib.hid (by omega)
  have e1 : (kd == 1) = false := by simpa using e1
  have e2 : (kd == 2) = false := by simpa using e2
  have e3 : (kd == 3) = false := by simpa using e3
  have e4 : (kd == 4) = false := by simpa using e4
  have e5 : (kd == 5) = false := by simpa using e5
  have e6 : (kd == 6) = false := by simpa using e6
  have e7 : (kd == 7) = false := by simpa using e7
  clear h7
  go_enter Try.func13, Try.ntmps13
  go_wp2_with fail
  go_ret2
  exact ⟨_, _, rfl, .inr (.inr (.inr (.inr (.inr (.inr ⟨HE.out, rfl, rfl⟩))))), (left_same h1).of_alloc⟩
end Go.Proofs.Ytnmogfjbbibeiaa
