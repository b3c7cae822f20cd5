/- Package disk: each call of a drive, in words of what it has. -/
import Derived.Test.YtnmogfjbbibeiaaDu
namespace Go.Proofs.Ytnmogfjbbibeiaa
set_option maxRecDepth 100000
open Go.RowKit Go.Maps Go.WideMaps Go.WideElems Go.ChangeMaps
set_option linter.unusedVariables false

section
variable {w : World} {d N : Nat} {A : AD} {P : Nat → Prop}
theorem AD.oldE_strip {F : ByteArray → Option Fl} (h : strip F = A.F) (s : ByteArray) : A.oldE s = Go.Proofs.Ytnmogfjbbibeiaa.oldE F s A.down := by
  unfold AD.oldE Go.Proofs.Ytnmogfjbbibeiaa.oldE
  rw [← h]
  simp only [strip_none]
theorem left_same (h : Drv w d A N P) : Left w d A (N + 1) P w := ⟨h.mono (Nat.le_succ _) fun _ h _ => .inl h, KX.rfl_ _ _⟩
theorem drv_new (w : World) : Calls Try.prog 11 #[] w fun e w' => ∃ d, e = .returned (.pointer (some ⟨d, 0, none⟩)) ∧ Drv w' d ⟨fun _ => none, false, false, 0, 0⟩ 0 (fun x => w.heap.size ≤ x) ∧ Kp [] w w' := by
  refine (dnew_any w).mono ?_
  rintro e w' ⟨d, b, rfl, h1, h2, h3, h4⟩
  refine ⟨d, rfl, ⟨b, _, h3, rfl, (fun s x e => by cases e), fun x hx => ?_⟩, h4⟩
  rcases hx with rfl | rfl | ⟨s, y, e, _⟩
  · exact h1
  · exact h2
  · cases e
theorem drv_append (s x : ByteArray) (h : Drv w d A N P) (hs : s.size ≤ maxLen) (hx : x.size ≤ 1099511627776) (hN : N < 1000000) (hl : A.left ≤ 9223372036854775807) (hst : A.steps ≤ 1000000000000) :
    Calls Try.prog 25 #[.pointer (some ⟨d, 0, none⟩), .string s, .string x] w fun e w' => e = .returned (.int .i64 (A.append s x).1) ∧ Left w d (A.append s x).2 (N + 1) P w' := by
  have h0 := h
  obtain ⟨b, F, h1, h2, h3, h4⟩ := h
  have e1 : (A.F.last s).size + (A.F.wait s).size = (lastOf F s).size + (waitOf F s).size := by rw [← h2, strip_last, strip_wait]
  refine (append_any s x w h1 hs hx hN h3 hl hst).mono ?_
  rintro e w' (⟨a1, rfl, rfl⟩ | ⟨a1, a2, rfl, a3, a4⟩ | ⟨a1, a2, a3, rfl, a4, a5⟩ | ⟨a1, a2, a3, rfl, g, a4, a5, a6, a7⟩) <;> unfold AD.append
  · rw [if_pos a1]
    exact ⟨rfl, left_same h0⟩
  · rw [if_neg (by rw [a1]; simp), if_pos (by rw [e1]; exact a2)]
    exact ⟨rfl, ⟨b, F, a3.mono (Nat.le_succ _), h2, h3, fun x hx => .inl (h4 x hx)⟩, KX.of a4 (by simp)⟩
  · rw [if_neg (by rw [a1]; simp), if_neg (by rw [e1]; omega), if_pos a3]
    exact ⟨rfl, ⟨b, F, a4.mono (Nat.le_succ _), h2, h3, fun x hx => .inl (h4 x hx)⟩, KX.of a5 (fun z hz => by simp at hz; rw [hz]; exact h4 _ (.inl rfl))⟩
  · rw [if_neg (by rw [a1]; simp), if_neg (by rw [e1]; omega), if_neg a3]
    refine ⟨rfl, ⟨b, _, a6, ?_, h3.upd ?_, fun z hz => ?_⟩, KX.of a7 fun z hz => ?_⟩
    · rw [strip_upd, h2, ← strip_last, ← strip_wait, ← strip_sy, h2]
      rfl
    · show (lastOf F s).size + (waitOf F s ++ x).size ≤ _
      rw [ByteArray.size_append]
      omega
    · rcases foot_upd hz with hz | hz
      · exact .inl (h4 _ hz)
      · have hz : z = g := hz
        subst hz
        cases hF : F s with
        | none => exact .inr (a5 hF)
        | some y => exact .inl (h4 _ (.inr (.inr ⟨s, y, hF, (a4 y hF).symm⟩)))
    · rcases List.mem_cons.1 hz with rfl | hz
      · exact h4 _ (.inl rfl)
      · rcases List.mem_cons.1 hz with rfl | hz
        · exact h4 _ (.inr (.inl rfl))
        · unfold gOf at hz
          cases hF : F s with
          | none => rw [hF] at hz; cases hz
          | some y =>
            rw [hF] at hz
            simp at hz
            exact h4 _ (.inr (.inr ⟨s, y, hF, hz.symm⟩))
theorem drv_sync (s : ByteArray) (h : Drv w d A N P) (hs : s.size ≤ maxLen) (hl : A.left ≤ 9223372036854775807) (hst : A.steps ≤ 1000000000000) :
    Calls Try.prog 27 #[.pointer (some ⟨d, 0, none⟩), .string s] w fun e w' => e = .returned (.int .i64 (A.sync s).1) ∧ Left w d (A.sync s).2 (N + 1) P w' := by
  have h0 := h
  obtain ⟨b, F, h1, h2, h3, h4⟩ := h
  have e1 := AD.oldE_strip h2 s
  refine (sync_any s w h1 hs h3 hl hst).mono ?_
  rintro e w' (⟨a1, rfl, rfl⟩ | ⟨a1, a2, rfl, a3, a4⟩ | ⟨a1, a2, rfl, y, a3, a4, a5⟩) <;> unfold AD.sync
  · rw [e1, if_pos a1]
    exact ⟨rfl, left_same h0⟩
  · rw [e1, if_neg (by rw [a1]; simp), if_pos a2]
    exact ⟨rfl, ⟨b, F, a3.mono (Nat.le_succ _), h2, h3, fun x hx => .inl (h4 x hx)⟩, KX.of a4 (fun z hz => by simp at hz; rw [hz]; exact h4 _ (.inl rfl))⟩
  · rw [e1, if_neg (by rw [a1]; simp), if_neg a2]
    refine ⟨rfl, ⟨b, _, a4.mono (Nat.le_succ _), ?_, h3.upd ?_, fun z hz => ?_⟩, KX.of a5 fun z hz => ?_⟩
    · rw [strip_upd, ← h2, strip_last, strip_wait]
      unfold lastOf waitOf
      rw [a3, h2]
      show _ = A.F.set s _
      rfl
    · show (y.last ++ y.wait).size + 0 ≤ _
      rw [ByteArray.size_append]
      exact h3 s y a3
    · rcases foot_upd hz with hz | hz
      · exact .inl (h4 _ hz)
      · exact .inl (h4 _ (.inr (.inr ⟨s, y, a3, hz.symm⟩)))
    · simp at hz
      rcases hz with rfl | rfl
      · exact h4 _ (.inl rfl)
      · exact h4 _ (.inr (.inr ⟨s, y, a3, rfl⟩))
theorem drv_remove (s : ByteArray) (h : Drv w d A N P) (hs : s.size ≤ maxLen) (hl : A.left ≤ 9223372036854775807) (hst : A.steps ≤ 1000000000000) :
    Calls Try.prog 29 #[.pointer (some ⟨d, 0, none⟩), .string s] w fun e w' => e = .returned (.int .i64 (A.remove s).1) ∧ Left w d (A.remove s).2 (N + 1) P w' := by
  have h0 := h
  obtain ⟨b, F, h1, h2, h3, h4⟩ := h
  have e1 := AD.oldE_strip h2 s
  refine (remove_any s w h1 hs hl hst).mono ?_
  rintro e w' (⟨a1, rfl, rfl⟩ | ⟨a1, a2, rfl, a3, a4⟩ | ⟨a1, a2, rfl, a4, a5⟩) <;> unfold AD.remove
  · rw [e1, if_pos a1]
    exact ⟨rfl, left_same h0⟩
  · rw [e1, if_neg (by rw [a1]; simp), if_pos a2]
    exact ⟨rfl, ⟨b, F, a3.mono (Nat.le_succ _), h2, h3, fun x hx => .inl (h4 x hx)⟩, KX.of a4 (fun z hz => by simp at hz; rw [hz]; exact h4 _ (.inl rfl))⟩
  · rw [e1, if_neg (by rw [a1]; simp), if_neg a2]
    refine ⟨rfl, ⟨b, _, a4.mono (Nat.le_succ _), ?_, h3.cut, fun z hz => .inl (h4 _ (foot_cut hz))⟩, KX.of a5 fun z hz => ?_⟩
    · rw [strip_cut, h2]
      rfl
    · simp at hz
      rcases hz with rfl | rfl
      · exact h4 _ (.inl rfl)
      · exact h4 _ (.inr (.inl rfl))
theorem drv_fuse (n : Int) (h : Drv w d A N P) :
    Calls Try.prog 28 #[.pointer (some ⟨d, 0, none⟩), .int .i64 n] w fun e w' => e = .returned (.tuple #[]) ∧ Left w d (A.fuse n) N P w' := by
  obtain ⟨b, F, h1, h2, h3, h4⟩ := h
  refine (dfuse_any n w h1).mono ?_
  rintro e w' ⟨rfl, a1, a2⟩
  exact ⟨rfl, ⟨b, F, a1, h2, h3, fun x hx => .inl (h4 x hx)⟩, KX.of a2 (fun z hz => by simp at hz; rw [hz]; exact h4 _ (.inl rfl))⟩
theorem af_flip (x : Fl) (n : Nat) : (flipFl x n).af = x.af.flip n := by
  unfold flipFl AF.flip
  by_cases h : n / 8 < x.last.size
  · rw [if_pos h, if_pos (show n / 8 < x.af.last.size from h)]
    rfl
  · rw [if_neg h, if_neg (show ¬ n / 8 < x.af.last.size from h)]
    rfl
theorem flip_size (x : Fl) (n : Nat) : (flipFl x n).last.size + (flipFl x n).wait.size = x.last.size + x.wait.size := by
  unfold flipFl
  split <;> simp [tbit_size]
theorem drv_flip (s : ByteArray) (n : Int) (h : Drv w d A N P) (hs : s.size ≤ maxLen) (hn1 : -9223372036854775808 ≤ n) (hn2 : n ≤ 9223372036854775807) :
    Calls Try.prog 30 #[.pointer (some ⟨d, 0, none⟩), .string s, .int .i64 n] w fun e w' => e = .returned (.int .i64 (A.flip s n).1) ∧ Left w d (A.flip s n).2 (N + 1) P w' := by
  have h0 := h
  obtain ⟨b, F, h1, h2, h3, h4⟩ := h
  refine (flip_any s n w h1 hs h3 hn1 hn2).mono ?_
  rintro e w' (⟨a1, rfl, rfl⟩ | ⟨x, a1, a2, rfl, a3, a4⟩ | ⟨x, a1, a2, a3, rfl, a4, a5⟩) <;> unfold AD.flip
  · rw [← h2, show strip F s = none by unfold strip; rw [a1]; rfl]
    exact ⟨rfl, left_same h0⟩
  · rw [← h2, show strip F s = some x.af by unfold strip; rw [a1]; rfl]
    simp only []
    rw [if_pos (show n < 0 ∨ ((x.af.last.size + x.af.wait.size : Nat) : Int) ≤ n / 8 from a2)]
    exact ⟨rfl, ⟨b, F, a3.mono (Nat.le_succ _), h2, h3, fun x hx => .inl (h4 x hx)⟩, KX.of a4 (by simp)⟩
  · rw [← h2, show strip F s = some x.af by unfold strip; rw [a1]; rfl]
    simp only []
    rw [if_neg (show ¬ (n < 0 ∨ ((x.af.last.size + x.af.wait.size : Nat) : Int) ≤ n / 8) by
      show ¬ (n < 0 ∨ ((x.last.size + x.wait.size : Nat) : Int) ≤ n / 8)
      omega)]
    refine ⟨rfl, ⟨b, _, a4.mono (Nat.le_succ _), ?_, h3.upd ?_, fun z hz => ?_⟩, KX.of a5 fun z hz => ?_⟩
    · rw [strip_upd, af_flip]
    · rw [flip_size]
      exact h3 s x a1
    · rcases foot_upd hz with hz | hz
      · exact .inl (h4 _ hz)
      · exact .inl (h4 _ (.inr (.inr ⟨s, x, a1, by rw [hz, flipFl_g]⟩)))
    · simp at hz
      exact h4 _ (.inr (.inr ⟨s, x, a1, hz.symm⟩))
theorem drv_crash (B : Option Addr) (n c : Nat) (ks : List Int) (h : Drv w d A N P) (hN : N < 1000000) (hL : Ls w B n (ks.map (Value.int .i64))) (hn : n ≤ c) (hc : c ≤ maxLen) (hA : 0 < n → ∀ ad, B = some ad → ¬ P ad.block) :
    Calls Try.prog 21 #[.pointer (some ⟨d, 0, none⟩), .slice B n c] w fun e w' => e = .returned (.tuple #[]) ∧ ∃ A', A.crash ks A' ∧ Left w d A' N P w' := by
  obtain ⟨b, F, h1, h2, h3, h4⟩ := h
  refine (crash_any B n c ks w h1 hN h3 hL hn hc fun h0 ad e hf => hA h0 ad e (h4 _ hf)).mono ?_
  rintro e w' ⟨rfl, L, a1, a2, a3, a4, a5⟩
  refine ⟨rfl, _, ⟨L, by rw [← h2]; exact names_strip a1, rfl⟩, ⟨b, _, a2, by rw [strip_crash, h2], a4, fun x hx => .inl (h4 _ ?_)⟩, ?_⟩
  · rcases hx with hx | hx | ⟨s, y, e, rfl⟩
    · exact .inl hx
    · exact .inr (.inl hx)
    · obtain ⟨y0, e0, e1⟩ := a3 s y e
      exact .inr (.inr ⟨s, y0, e0, e1⟩)
  · obtain ⟨S, k1, k2⟩ := a5
    exact ⟨S, k1, fun x hx => h4 _ (k2 x hx)⟩
theorem drv_copy (h : Drv w d A N P) (hN : N < 1000000) :
    Calls Try.prog 23 #[.pointer (some ⟨d, 0, none⟩)] w fun e w' => ∃ d', e = .returned (.pointer (some ⟨d', 0, none⟩)) ∧ Drv w' d' A N (fun x => w.heap.size ≤ x) ∧ Kp [] w w' := by
  obtain ⟨b, F, h1, h2, h3, h4⟩ := h
  refine (copy_any w h1 hN).mono ?_
  rintro e w' ⟨d', b', F', rfl, a1, a2, a3, a4⟩
  have e0 : strip F' = strip F := funext a2
  refine ⟨d', rfl, ⟨b', F', a1, e0.trans h2, fun s x hx => ?_, a3⟩, a4⟩
  have := congrFun e0 s
  unfold strip at this
  rw [hx] at this
  cases hF : F s with
  | none => rw [hF] at this; cases this
  | some y =>
    rw [hF] at this
    have e2 : x.af = y.af := by injection this
    have h5 := h3 s y hF
    have e3 : x.last = y.last := congrArg AF.last e2
    have e4 : x.wait = y.wait := congrArg AF.wait e2
    rw [e3, e4]
    exact h5
theorem drv_read (s : ByteArray) (h : Drv w d A N P) (hs : s.size ≤ maxLen) :
    Calls Try.prog 19 #[.pointer (some ⟨d, 0, none⟩), .string s] w fun e w' => e = .returned (.tuple #[.string (A.read s), .bool (A.has s)]) ∧ Kp [] w w' := by
  obtain ⟨b, F, h1, h2, h3, h4⟩ := h
  refine (dread_any s w h1 hs h3).mono ?_
  rintro e w' ⟨rfl, hk⟩
  refine ⟨?_, hk⟩
  have e1 : rdS F s A.down = A.read s := by
    unfold rdS AD.read
    rw [← h2]
    simp only [strip_none, strip_last, strip_wait]
  have e2 : rdB F s A.down = A.has s := by
    unfold rdB AD.has
    rw [← h2, strip_some]
  rw [e1, e2]
theorem drv_names (p : ByteArray) (h : Drv w d A N P) (hN : N < 1000000) :
    Calls Try.prog 17 #[.pointer (some ⟨d, 0, none⟩), .string p] w fun e w' => ∃ v L, e = .returned v ∧ A.names p L ∧ (∀ s ∈ L, s.size ≤ maxLen) ∧ L.length ≤ N ∧ w'.ownsRow w.heap.size 9 1 v L.length (L.map Value.string) ∧ Kp [] w w' := by
  obtain ⟨b, F, h1, h2, h3, h4⟩ := h
  refine (dnames_any p w h1 hN).mono ?_
  rintro e w' ⟨v, L, rfl, a1, a2⟩
  refine ⟨v, L, rfl, ?_, a2⟩
  rcases a1 with ⟨a1, a3⟩ | ⟨a1, a3⟩
  · exact .inl ⟨a1, a3⟩
  · exact .inr ⟨a1, by rw [← h2]; exact names_strip a3⟩
theorem drv_down (h : Drv w d A N P) : Calls Try.prog 22 #[.pointer (some ⟨d, 0, none⟩)] w fun e w' => e = .returned (.bool A.down) ∧ w = w' := by
  obtain ⟨b, F, h1, h2, h3, h4⟩ := h
  exact ddown_any w h1
theorem drv_steps (h : Drv w d A N P) : Calls Try.prog 26 #[.pointer (some ⟨d, 0, none⟩)] w fun e w' => e = .returned (.int .i64 A.steps) ∧ w = w' := by
  obtain ⟨b, F, h1, h2, h3, h4⟩ := h
  exact dsteps_any w h1
end
end Go.Proofs.Ytnmogfjbbibeiaa
