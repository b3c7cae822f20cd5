/- Package post: the document's Purge; Copy. -/
import Derived.Test.YtencpplopdogmaaQg
import Derived.Deep.QuietTactic
namespace Go.Proofs.Ytencpplopdogmaa
set_option maxRecDepth 100000
open Go.RowKit
set_option linter.unusedVariables false

def hitR (zs : List Int) (l : Ltr) : Bool := zs.any fun z => l.f == z || l.t == z
theorem hitR_eq (zs : List Int) (l : Ltr) : hitR zs l = hitL zs l := by
  unfold hitR hitL hasI
  induction zs with
  | nil => rfl
  | cons z zs ih =>
    rw [List.any_cons, ih, List.any_cons, List.any_cons]
    have e1 : (l.f == z) = (z == l.f) := Bool.eq_iff_iff.2 ⟨fun h => by simp at h ⊢; exact h.symm, fun h => by simp at h ⊢; exact h.symm⟩
    have e2 : (l.t == z) = (z == l.t) := Bool.eq_iff_iff.2 ⟨fun h => by simp at h ⊢; exact h.symm, fun h => by simp at h ⊢; exact h.symm⟩
    rw [e1, e2]
    cases (z == l.f) <;> cases (z == l.t) <;> simp
theorem hitR_step {zs : List Int} {l : Ltr} {k : Nat} {z : Int} (h : zs[k]? = some z) : hitR (zs.take (k + 1)) l = (hitR (zs.take k) l || (l.f == z || l.t == z)) := by
  unfold hitR
  rw [List.take_add_one, h, List.any_append]
  simp
theorem keepL_step {zs : List Int} {ls : List Ltr} {m : Nat} {l : Ltr} (h : ls[m]? = some l) : keepL zs (ls.take (m + 1)) = keepL zs (ls.take m) ++ if hitL zs l then [] else [l] := by
  unfold keepL
  rw [List.take_add_one, h, List.filter_append]
  cases hh : hitL zs l <;> simp [hh]
set_option maxHeartbeats 4000000 in
theorem rpurge_any (A : Option Addr) (n0 c0 : Nat) (zs : List Int) (g : Nat) (T : TypeId) (vk : Value) (most : Int) (ls : List Ltr) (w : World) (hp : Pst w g T vk most ls) (h : Ls w A n0 (zs.map (Value.int .i64))) (hn0 : n0 ≤ maxLen) (hl : ls.length ≤ 1000000) :
    Calls Try.prog 23 #[.pointer (some ⟨g, 0, none⟩), .slice A n0 c0] w (Purged w g T vk most zs ls) := by
  unfold maxLen at hn0
  have hob : ∀ x, vk.ownBlock = some x → x ≠ g ∧ x < w.heap.size := fun x hx => hp.2.ob hx
  have hgl := hp.1.lt
  obtain ⟨B, c, rfl⟩ := hp.2.slice
  obtain ⟨n, hn⟩ : ∃ n, ls.length = n := ⟨_, rfl⟩
  have HN := Lib.hid hn
  have hP := Lib.hid hp
  have a0 := hp.1.cell 0
  have hz : zs.length = n0 := by simpa using h.1
  have HZ := Lib.hid hz
  rw [hn] at a0 hl
  unfold Purged
  rw [hn]
  clear hn hp hz
  go_enter Try.func23, Try.ntmps23
  go_wp2_with fail
  go_loopg [5, 6] n (fun gk r i wr => ∃ m : Nat, n - m ≤ gk ∧ i = .int .i64 m ∧ m ≤ n ∧ LR w.heap.size wr r (keepL zs (ls.take m)) ∧ Kp [] w wr)
  case atStart => exact ⟨0, by omega, rfl, Nat.zero_le _, LR.nil_ _ _, Kp.rfl_ _ _⟩
  case round =>
    obtain ⟨m, hgk, rfl, hm, hrow, hkr⟩ := hrel
    have cr := cell_kpL a0 hkr (by simp)
    by_cases hlt : m < n
    · obtain ⟨l, hl2⟩ : ∃ l, ls[m]? = some l := ⟨_, List.getElem?_eq_getElem (by have := HN.out; omega)⟩
      obtain ⟨gk2, rfl, r0, r1, r2⟩ := hP.out.2.at_ hl2
      have b2 : (m : Int) < (n : Int) := by omega
      have HL := Lib.hid hl2
      have HR := Lib.hid hrow
      clear hl2 hrow
      go_wp2_with fail
      go_loopg [7, 8] n0 (fun gk3 hv k wq => ∃ q : Nat, n0 - q ≤ gk3 ∧ k = .int .i64 q ∧ q ≤ n0 ∧ hv = .bool (hitR (zs.take q) l) ∧ Kp [] wr wq)
      case atStart => exact ⟨0, by omega, rfl, Nat.zero_le _, rfl, Kp.rfl_ _ _⟩
      case round =>
        obtain ⟨q, hgk3, rfl, hq, rfl, hkq⟩ := hrel
        have hk2 := hkr.trans hkq
        by_cases hlt3 : q < n0
        · obtain ⟨ad, z, rfl, hzq, hcz⟩ := ints_at (h.kp hk2 (by simp)) hlt3
          have cq := cell_kpL a0 hk2 (by simp)
          have q0 := cell_kpL r0 hk2 (by simp)
          have q1 := cell_kpL r1 hk2 (by simp)
          have b3 : (q : Int) < (n0 : Int) := by omega
          have HS := Lib.hid (hitR_step (l := l) hzq)
          obtain ⟨x0, hx0⟩ : ∃ b, hitR (zs.take q) l = b := ⟨_, rfl⟩
          obtain ⟨x1, hx1⟩ : ∃ b, (l.f == z) = b := ⟨_, rfl⟩
          obtain ⟨x2, hx2⟩ : ∃ b, (l.t == z) = b := ⟨_, rfl⟩
          have HX := Lib.hid (show hitR (zs.take (q + 1)) l = (x0 || (x1 || x2)) by rw [HS.out, hx0, hx1, hx2])
          rw [hx0]
          clear hx0 hzq HS
          cases x0
          · cases x1
            · cases x2
              all_goals
                go_wp2_with fail
                go_quiet (fail)
                have hkn := hkq.drewN nq
                generalize wr.drewN nq = wq2 at *
                go_wp2_with fail
                go_roundg (n0 - (q + 1))
                case measure => omega
                case rel => exact ⟨q + 1, by omega, by go_num, by omega, by rw [HX.out]; rfl, hkn⟩
            · clear hx2
              go_wp2_with fail
              go_quiet (fail)
              have hkn := hkq.drewN nq
              generalize wr.drewN nq = wq2 at *
              go_wp2_with fail
              go_roundg (n0 - (q + 1))
              case measure => omega
              case rel => exact ⟨q + 1, by omega, by go_num, by omega, by rw [HX.out]; rfl, hkn⟩
          · go_wp2_with fail
            go_quiet (fail)
            have hkn := hkq.drewN nq
            generalize wr.drewN nq = wq2 at *
            go_wp2_with fail
            go_roundg (n0 - (q + 1))
            case measure => omega
            case rel => exact ⟨q + 1, by omega, by go_num, by omega, by rw [HX.out]; rfl, hkn⟩
        · obtain rfl : q = n0 := by omega
          obtain ⟨hb, hhb⟩ : ∃ b, hitL zs l = b := ⟨_, rfl⟩
          have hq2 : hitR (zs.take q) l = hb := by rw [← HZ.out, List.take_length, hitR_eq, hhb]
          have HS := Lib.hid (show keepL zs (ls.take (m + 1)) = keepL zs (ls.take m) ++ if hb then [] else [l] by rw [keepL_step HL.out, hhb])
          rw [hq2]
          have hrow2 := HR.out.kp hkq (by simp)
          have HK := Lib.hid (show (keepL zs (ls.take m)).length ≤ 1000000 by have := keepL_len zs (ls.take m); simp at this; omega)
          clear hq2 hhb
          cases hb
          · have q0 := cell_kpL r0 hk2 (by simp)
            have q1 := cell_kpL r1 hk2 (by simp)
            have q2 := cell_kpL r2 hk2 (by simp)
            have cq := cell_kpL a0 hk2 (by simp)
            go_wp2_with (at_builtin; go_must (refine wpl_lapp w.heap.size rfl _ _ rfl rfl u5 (keepL zs (ls.take m)) l rfl hrow2 rfl hk2.size HK.out ?_); intro v6 w6 hrow6 hk6 hv6)
            go_roundg (n - (m + 1))
            case measure => omega
            case rel =>
              refine ⟨m + 1, by omega, by go_num, by omega, by rw [HS.out]; exact hrow6, hk2.then hk6 fun x hx hlt => ?_⟩
              have := (own_block_ltn hrow2 (by simpa using hx)).1
              omega
          · go_wp2_with fail
            go_roundg (n - (m + 1))
            case measure => omega
            case rel => exact ⟨m + 1, by omega, by go_num, by omega, by rw [HS.out, if_pos trivial, List.append_nil]; exact hrow2, hk2⟩
    · obtain rfl : m = n := by omega
      have HO := Lib.hid (show keepL zs (ls.take m) = keepL zs ls by rw [← HN.out, List.take_length])
      have hrow2 := hrow
      rw [HO.out] at hrow2
      clear hrow
      obtain ⟨A6, c6, e6⟩ := hrow2.slice
      subst e6
      have a4 := hP.out.1.kp hkr (by simp)
      rw [HN.out] at a4
      have f0 := a4.frozen 0
      have hkl : (keepL zs ls).length ≤ m := by have := keepL_len zs ls; have := HN.out; omega
      have hw : IntKind.i64.wrap ((m : Int) - ((keepL zs ls).length : Int)) = (m : Int) - ((keepL zs ls).length : Int) := by rw [IntKind.wrap_i64]; omega
      have hne : ∀ x, (Value.slice A6 (keepL zs ls).length c6).ownBlock = some x → w.heap.size ≤ x := fun x hx => (own_block_ltn hrow2 hx).1
      have k5 : Kp [g] wr (wr.setCell ⟨g, 0, none⟩ (.slice A6 (keepL zs ls).length c6)) := (Kp.rfl_ [g] wr).set (by simp) _
      go_wp2_with fail
      go_ret
      refine ⟨rfl, _, ⟨a4.set 0 _, (LRn.of_base hrow2 (by omega)).kp k5 fun x hx => ?_⟩, (hkr.mono (T := g :: (Value.slice B m c).ownBlock.toList) (by simp)).then k5 (by simp), fun x hx => .inr (hne x hx)⟩
      have := hne x hx
      simp
      omega
end Go.Proofs.Ytencpplopdogmaa
