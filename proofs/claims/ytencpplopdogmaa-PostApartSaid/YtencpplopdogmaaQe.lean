/- slices.IndexFunc, slices.DeleteFunc over letters, with the closure of Purge. -/
import Derived.Test.YtencpplopdogmaaQd
namespace Go.Proofs.Ytencpplopdogmaa
set_option maxRecDepth 100000
open Go.RowKit
set_option linter.unusedVariables false

def hitL (zs : List Int) (l : Ltr) : Bool := hasI zs l.f || hasI zs l.t
/-- The nodes that a closure looks at. -/
def NB (w : World) (gb : Nat) (A : Option Addr) (n c : Nat) (zs : List Int) : Prop := At w gb 34 #[.slice A n c] ∧ Ls w A n (zs.map (Value.int .i64)) ∧ n ≤ maxLen
theorem NB.kp {w w' : World} {gb : Nat} {A : Option Addr} {n c : Nat} {zs : List Int} {S : List Nat} (h : NB w gb A n c zs) (k : Kp S w w') (h1 : gb ∉ S) (h2 : 0 < n → ∀ ad, A = some ad → ad.block ∉ S) : NB w' gb A n c zs :=
  ⟨h.1.kp k h1, h.2.1.kp k h2, h.2.2⟩
theorem contains_to (v : Int) (A : Option Addr) (n c : Nat) (zs : List Int) (b : Bool) (w : World) (hb : hasI zs v = b) (hs : Ls w A n (zs.map (Value.int .i64))) (hn : n ≤ maxLen) :
    Calls Try.prog 32 #[.slice A n c, .int .i64 v] w fun e w' => e = .returned (.bool b) ∧ w = w' := by
  rw [← hb]
  exact contains_any v A n c zs w hs hn
set_option maxHeartbeats 1000000 in
theorem hit_any (gb : Nat) (A : Option Addr) (n c : Nat) (zs : List Int) (l : Ltr) (w : World) (h : NB w gb A n c zs) :
    Calls Try.prog 31 #[.agg #[.int .i64 l.f, .int .i64 l.t, .string l.d], .pointer (some ⟨gb, 0, none⟩)] w fun e w' => e = .returned (.bool (hitL zs l)) ∧ Kp [] w w' := by
  have hk : Kp [] w (w.alloc (.cells #[.int .i64 l.f, .int .i64 l.t, .string l.d] 33)) := (Kp.rfl_ [] w).alloc _
  have h1 := h.kp hk (by simp) (by simp)
  have c0 := h1.1.cell 0
  have b1 : At (w.alloc (.cells #[.int .i64 l.f, .int .i64 l.t, .string l.d] 33)) w.heap.size 33 #[.int .i64 l.f, .int .i64 l.t, .string l.d] := At.new w _ _
  obtain ⟨gl, hgl⟩ : ∃ gl, w.heap.size = gl := ⟨_, rfl⟩
  rw [hgl] at b1
  have d0 := b1.cell 0
  have d1 := b1.cell 1
  obtain ⟨bf, hbf⟩ : ∃ b, hasI zs l.f = b := ⟨_, rfl⟩
  obtain ⟨bt, hbt⟩ : ∃ b, hasI zs l.t = b := ⟨_, rfl⟩
  have HB := Lib.hid (show hitL zs l = (bf || bt) by rw [← hbf, ← hbt]; rfl)
  go_enter Try.func31, Try.ntmps31
  go_wp2_with fail
  generalize w.alloc (.cells #[.int .i64 l.f, .int .i64 l.t, .string l.d] 33) = w1 at *
  refine (contains_to l.f A n c zs bf w1 hbf h1.2.1 h1.2.2).mono ?_
  rintro e w2 ⟨rfl, rfl⟩
  cases bf
  · go_wp2_with fail
    refine (contains_to l.t A n c zs bt w1 hbt h1.2.1 h1.2.2).mono ?_
    rintro e w2 ⟨rfl, rfl⟩
    go_wp2_with fail
    go_ret
    exact ⟨ret_bool (by rw [HB.out]; rfl), hk⟩
  · go_wp2_with fail
    go_ret
    exact ⟨ret_bool (by rw [HB.out]; rfl), hk⟩
def FnP (gb : Nat) : Value := .func (.func 31) #[] #[.pointer (some ⟨gb, 0, none⟩)]
/-- The first letter that is hit. -/
def IdxF (zs : List Int) (ls : List Ltr) (r : Int) : Prop := (r = -1 ∧ ∀ l ∈ ls, hitL zs l = false) ∨ ∃ (k : Nat) (l : Ltr), r = (k : Int) ∧ ls[k]? = some l ∧ hitL zs l = true ∧ ∀ x ∈ ls.take k, hitL zs x = false
set_option maxHeartbeats 2000000 in
theorem idxf_any (gb : Nat) (A : Option Addr) (n c : Nat) (zs : List Int) (base : Nat) (B : Option Addr) (m c2 : Nat) (ls : List Ltr) (w : World) (hm : ls.length = m) (h : NB w gb A n c zs) (hr : LR base w (.slice B m c2) ls) (hl : m ≤ 1000000) :
    Calls Try.prog 35 #[.slice B m c2, FnP gb] w fun e w' => (∃ r, e = .returned (.int .i64 r) ∧ IdxF zs ls r) ∧ Kp [] w w' := by
  unfold FnP
  have HM := Lib.hid hm
  clear hm
  go_enter Try.func35, Try.ntmps35
  go_wp2_with fail
  go_loopg [8] m (fun gk i wr => ∃ q : Nat, m - q ≤ gk ∧ i = .int .i64 q ∧ q ≤ m ∧ Kp [] w wr ∧ ∀ x ∈ ls.take q, hitL zs x = false)
  case atStart => exact ⟨0, by omega, rfl, Nat.zero_le _, Kp.rfl_ _ _, by simp⟩
  case round =>
    obtain ⟨q, hgk, rfl, hq, hkr, hno⟩ := hrel
    by_cases hlt : q < m
    · obtain ⟨l, hl2⟩ : ∃ l, ls[q]? = some l := ⟨_, List.getElem?_eq_getElem (by have := HM.out; omega)⟩
      obtain ⟨gk2, rfl, r0, r1, r2⟩ := hr.at_ hl2
      have q0 := cell_kpL r0 hkr (by simp)
      have q1 := cell_kpL r1 hkr (by simp)
      have q2 := cell_kpL r2 hkr (by simp)
      have b2 : (q : Int) < (m : Int) := by omega
      have HL := Lib.hid hl2
      have HN := Lib.hid hno
      clear hno hl2
      go_wp2_with fail
      refine (hit_any gb A n c zs l wr (h.kp hkr (by simp) (by simp))).mono ?_
      rintro e w2 ⟨rfl, hk2⟩
      obtain ⟨b, hb⟩ : ∃ b, hitL zs l = b := ⟨_, rfl⟩
      rw [hb]
      cases b
      · have HN2 : Hid (∀ x ∈ ls.take (q + 1), hitL zs x = false) := Lib.hid fun x hx => by
          rw [List.take_add_one, HL.out] at hx
          rcases List.mem_append.1 hx with hx | hx
          · exact HN.out x hx
          · have : x = l := by simpa using hx
            rw [this]; exact hb
        clear hb
        go_wp2_with fail
        go_roundg (m - (q + 1))
        case measure => omega
        case rel => exact ⟨q + 1, by omega, by go_num, by omega, hkr.trans hk2, HN2.out⟩
      · have HB := Lib.hid hb
        clear hb
        go_wp2_with fail
        go_ret
        exact ⟨⟨_, rfl, .inr ⟨q, l, rfl, HL.out, HB.out, HN.out⟩⟩, hkr.trans hk2⟩
    · have HN : Hid (∀ x ∈ ls, hitL zs x = false) := Lib.hid fun x hx => hno x (by rw [List.take_of_length_le (by have := HM.out; omega)]; exact hx)
      clear hno
      go_wp2_with fail
      go_ret
      exact ⟨⟨_, rfl, .inl ⟨rfl, HN.out⟩⟩, hkr⟩
end Go.Proofs.Ytencpplopdogmaa
