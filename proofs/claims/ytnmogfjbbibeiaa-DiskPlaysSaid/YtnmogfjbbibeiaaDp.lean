/- Package disk: a bit turns. -/
import Derived.Test.YtnmogfjbbibeiaaDn
import Derived.Test.YtnmogfjbbibeiaaBuf
namespace Go.Proofs.Ytnmogfjbbibeiaa
set_option maxRecDepth 100000
open Go.RowKit Go.Maps Go.WideMaps Go.WideElems Go.ChangeMaps
set_option linter.unusedVariables false

/-- A bit of a byte turned. -/
def tbit (s : ByteArray) (a t : Nat) : ByteArray := bs (s.data.toList.modify a fun x => x ^^^ UInt8.ofNat (2 ^ t))
theorem tbit_size (s : ByteArray) (a t : Nat) : (tbit s a t).size = s.size := by unfold tbit; rw [bs_size, List.length_modify]; simp
theorem xor_u8 (x : UInt8) {t : Nat} (ht : t < 8) : bits .xor .u8 ((x.toNat : Nat) : Int) (2 ^ t % 256) = (((x ^^^ UInt8.ofNat (2 ^ t)).toNat : Nat) : Int) := by
  have hp : 2 ^ t < 256 := Nat.lt_of_lt_of_le (Nat.pow_lt_pow_right (by omega) ht) (by decide : 2 ^ 8 ≤ 256)
  have e : (2 : Int) ^ t % 256 = ((2 ^ t : Nat) : Int) := by
    rw [show (2 : Int) ^ t = ((2 ^ t : Nat) : Int) by push_cast; rfl]
    have key : ∀ x : Nat, x < 256 → (x : Int) % 256 = x := by omega
    exact key _ hp
  rw [e, u8_xor_nat x.toNat (2 ^ t) x.toNat_lt hp, UInt8.toNat_xor, show (UInt8.ofNat (2 ^ t)).toNat = 2 ^ t by simp [Nat.mod_eq_of_lt hp]]
set_option maxHeartbeats 4000000 in
theorem turned_any (s : ByteArray) (a t : Nat) (w : World) (ha : a < s.size) (ht : t < 8) (hs : s.size ≤ 1099511627776) :
    Calls Try.prog 53 #[.string s, .int .i64 a, .int .i64 t] w fun e w' => e = .returned (.string (tbit s a t)) ∧ Kp [] w w' := by
  obtain ⟨x, _, hx⟩ := byte_at ha
  have hxb := xor_u8 x ht
  obtain ⟨c3, w3, hconv, hbuf, hk3, hsz3⟩ := run_bytes w s
  obtain ⟨g, hgg⟩ : ∃ g, w.heap.size = g := ⟨_, rfl⟩
  have hj : a < s.data.toList.length := by simpa using ha
  have htb : tbit s a t = bs (s.data.toList.set a (x ^^^ UInt8.ofNat (2 ^ t))) := by
    unfold tbit
    congr 1
    apply List.ext_getElem?
    intro i
    rw [List.getElem?_modify, List.getElem?_set]
    by_cases e : a = i
    · subst e
      rw [hx, if_pos rfl, if_pos hj]
      simp
    · simp [e]
  have HTB := Lib.hid htb
  have HG := Lib.hid hgg
  have HXB := Lib.hid hxb
  clear htb hxb
  go_enter Try.func53, Try.ntmps53
  go_wp2_with fail
  simp only [hgg] at hbuf ⊢
  have hc := hbuf.cell hx
  have hf := hbuf.free hj
  have hbuf2 := hbuf.set (j := a) (x ^^^ UInt8.ofNat (2 ^ t))
  rw [← HXB.out] at hbuf2
  have hkp2 : Kp [] w (w3.setCell ⟨g, a, none⟩ (.int .u8 (bits .xor .u8 ((x.toNat : Nat) : Int) (2 ^ t % 256)))) := hk3.set (by simp; omega) _
  have hj2 : (a : Int) < (s.size : Int) := by omega
  clear hbuf hconv hgg
  go_wp2_with fail
  go_region
  clear hc hf
  have hbuf3 : Buf (w3.setCell ⟨g, a, none⟩ (.int .u8 (bits .xor .u8 ((x.toNat : Nat) : Int) (2 ^ t % 256)))).drew g (s.data.toList.set a (x ^^^ UInt8.ofNat (2 ^ t))) := hbuf2
  have hkp3 := hkp2.drew
  generalize (w3.setCell ⟨g, a, none⟩ (.int .u8 (bits .xor .u8 ((x.toNat : Nat) : Int) (2 ^ t % 256)))).drew = wq at *
  have hback := hbuf3.back c3 s.size (by rw [List.length_set]; simp)
  rw [← HTB.out] at hback
  clear hbuf3 hbuf2 hkp2
  go_wp2_with fail
  go_ret
  exact ⟨rfl, hkp3⟩
def Turned (w : World) (g : Nat) (l t : ByteArray) (y : Bool) (e : Ending) (w' : World) : Prop := e = .returned (.tuple #[]) ∧ At w' g 70 #[.string l, .string t, .bool y] ∧ Kp [g] w w'
theorem Turned.ret {w : World} {g : Nat} {l t : ByteArray} {y : Bool} (e : Ending) (w' : World) (h : Turned w g l t y e w') : ∃ v, e = .returned v := ⟨_, h.1⟩
theorem div8 {n q r : Nat} (h : n = 8 * q + r) (hr : r < 8) : (n : Int).tdiv 8 = (q : Int) ∧ (n : Int) / 8 = (q : Int) ∧ (n : Int).tmod 8 = (r : Int) ∧ (n : Int) % 8 = (r : Int) := by
  have h1 : (n : Int) / 8 = (q : Int) := by omega
  have h2 : (n : Int) % 8 = (r : Int) := by omega
  exact ⟨by rw [Int.tdiv_eq_ediv_of_nonneg (by omega)]; exact h1, h1, by rw [Int.tmod_eq_emod_of_nonneg (by omega)]; exact h2, h2⟩
set_option maxHeartbeats 4000000 in
theorem turn_lo (g : Nat) (l t : ByteArray) (y : Bool) (n q r : Nat) (w : World) (h : At w g 70 #[.string l, .string t, .bool y]) (hn : n = 8 * q + r) (hr : r < 8) (hq : q < l.size) (hs : l.size + t.size ≤ 1048576) :
    Calls Try.prog 47 #[.pointer (some ⟨g, 0, none⟩), .int .i64 n] w (Turned w g (tbit l q r) t y) := by
  obtain ⟨d1, d2, d3, d4⟩ := div8 hn hr
  have c0 := h.cell 0
  have hlt : (q : Int) < (l.size : Int) := by omega
  have hl := h.lt
  clear hn
  go_enter Try.func47, Try.ntmps47
  go_wp2_with fail
  refine (turned_any l q r w hq hr (by omega)).mono ?_
  rintro e w2 ⟨rfl, hk2⟩
  have h2 := h.kp hk2 (by simp)
  have f2 := h2.frozen 0
  have q2 := h2.cell 0
  go_wp2_with fail
  go_end0
  exact ⟨rfl, h2.set 0 _, (hk2.mono (T := [g]) (by simp)).set (by simp) _⟩
set_option maxHeartbeats 4000000 in
theorem turn_hi (g : Nat) (l t : ByteArray) (y : Bool) (n q r : Nat) (w : World) (h : At w g 70 #[.string l, .string t, .bool y]) (hn : n = 8 * (l.size + q) + r) (hr : r < 8) (hq : q < t.size) (hs : l.size + t.size ≤ 1048576) :
    Calls Try.prog 47 #[.pointer (some ⟨g, 0, none⟩), .int .i64 n] w (Turned w g l (tbit t q r) y) := by
  obtain ⟨z, hz⟩ : ∃ z, l.size + q = z := ⟨_, rfl⟩
  rw [hz] at hn
  obtain ⟨d1, d2, d3, d4⟩ := div8 hn hr
  have c0 := h.cell 0
  have c1 := h.cell 1
  have h0 : At w.drew g 70 #[.string l, .string t, .bool y] := h
  have e0 := h0.cell 0
  have e1 := h0.cell 1
  have hlt : ¬ (z : Int) < (l.size : Int) := by omega
  have hsub : (z : Int) - (l.size : Int) = (q : Int) := by omega
  have hl := h.lt
  clear hn hz
  go_enter Try.func47, Try.ntmps47
  go_wp2_with fail
  refine region_sq_l (by kernel_rfl) (by kernel_rfl) (calm_of (fun _ _ _ h => h.2) (fun _ _ h => h) Turned.ret) ?_
  go_wp2_with fail
  refine (turned_any t q r w.drew hq hr (by omega)).mono ?_
  rintro e w2 ⟨rfl, hk2⟩
  have h2 := h0.kp hk2 (by simp)
  have f2 := h2.frozen 1
  have q2 := h2.cell 1
  have hk3 : Kp [] w w2 := ((Kp.rfl_ [] w).drew).trans hk2
  go_wp2_with fail
  refine sqQ_end (by rfl) ?_
  go_wp2_with fail
  go_end0
  exact ⟨rfl, h2.set 1 _, (hk3.mono (T := [g]) (by simp)).set (by simp) _⟩
end Go.Proofs.Ytnmogfjbbibeiaa
