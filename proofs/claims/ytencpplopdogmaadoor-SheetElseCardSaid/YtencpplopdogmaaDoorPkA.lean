/- Package pack: numbers as bytes. -/
import Derived.Test.YtencpplopdogmaaDoorApp
import Derived.Lib.UnsafeStr
import Derived.Deep.LoopGhost
namespace Go.Proofs.YtencpplopdogmaaDoor
set_option maxRecDepth 100000
open Go.RowKit
set_option linter.unusedVariables false

/-- The bytes of a number's groups; f: how many there may be. -/
def encF : Nat → Nat → List UInt8
  | 0, z => [UInt8.ofNat z]
  | f + 1, z => if z < 128 then [UInt8.ofNat z] else UInt8.ofNat (z % 128 + 128) :: encF f (z / 128)
def enc (z : Nat) : List UInt8 := encF z z
theorem encF_any : ∀ (f f' z : Nat), z ≤ f → z ≤ f' → encF f z = encF f' z := by
  intro f
  induction f with
  | zero =>
    intro f' z h h'
    cases f' with
    | zero => rfl
    | succ f' => rw [encF, encF, if_pos (by omega)]
  | succ f ih =>
    intro f' z h h'
    cases f' with
    | zero => rw [encF, encF, if_pos (by omega)]
    | succ f' =>
      rw [encF, encF]
      split
      · rfl
      · rw [ih f' (z / 128) (by omega) (by omega)]
theorem enc_small {z : Nat} (h : z < 128) : enc z = [UInt8.ofNat z] := by
  unfold enc
  cases z with
  | zero => rfl
  | succ z => rw [encF, if_pos h]
theorem enc_big {z : Nat} (h : 128 ≤ z) : enc z = UInt8.ofNat (z % 128 + 128) :: enc (z / 128) := by
  unfold enc
  obtain ⟨f, rfl⟩ : ∃ f, z = f + 1 := ⟨z - 1, by omega⟩
  rw [encF, if_neg (by omega), encF_any f ((f + 1) / 128) _ (by omega) (Nat.le_refl _)]
theorem enc_len : ∀ (f z : Nat), z < 128 ^ (f + 1) → 1 ≤ (enc z).length ∧ (enc z).length ≤ f + 1 := by
  intro f
  induction f with
  | zero => intro z h; rw [enc_small (by simpa using h)]; simp
  | succ f ih =>
    intro z h
    by_cases hz : z < 128
    · rw [enc_small hz]; simp
    · rw [enc_big (by omega)]
      have := ih (z / 128) (Nat.div_lt_of_lt_mul (by rw [Nat.pow_succ, Nat.mul_comm] at h; exact h))
      simp only [List.length_cons]
      omega
theorem enc_len10 {z : Nat} (h : z ≤ 18446744073709551615) : 1 ≤ (enc z).length ∧ (enc z).length ≤ 10 := by
  have e : (128 : Nat) ^ (9 + 1) = 1180591620717411303424 := by decide
  exact enc_len 9 z (by rw [e]; omega)
def fold (n : Int) : Nat := if n < 0 then (2 * (-(n + 1)) + 1).toNat else (2 * n).toNat
def numB (n : Int) : List UInt8 := enc (fold n)
theorem fold_lt {n : Int} (h1 : -9223372036854775808 ≤ n) (h2 : n ≤ 9223372036854775807) : fold n ≤ 18446744073709551615 := by
  unfold fold
  split <;> omega

/-- A slice of bytes of the call's own. -/
def OwnB (base : Nat) (w : World) (v : Value) (l : List UInt8) : Prop := w.ownsRow base 5 1 v l.length (Lib.byteCells l)
theorem oneCell_bytes (l : List UInt8) : ∀ u ∈ Lib.byteCells l, u.oneCell' = true := by
  intro u hu
  obtain ⟨z, _, rfl⟩ := List.mem_map.1 hu
  rfl
def Fits64 (n : Nat) : Prop := n ≤ 18446744073709551615

set_option maxHeartbeats 400000 in
theorem folded_any (n : Int) (w : World) (h1 : -9223372036854775808 ≤ n) (h2 : n ≤ 9223372036854775807) :
    Calls Tryd.prog 72 #[.int .i64 n] w fun e w' => e = .returned (.int .u64 (fold n)) ∧ w = w' := by
  by_cases hn : n < 0
  · go_enter Tryd.func72, Tryd.ntmps72
    go_wp2
    go_ret
    exact ⟨ret_int (by unfold fold; rw [if_pos hn]; omega), rfl⟩
  · go_enter Tryd.func72, Tryd.ntmps72
    go_wp2
    go_ret
    exact ⟨ret_int (by unfold fold; rw [if_neg (by omega)]; omega), rfl⟩

theorem folded_to (n : Int) (z : Nat) (w : World) (hz : fold n = z) (h1 : -9223372036854775808 ≤ n) (h2 : n ≤ 9223372036854775807) :
    Calls Tryd.prog 72 #[.int .i64 n] w fun e w' => e = .returned (.int .u64 z) ∧ w = w' :=
  (folded_any n w h1 h2).mono fun e w' ⟨a, b⟩ => ⟨by rw [a, hz], b⟩

/-- The step of appending one byte to a slice of bytes of the call's own. -/
theorem wpl_byte {ops : Array Oper} {rest : List Oper} {o : Oper} {a : Act} {Q : Exit → Act → World → Prop} (w0 : World) (base : Nat) (hgd : o.guard = none) (s x : Operand)
    (ho : o.op = .call { callee := .builtin .append, args := #[s, x], argTypes := #[47, 47] }) (v : Value) (l : List UInt8) (b : UInt8) (hown : OwnB base w0 v l)
    (hs : a.eval s = v) (hx : a.eval x = .slice (some ⟨w0.heap.size, 0, none⟩) 1 1) (hb : base ≤ w0.heap.size) (hl : l.length ≤ 1099511627776)
    (h : ∀ v' w', OwnB base w' v' (l ++ [b]) → Below base w0 w' → w0.heap.size < w'.heap.size → wpList Tryd.prog ops Q rest (a.put o.dst v') w') :
    wpList Tryd.prog ops Q (o :: rest) a (w0.alloc (.cells #[.int .u8 (b.toNat : Int)] 5)) := by
  obtain ⟨i0, hi, hz, h1, h2⟩ := info_parts info_u8
  refine wpl_app _ hgd s x 47 ho base 5 i0 _ 1 Tryd.underlying47 hi hz h1 h2 rfl v l.length (Lib.byteCells l) hs (own_kp hown ((Kp.rfl_ [] w0).alloc _) (by simp)) (some ⟨w0.heap.size, 0, none⟩) 1 1 [.int .u8 (b.toNat : Int)] hx
    (Ls.of_at (At.new w0 _ _)) (by intro u hu; obtain rfl : u = Value.int .u8 (b.toNat : Int) := by simpa using hu
                                   rfl) (by unfold maxLen; omega) (by omega) (by simp; omega) ?_
  intro v' w' hown' hg _
  have hsz := hg.size
  have hsz0 : (w0.alloc (.cells #[.int .u8 (b.toNat : Int)] 5)).heap.size = w0.heap.size + 1 := by simp
  refine h v' w' ?_ (((Below.refl _ _).alloc hb _).grown hg (by omega) fun k hk => (own_block_lt hown hk).1) (by omega)
  unfold OwnB
  rw [Lib.byteCells_append, List.length_append]
  exact hown'

def EncRel (l : List UInt8) (z : Nat) (lk : List UInt8) (k : Nat) : Prop := lk ++ enc k = l ++ enc z ∧ lk.length + (enc k).length = l.length + (enc z).length
theorem or128 : ∀ k : Fin 128, bits .or .u8 ((k.val : Nat) : Int) 128 = ((k.val + 128 : Nat) : Int) := by decide
theorem u8_of {k : Nat} (h : k < 256) : (UInt8.ofNat k).toNat = k := by simp; omega

set_option maxRecDepth 100000 in
set_option maxHeartbeats 1000000 in
theorem appendNum_any (base : Nat) (v : Value) (l : List UInt8) (n : Int) (w : World) (hown : OwnB base w v l) (hb : base ≤ w.heap.size) (hl : l.length ≤ 1000000000) (h1 : -9223372036854775808 ≤ n) (h2 : n ≤ 9223372036854775807) :
    Calls Tryd.prog 62 #[v, .int .i64 n] w fun e w' => ∃ v', e = .returned v' ∧ OwnB base w' v' (l ++ numB n) ∧ Below base w w' := by
  have hf := fold_lt h1 h2
  unfold numB
  obtain ⟨z, hz⟩ : ∃ z, fold n = z := ⟨_, rfl⟩
  rw [hz] at hf ⊢
  have HZ := Lib.hid hz
  clear hz
  go_enter Tryd.func62, Tryd.ntmps62
  go_wp2_with fail
  refine (folded_to n z _ HZ.out h1 h2).mono ?_
  rintro e w1 ⟨rfl, rfl⟩
  go_wp2_with fail
  go_loopg [0, 5] z (fun gk q i wr => ∃ (k : Nat) (lk : List UInt8), k ≤ gk ∧ i = .int .u64 k ∧ k ≤ 18446744073709551615 ∧ OwnB base wr q lk ∧ lk ++ enc k = l ++ enc z ∧ lk.length ≤ 1000000010 ∧ Below base w wr ∧ base ≤ wr.heap.size)
  case atStart => exact ⟨z, l, Nat.le_refl _, rfl, hf, hown, rfl, by omega, Below.refl _ _, hb⟩
  case round =>
    obtain ⟨k, lk, hgk, rfl, hk, hown, henc, hlk, hbel, hbs⟩ := hrel
    by_cases hbig : 128 ≤ k
    · have hor := or128 ⟨k % 128, by omega⟩
      obtain ⟨b, hbn, hbe⟩ : ∃ b : UInt8, UInt8.ofNat (k % 128 + 128) = b ∧ bits .or .u8 ((k : Int) % 128) 128 = ((b.toNat : Nat) : Int) := ⟨_, rfl, by rw [u8_of (by omega)]; simpa using hor⟩
      clear hor
      have HB := Lib.hid hbn
      clear hbn
      have hl1 : lk.length ≤ 1099511627776 := by omega
      have HE := Lib.hid henc
      clear henc
      go_wp2_with (at_builtin; go_must (refine wpl_byte wr base rfl _ _ rfl _ lk b hown rfl rfl hbs hl1 ?_); intro v6 w6 hown6 hbel6 hsz6)
      have hnx : lk ++ [b] ++ enc (k / 128) = l ++ enc z := by
        rw [← HE.out, enc_big hbig, HB.out]; simp
      have hnl : (lk ++ [b]).length ≤ 1000000010 := by
        have e1 := congrArg List.length hnx
        have e2 := (enc_len10 (z := k / 128) (by omega)).1
        have e3 := (enc_len10 hf).2
        simp only [List.length_append] at e1 ⊢
        omega
      have HN := Lib.hid hnx
      clear hnx
      go_wp2_with fail
      go_roundg (k / 128)
      case measure => omega
      case rel => exact ⟨k / 128, lk ++ [b], Nat.le_refl _, by go_num, by omega, hown6, HN.out, hnl, hbel.trans hbel6, by omega⟩
    · obtain ⟨b, rfl⟩ : ∃ b : UInt8, k = b.toNat := ⟨UInt8.ofNat k, by rw [u8_of (by omega)]⟩
      have hl1 : lk.length ≤ 1099511627776 := by omega
      have hnx : lk ++ [b] = l ++ enc z := by rw [← henc, enc_small (by omega)]; simp
      have HN := Lib.hid hnx
      clear hnx henc
      go_wp2_with (at_builtin; go_must (refine wpl_byte wr base rfl _ _ rfl _ lk b hown rfl rfl hbs hl1 ?_); intro v6 w6 hown6 hbel6 hsz6)
      go_wp2_with fail
      go_ret
      exact ⟨v6, rfl, by rw [← HN.out]; exact hown6, hbel.trans hbel6⟩

theorem conv_own {base : Nat} {w : World} {v : Value} {l : List UInt8} (h : OwnB base w v l) : (convert 47 9 v).run Tryd.prog w = .ok (.string ⟨l.toArray⟩) w := by
  obtain ⟨A, c, rfl, hL, -, -, -⟩ := own_open h
  cases A with
  | none =>
    have hl : l = [] := by
      have := hL.2
      cases l with
      | nil => rfl
      | cons x xs =>
        obtain ⟨ad, h, _⟩ := this (by simp)
        cases h
    subst hl
    exact run_convert_bytes_nil (P := Tryd.prog) w 47 5 Tryd.underlying47 Tryd.underlying5 _ _ _ Tryd.underlying9
  | some ad =>
    refine run_convert_bytes_back (P := Tryd.prog) w 47 9 5 ad c l Tryd.underlying47 Tryd.underlying5 Tryd.underlying9 fun j hj => ?_
    obtain ⟨ad', e, _, hc⟩ := hL.2 (by omega)
    injection e with e
    subst e
    refine hc j _ ?_
    simp [Lib.byteCells, List.getElem?_eq_getElem hj]
theorem OwnB.below {base : Nat} {w w' : World} {v : Value} {l : List UInt8} (h : OwnB base w v l) (hb : Below w.heap.size w w') : OwnB base w' v l := own_kp h (Kp.of_below hb) (by simp)
theorem numB_len {z : Int} (h1 : -9223372036854775808 ≤ z) (h2 : z ≤ 9223372036854775807) : 1 ≤ (numB z).length ∧ (numB z).length ≤ 10 := enc_len10 (fold_lt h1 h2)
theorem flat_len : ∀ (zs : List Int), (∀ z ∈ zs, (Lit.int .i64 z).wf = true) → (zs.flatMap numB).length ≤ 10 * zs.length := by
  intro zs
  induction zs with
  | nil => intro _; simp
  | cons z zs ih =>
    intro h
    have h1 := bd_i64 (h z (by simp))
    have := (numB_len h1.1 h1.2).2
    have := ih fun z hz => h z (List.mem_cons_of_mem _ hz)
    simp only [List.flatMap_cons, List.length_append, List.length_cons]
    omega

set_option maxRecDepth 100000 in
set_option maxHeartbeats 1000000 in
theorem nums_any (A : Option Addr) (n c : Nat) (zs : List Int) (w : World) (hL : Ls w A n (zs.map (Value.int .i64))) (hwf : ∀ z ∈ zs, (Lit.int .i64 z).wf = true) (hn : n ≤ 20000) :
    Calls Tryd.prog 41 #[.slice A n c] w fun e w' => e = .returned (.string ⟨(zs.flatMap numB).toArray⟩) ∧ Kp [] w w' := by
  have hlen : zs.length = n := by simpa using hL.1
  have HL := Lib.hid hlen
  clear hlen
  obtain ⟨bs, hbs⟩ : ∃ bs, zs.flatMap numB = bs := ⟨_, rfl⟩
  rw [hbs]
  have HBS := Lib.hid hbs
  clear hbs
  go_enter Tryd.func41, Tryd.ntmps41
  obtain ⟨i0, hi, hz, hz1, hz2⟩ := info_parts info_u8
  go_wp2_with (at_make; go_must (refine wpList_make_own _ rfl _ _ 47 rfl w.heap.size 5 i0 _ 1 Tryd.underlying47 hi hz hz1 .i64 .i64 (2 * (n : Int)) (2 * n) rfl rfl (by omega) (by rw [hz2]; omega) (by unfold maxLen; omega) (Nat.le_refl _) ?_); intro w1 hown1 hg1)
  have hb1 : Below w.heap.size w w1 := (Below.refl _ _).grown hg1 (Nat.le_refl _) (by simp)
  have hs1 := hg1.size
  go_wp2_with fail
  go_loopg [3, 12] n (fun gk v i wr => ∃ k : Nat, n - k ≤ gk ∧ i = .int .i64 k ∧ k ≤ n ∧ OwnB w.heap.size wr v ((zs.take k).flatMap numB) ∧ Below w.heap.size w wr ∧ w.heap.size ≤ wr.heap.size)
  case atStart => exact ⟨0, by omega, rfl, Nat.zero_le _, hown1, hb1, hs1⟩
  case round =>
    clear hown1 hb1 hs1 hg1
    obtain ⟨k, hgk, rfl, hk, hown, hbel, hsz⟩ := hrel
    by_cases hlt : k < n
    · obtain ⟨ad, u, rfl, _, hu, hc⟩ := (hL.kp (Kp.of_below hbel) (by simp)).at_ hlt
      have hl : k < zs.length := by have := HL.out; omega
      rw [List.getElem?_map, List.getElem?_eq_getElem hl] at hu
      obtain ⟨z, hz⟩ : ∃ z, zs[k] = z := ⟨_, rfl⟩
      rw [hz] at hu
      obtain rfl : Value.int .i64 z = u := by simpa using hu
      have hbd := bd_i64 (hwf z (by rw [← hz]; exact List.getElem_mem hl))
      have hst : (zs.take (k + 1)).flatMap numB = (zs.take k).flatMap numB ++ numB z := by
        rw [List.take_add_one, List.getElem?_eq_getElem hl, hz]; simp
      have hln : ((zs.take k).flatMap numB).length ≤ 1000000000 := by
        have h5 := flat_len (zs.take k) fun z hz => hwf z (List.mem_of_mem_take hz)
        have h6 : (zs.take k).length ≤ k := List.length_take_le _ _
        omega
      have HST := Lib.hid hst
      clear hst hu hz hl
      generalize (zs.take k).flatMap numB = l at *
      go_wp2_with fail
      refine (appendNum_any w.heap.size _ l z _ hown hsz hln hbd.1 hbd.2).mono ?_
      rintro e w2 ⟨v2, rfl, hown2, hb2⟩
      have hs2 := hb2.size
      go_wp2_with fail
      go_roundg (n - (k + 1))
      case measure => omega
      case rel => exact ⟨k + 1, by omega, by go_num, by omega, by rw [HST.out]; exact hown2, hbel.trans hb2, by omega⟩
    · have hkn : zs.take k = zs := List.take_of_length_le (by have := HL.out; omega)
      rw [hkn, HBS.out] at hown
      have hcv := conv_own hown
      clear hkn
      go_wp2_with fail
      go_ret
      exact ⟨rfl, Kp.of_below hbel⟩
end Go.Proofs.YtencpplopdogmaaDoor
