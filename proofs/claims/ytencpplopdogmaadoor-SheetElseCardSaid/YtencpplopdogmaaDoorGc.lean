/- awake of pack's laws; PackNil, PackOrder. · The document's own bytes of numbers and texts. · The document's own bytes of many numbers and texts; the length that is played; PackNums, PackTexts, PackJoins. · PackNums, PackTexts. · Numbers written and read: the round trip. -/
import Derived.Test.YtencpplopdogmaaDoorGb
import Derived.Test.YtencpplopdogmaaDoorGa
import Derived.Test.YtencpplopdogmaaDoorPkA
import Derived.Test.YtencpplopdogmaaDoorAppI
import Derived.Test.YtencpplopdogmaaDoorBs
namespace Go.Proofs.YtencpplopdogmaaDoor
set_option maxRecDepth 100000
open Go.RowKit
set_option linter.unusedVariables false

theorem ext1 : (ByteArray.mk #[3, 4, 97, 98, 33]).extract 1 5 = ByteArray.mk #[4, 97, 98, 33] := by decide
theorem ext2 : (ByteArray.mk #[4, 97, 98, 33]).extract 1 3 = ByteArray.mk #[97, 98] := by decide
theorem ext3 : (ByteArray.mk #[4, 97, 98, 33]).extract 3 4 = ByteArray.mk #[33] := by decide
theorem dec1 : decN [3, 4, 97, 98, 33] = (-2, 1) := by decide
theorem dec2 : decN [4, 97, 98, 33] = (((2 : Nat) : Int), 1) := by decide
theorem nums1 : ([0, -1, 1, 64] : List Int).flatMap numB = [0, 1, 2, 128, 1] := by decide
theorem texts1 : texts [⟨#[97, 98]⟩, ⟨#[]⟩] = [4, 97, 98, 0] := by decide

theorem num_to (g : Nat) (s r : ByteArray) (n : Int) (u : Nat) (w : World) (h : Rdr w g s false) (hd : decN s.data.toList = (n, u)) (hu : 0 < u) (hus : u ≤ s.size) (hs : s.size ≤ 1000000000) (hr : s.extract u s.size = r) :
    Calls Tryd.prog 34 #[.pointer (some ⟨g, 0, none⟩)] w fun e w' => e = .returned (.int .i64 n) ∧ Rdr w' g r false ∧ Kp [g] w w' :=
  (num_yes g s n u w h hd hu hus hs).mono fun _ _ ⟨a, b, c⟩ => ⟨a, by rw [← hr]; exact b, c⟩
theorem text_to (g : Nat) (s t r : ByteArray) (n u : Nat) (w : World) (h : Rdr w g s false) (hd : decN s.data.toList = ((n : Int), u)) (hu : 0 < u) (hn : u + n ≤ s.size) (hs : s.size ≤ 1000000000) (ht : s.extract u (u + n) = t) (hr : s.extract (u + n) s.size = r) :
    Calls Tryd.prog 36 #[.pointer (some ⟨g, 0, none⟩)] w fun e w' => e = .returned (.string t) ∧ Rdr w' g r false ∧ Kp [g] w w' :=
  (text_yes g s n u w h hd hu hn hs).mono fun _ _ ⟨a, b, c⟩ => ⟨by rw [a, ht], by rw [← hr]; exact b, c⟩
theorem nums_to (A : Option Addr) (n c : Nat) (zs : List Int) (b : ByteArray) (w : World) (hb : ByteArray.mk (zs.flatMap numB).toArray = b) (hL : Ls w A n (zs.map (Value.int .i64))) (hwf : ∀ z ∈ zs, (Lit.int .i64 z).wf = true) (hn : n ≤ 20000) :
    Calls Tryd.prog 41 #[.slice A n c] w fun e w' => e = .returned (.string b) ∧ Kp [] w w' :=
  (nums_any A n c zs w hL hwf hn).mono fun _ _ ⟨h1, h2⟩ => ⟨by rw [h1, hb], h2⟩
theorem packtext_to (A : Option Addr) (n c : Nat) (ss : List ByteArray) (b : ByteArray) (w : World) (hb : ByteArray.mk (texts ss).toArray = b) (hL : Ls w A n (ss.map Value.string)) (hn : n ≤ 100000) (htot : (texts ss).length ≤ 1000000000) :
    Calls Tryd.prog 42 #[.slice A n c] w fun e w' => e = .returned (.string b) ∧ Kp [] w w' :=
  (text_any A n c ss w hL hn htot).mono fun _ _ ⟨h1, h2⟩ => ⟨by rw [h1, hb], h2⟩

end Go.Proofs.YtencpplopdogmaaDoor
namespace Go.Proofs.YtencpplopdogmaaDoor
set_option maxRecDepth 100000
open Go.RowKit
set_option linter.unusedVariables false

theorem conv_one (w : World) (x : Int) (b : UInt8) (hx : x = (b.toNat : Int)) :
    (convert 47 9 (.slice (some ⟨w.heap.size, 0, none⟩) 1 1)).run Tryd.prog (w.alloc (.cells #[.int .u8 x] 5)) = .ok (.string ⟨#[b]⟩) (w.alloc (.cells #[.int .u8 x] 5)) := by
  subst hx
  refine run_convert_bytes_back (P := Tryd.prog) _ 47 9 5 ⟨w.heap.size, 0, none⟩ 1 [b] Tryd.underlying47 Tryd.underlying5 Tryd.underlying9 fun j hj => ?_
  obtain rfl : j = 0 := by simp at hj; omega
  exact ((At.new w _ _).cell 0).trans rfl
def OutIs (z : Nat) (s : ByteArray) (k : Nat) : Prop := s.data.toList ++ enc k = enc z
theorem push_list (s : ByteArray) (b : UInt8) : (s ++ ByteArray.mk #[b]).data.toList = s.data.toList ++ [b] := by simp
theorem OutIs.step {z k : Nat} {s : ByteArray} {b : UInt8} (h : OutIs z s k) (hk : 128 ≤ k) (hb : UInt8.ofNat (k % 128 + 128) = b) : OutIs z (s ++ ⟨#[b]⟩) (k / 128) := by
  unfold OutIs at h ⊢
  rw [push_list, ← h, enc_big hk, hb]
  simp
theorem OutIs.last {z : Nat} {s : ByteArray} {b : UInt8} (h : OutIs z s b.toNat) (hk : b.toNat < 128) : (s ++ ByteArray.mk #[b]).data.toList = enc z := by
  unfold OutIs at h
  rw [push_list, ← h, enc_small hk]
  simp
theorem OutIs.size_le {z k : Nat} {s : ByteArray} (h : OutIs z s k) (hz : z ≤ 18446744073709551615) : s.size ≤ 10 := by
  have h1 := congrArg List.length h
  have h2 := (enc_len10 hz).2
  simp only [List.length_append, Array.length_toList, ByteArray.size_data] at h1
  omega
set_option maxRecDepth 100000 in
set_option maxHeartbeats 1000000 in
theorem rnum_any (n : Int) (w : World) (h1 : -9223372036854775808 ≤ n) (h2 : n ≤ 9223372036854775807) :
    Calls Tryd.prog 43 #[.int .i64 n] w fun e w' => ∃ s : ByteArray, e = .returned (.string s) ∧ s.data.toList = numB n ∧ Kp [] w w' := by
  unfold numB
  obtain ⟨z, hz⟩ : ∃ z, fold n = z := ⟨_, rfl⟩
  have hzb := fold_lt h1 h2
  rw [hz] at hzb ⊢
  by_cases hn : n < 0
  · obtain ⟨m, hm⟩ : ∃ m, IntKind.u64.wrap n = m := ⟨_, rfl⟩
    obtain ⟨m2, hm2⟩ : ∃ m2, IntKind.u64.wrap (m * 2) = m2 := ⟨_, rfl⟩
    obtain ⟨m3, hm3⟩ : ∃ m3, IntKind.u64.wrap (-m2) = m3 := ⟨_, rfl⟩
    have hm4 : IntKind.u64.wrap (m3 - 1) = (z : Int) := by
      rw [← hz, ← hm3, ← hm2, ← hm]
      unfold fold
      rw [if_pos hn]
      simp only [IntKind.wrap_u64]
      omega
    clear hz
    go_enter Tryd.func43, Tryd.ntmps43
    go_wp2_with fail
    go_loopg [3, 4] z (fun gk i o wr => ∃ (k : Nat) (s : ByteArray), k ≤ gk ∧ i = .int .u64 k ∧ o = .string s ∧ k ≤ 18446744073709551615 ∧ OutIs z s k ∧ s.size ≤ 100 ∧ Kp [] w wr)
    case atStart => exact ⟨z, ⟨#[]⟩, Nat.le_refl _, rfl, rfl, hzb, rfl, by decide, Kp.rfl_ _ _⟩
    case round =>
      clear hm hm2 hm3 hm4
      obtain ⟨k, s, hgk, rfl, rfl, hk, ho, hsz, hkp⟩ := hrel
      by_cases hbig : 128 ≤ k
      · obtain ⟨b, hbn, hbe⟩ : ∃ b : UInt8, UInt8.ofNat (k % 128 + 128) = b ∧ ((k : Int) % 128 + 128) = ((b.toNat : Nat) : Int) := ⟨_, rfl, by rw [u8_of (by omega)]; omega⟩
        have hcv := conv_one wr _ b hbe
        have hst := ho.step hbig hbn
        have hs2 := hst.size_le hzb
        clear hbe hbn
        go_wp2_with fail
        go_roundg (k / 128)
        case measure => omega
        case rel => exact ⟨k / 128, s ++ ⟨#[b]⟩, Nat.le_refl _, by go_num, rfl, by omega, hst, by omega, hkp.alloc _⟩
      · obtain ⟨b, rfl⟩ : ∃ b : UInt8, k = b.toNat := ⟨UInt8.ofNat k, by rw [u8_of (by omega)]⟩
        have hcv := conv_one wr _ b rfl
        have hst := ho.last (by omega)
        have HST := Lib.hid hst
        clear hst
        go_wp2_with fail
        go_ret
        exact ⟨_, rfl, HST.out, hkp.alloc _⟩
  · obtain ⟨m, hm⟩ : ∃ m, IntKind.u64.wrap n = m := ⟨_, rfl⟩
    have hm2 : IntKind.u64.wrap (m * 2) = (z : Int) := by
      rw [← hz, ← hm]
      unfold fold
      rw [if_neg hn]
      simp only [IntKind.wrap_u64]
      omega
    have hnn : n * 2 = (z : Int) := by
      rw [← hz]; unfold fold; rw [if_neg hn]; omega
    clear hz
    go_enter Tryd.func43, Tryd.ntmps43
    go_wp2_with fail
    go_loopg [3, 4] z (fun gk i o wr => ∃ (k : Nat) (s : ByteArray), k ≤ gk ∧ i = .int .u64 k ∧ o = .string s ∧ k ≤ 18446744073709551615 ∧ OutIs z s k ∧ s.size ≤ 100 ∧ Kp [] w wr)
    case atStart => exact ⟨z, ⟨#[]⟩, Nat.le_refl _, rfl, rfl, hzb, rfl, by decide, Kp.rfl_ _ _⟩
    case round =>
      clear hm hm2 hnn
      obtain ⟨k, s, hgk, rfl, rfl, hk, ho, hsz, hkp⟩ := hrel
      by_cases hbig : 128 ≤ k
      · obtain ⟨b, hbn, hbe⟩ : ∃ b : UInt8, UInt8.ofNat (k % 128 + 128) = b ∧ ((k : Int) % 128 + 128) = ((b.toNat : Nat) : Int) := ⟨_, rfl, by rw [u8_of (by omega)]; omega⟩
        have hcv := conv_one wr _ b hbe
        have hst := ho.step hbig hbn
        have hs2 := hst.size_le hzb
        clear hbe hbn
        go_wp2_with fail
        go_roundg (k / 128)
        case measure => omega
        case rel => exact ⟨k / 128, s ++ ⟨#[b]⟩, Nat.le_refl _, by go_num, rfl, by omega, hst, by omega, hkp.alloc _⟩
      · obtain ⟨b, rfl⟩ : ∃ b : UInt8, k = b.toNat := ⟨UInt8.ofNat k, by rw [u8_of (by omega)]⟩
        have hcv := conv_one wr _ b rfl
        have hst := ho.last (by omega)
        have HST := Lib.hid hst
        clear hst
        go_wp2_with fail
        go_ret
        exact ⟨_, rfl, HST.out, hkp.alloc _⟩
end Go.Proofs.YtencpplopdogmaaDoor
namespace Go.Proofs.YtencpplopdogmaaDoor
set_option maxRecDepth 100000
open Go.RowKit
set_option linter.unusedVariables false

/-- The step of appending a string to a slice of bytes of the call's own. -/
theorem wpl_bstr {ops : Array Oper} {rest : List Oper} {o : Oper} {a : Act} {Q : Exit → Act → World → Prop} (w0 : World) (base : Nat) (hgd : o.guard = none) (s x : Operand)
    (ho : o.op = .call { callee := .builtin .append, args := #[s, x], argTypes := #[47, 9] }) (v : Value) (l : List UInt8) (t : ByteArray) (hown : OwnB base w0 v l)
    (hs : a.eval s = v) (hx : a.eval x = .string t) (hb : base ≤ w0.heap.size) (hl : l.length + t.size ≤ 1099511627776)
    (h : ∀ v' w', OwnB base w' v' (l ++ t.data.toList) → Below base w0 w' → wpList Tryd.prog ops Q rest (a.put o.dst v') w') :
    wpList Tryd.prog ops Q (o :: rest) a w0 := by
  obtain ⟨i0, hi, hz, hz1, hz2⟩ := info_parts info_u8
  refine Lib.wpList_append_own_string w0 hgd s x 47 9 ho base 5 i0 Tryd.underlying47 Tryd.underlying9 hi hz hz1 hz2 v l.length (Lib.byteCells l) hs hown t hx (by unfold maxLen; omega) (by omega) hb ?_
  intro v' w' hown' hg _
  refine h v' w' ?_ ((Below.refl _ _).grown hg hb fun k hk => (own_block_lt hown hk).1)
  have hlen : (l ++ t.data.toList).length = l.length + t.size := by simp
  unfold OwnB
  rw [Lib.byteCells_append, hlen]
  exact hown'

set_option maxRecDepth 100000 in
set_option maxHeartbeats 1000000 in
theorem rtexts_to (A : Option Addr) (n c : Nat) (ss : List ByteArray) (b : ByteArray) (w : World) (hb : ByteArray.mk (texts ss).toArray = b) (hL : Ls w A n (ss.map Value.string)) (hn : n ≤ 100000) (htot : (texts ss).length ≤ 1000000000) :
    Calls Tryd.prog 44 #[.slice A n c] w fun e w' => e = .returned (.string b) ∧ Kp [] w w' := by
  have hlen : ss.length = n := by simpa using hL.1
  have HL := Lib.hid hlen
  clear hlen
  have HB := Lib.hid hb
  have HTOT := Lib.hid htot
  clear hb htot
  go_enter Tryd.func44, Tryd.ntmps44
  go_wp2_with fail
  go_loopg [3, 4] n (fun gk v i wr => ∃ k : Nat, n - k ≤ gk ∧ i = .int .i64 k ∧ k ≤ n ∧ OwnB w.heap.size wr v (texts (ss.take k)) ∧ Below w.heap.size w wr ∧ w.heap.size ≤ wr.heap.size)
  case atStart => exact ⟨0, by omega, rfl, Nat.zero_le _, own_empty w _, (Below.refl _ _).alloc (Nat.le_refl _) _, by simp⟩
  case round =>
    obtain ⟨k, hgk, rfl, hk, hown, hbel, hsz⟩ := hrel
    by_cases hlt : k < n
    · obtain ⟨ad, u, rfl, _, hu, hcw⟩ := hL.at_ hlt
      have hblk : (ad.add k).block < w.heap.size := cell_block_lt hcw
      have hc := ((Kp.of_below hbel).cell hblk (by simp)).trans hcw
      have hl : k < ss.length := by have := HL.out; omega
      rw [List.getElem?_map, List.getElem?_eq_getElem hl] at hu
      obtain ⟨s, hs⟩ : ∃ s, ss[k] = s := ⟨_, rfl⟩
      rw [hs] at hu
      obtain rfl : Value.string s = u := by simpa using hu
      have hst : texts (ss.take (k + 1)) = texts (ss.take k) ++ numB s.size ++ s.data.toList := by
        unfold texts
        rw [List.take_add_one, List.getElem?_eq_getElem hl, hs]; simp
      have hle : (texts (ss.take k)).length + ((numB s.size).length + s.size) ≤ 1000000000 := by
        have h5 : texts ss = texts (ss.take (k + 1)) ++ texts (ss.drop (k + 1)) := by
          unfold texts
          rw [← List.flatMap_append, List.take_append_drop]
        have h6 := HTOT.out
        rw [h5, hst] at h6
        simp only [List.length_append, Array.length_toList, ByteArray.size_data] at h6
        omega
      have HST := Lib.hid hst
      clear hst hu hs hl
      generalize texts (ss.take k) = l at *
      go_wp2_with fail
      refine (rnum_any s.size _ (by omega) (by omega)).mono ?_
      rintro e w2 ⟨s2, rfl, hs2, hk2⟩
      have hb2 : Below w.heap.size wr w2 := hk2.below hsz (by simp)
      have hown2 := own_kp hown hk2 (by simp)
      have hsz2 := hb2.size
      have hle2 : w.heap.size ≤ w2.heap.size := by omega
      have hl2 : l.length + s2.size ≤ 1099511627776 := by (have hx2 := (numB_len (z := s.size) (by omega) (by omega)).2; rw [← hs2] at hx2; simp at hx2; omega)
      have hl3 : (l ++ s2.data.toList).length + s.size ≤ 1099511627776 := by (have hx2 := (numB_len (z := s.size) (by omega) (by omega)).2; rw [← hs2] at hx2; simp at hx2 ⊢; omega)
      go_wp2_with (first | (at_builtin; refine wpl_bstr w2 w.heap.size rfl _ _ rfl _ l s2 hown2 rfl rfl hle2 hl2 ?_; intro v3 w3 hown3 hb3; have hb03 := (hbel.trans hb2).trans hb3; have hle3 : w.heap.size ≤ w3.heap.size := (by have hx3 := hb03.size; omega); have hc3 : w3.cell? (ad.add k) = some (.string s) := ((Kp.of_below hb03).cell hblk (by simp)).trans hcw) | (at_builtin; refine wpl_bstr w3 w.heap.size rfl _ _ rfl _ (l ++ s2.data.toList) s hown3 rfl rfl hle3 hl3 ?_; intro v4 w4 hown4 hb4))
      go_roundg (n - (k + 1))
      case measure => omega
      case rel =>
        rw [hs2] at hown4
        have hb14 := hb03.trans hb4
        have := hb14.size
        exact ⟨k + 1, by omega, by go_num, by omega, by rw [HST.out]; exact hown4, hb14, by omega⟩
    · have hkn : ss.take k = ss := List.take_of_length_le (by have := HL.out; omega)
      rw [hkn] at hown
      have hcv := conv_own hown
      rw [HB.out] at hcv
      clear hkn
      go_wp2_with fail
      go_ret
      exact ⟨rfl, Kp.of_below hbel⟩
end Go.Proofs.YtencpplopdogmaaDoor
namespace Go.Proofs.YtencpplopdogmaaDoor
set_option maxRecDepth 100000
open Go.RowKit
set_option linter.unusedVariables false

theorem tot_texts : ∀ (ss : List ByteArray), (∀ s ∈ ss, s.size ≤ 9223372036854775807) → (texts ss).length ≤ 10 * tot ss := by
  intro ss
  induction ss with
  | nil => intro _; simp [texts]
  | cons s ss ih =>
    intro h
    have h1 := ih fun z hz => h z (List.mem_cons_of_mem _ hz)
    have h2 := (numB_len (z := (s.size : Int)) (by omega) (by have := h s (by simp); omega)).2
    unfold texts tot at *
    simp only [List.flatMap_cons, List.length_append, List.map_cons, List.sum_cons, Array.length_toList, ByteArray.size_data]
    omega
def Long (ss : List ByteArray) (w : World) (e : Ending) (w' : World) : Prop := ∃ b : Bool, e = .returned (.bool b) ∧ w = w' ∧ (b = false → tot ss ≤ 16384)
end Go.Proofs.YtencpplopdogmaaDoor
namespace Go.Proofs.YtencpplopdogmaaDoor
set_option maxRecDepth 100000
open Go.RowKit
set_option linter.unusedVariables false

theorem p9 : (128 : Nat) ^ 9 = 9223372036854775808 := by decide
theorem p10 : (128 : Nat) ^ 10 = 1180591620717411303424 := by decide
theorem cap_lt {z i : Nat} (h : (z + 1) * 128 ^ i ≤ 18446744073709551616) : i < 10 ∧ (i = 9 → z ≤ 1) := by
  constructor
  · rcases Nat.lt_or_ge i 10 with h1 | h1
    · exact h1
    · have h2 := Nat.pow_le_pow_right (n := 128) (by omega) h1
      have h3 := Nat.mul_le_mul (Nat.succ_le_succ (Nat.zero_le z)) h2
      rw [p10] at h3
      simp only [Nat.succ_eq_add_one] at h3
      omega
  · rintro rfl
    rw [p9] at h
    omega
theorem cap_step {z i : Nat} (h : (z + 1) * 128 ^ i ≤ 18446744073709551616) (hz : 128 ≤ z) : (z / 128 + 1) * 128 ^ (i + 1) ≤ 18446744073709551616 ∨ (z / 128) * 128 ^ (i + 1) ≤ z * 128 ^ i := by
  refine .inr ?_
  rw [Nat.pow_succ, Nat.mul_comm (128 ^ i) 128, ← Nat.mul_assoc]
  exact Nat.mul_le_mul_right _ (by omega)

/-- A bound that is kept group by group. -/
def Cap (z i : Nat) : Prop := z * 128 ^ i < 18446744073709551616
theorem Cap.ten {z i : Nat} (h : Cap z i) (h0 : 0 < i → 0 < z) : i < 10 ∧ (i = 9 → z ≤ 1) := by
  unfold Cap at h
  constructor
  · rcases Nat.lt_or_ge i 10 with h1 | h1
    · exact h1
    · have h2 := Nat.pow_le_pow_right (n := 128) (by omega) h1
      have h3 := Nat.mul_le_mul (h0 (by omega)) h2
      rw [p10] at h3
      omega
  · rintro rfl
    rw [p9] at h
    omega
theorem Cap.step {z i : Nat} (h : Cap z i) : Cap (z / 128) (i + 1) := by
  unfold Cap at *
  refine Nat.lt_of_le_of_lt ?_ h
  rw [Nat.pow_succ, Nat.mul_comm (128 ^ i) 128, ← Nat.mul_assoc]
  exact Nat.mul_le_mul_right _ (by omega)
theorem decG_enc : ∀ (z i : Nat) (rest : List UInt8), Cap z i → (0 < i → 0 < z) → decG i (enc z ++ rest) = some (z, (enc z).length) := by
  intro z
  induction z using Nat.strongRecOn with
  | _ z ih =>
    intro i rest hc h0
    obtain ⟨h10, h9⟩ := hc.ten h0
    by_cases hz : z < 128
    · have hb : (UInt8.ofNat z).toNat = z := u8_of (by omega)
      rw [enc_small hz, List.singleton_append, decG, if_neg (by omega), if_neg (by rw [hb]; omega), if_neg (by rw [hb]; omega), if_neg (by rw [hb]; omega), hb]
      rfl
    · have hb : (UInt8.ofNat (z % 128 + 128)).toNat = z % 128 + 128 := u8_of (by omega)
      rw [enc_big (by omega), List.cons_append, decG, if_neg (by omega), if_neg (by rintro ⟨h, _⟩; have := h9 h; omega), if_pos (by rw [hb]; omega), ih (z / 128) (by omega) (i + 1) rest hc.step (by omega), hb]
      simp only [Option.map_some, Option.some.injEq, Prod.mk.injEq, List.length_cons, and_true]
      omega
theorem unf_fold (n : Int) : unf (fold n) = n := by
  unfold unf fold
  split <;> split <;> omega
theorem fold_unf (z : Nat) : fold (unf z) = z := by
  unfold unf fold
  split <;> split <;> omega
theorem decN_numB (n : Int) (rest : List UInt8) (h1 : -9223372036854775808 ≤ n) (h2 : n ≤ 9223372036854775807) : decN (numB n ++ rest) = (n, (numB n).length) := by
  have := fold_lt h1 h2
  unfold decN numB
  rw [decG_enc (fold n) 0 rest (by unfold Cap; simp; omega) (by omega)]
  simp [unf_fold]
theorem decG_some : ∀ (l : List UInt8) (i z u : Nat), decG i l = some (z, u) → l.take u = enc z ∧ 0 < u ∧ u ≤ l.length ∧ (z + 1) * 128 ^ i ≤ 18446744073709551616 ∧ (0 < i → 0 < z) := by
  intro l
  induction l with
  | nil => intro i z u h; cases h
  | cons b rest ih =>
    intro i z u h
    rw [decG] at h
    by_cases c1 : 10 ≤ i
    · rw [if_pos c1] at h; cases h
    rw [if_neg c1] at h
    by_cases c2 : i = 9 ∧ 1 < b.toNat
    · rw [if_pos c2] at h; cases h
    rw [if_neg c2] at h
    by_cases c3 : 128 ≤ b.toNat
    · rw [if_pos c3] at h
      cases hd : decG (i + 1) rest with
      | none => rw [hd] at h; cases h
      | some r =>
        obtain ⟨z', u'⟩ := r
        rw [hd] at h
        simp only [Option.map_some, Option.some.injEq, Prod.mk.injEq] at h
        obtain ⟨rfl, rfl⟩ := h
        obtain ⟨e1, e2, e3, e4, e5⟩ := ih (i + 1) z' u' hd
        have hz' := e5 (by omega)
        have hbl := b.toNat_lt
        refine ⟨?_, by omega, by simp; omega, ?_, by omega⟩
        · rw [enc_big (by omega), List.take_succ_cons, e1]
          congr 1
          · apply UInt8.toNat_inj.1
            rw [u8_of (by omega)]
            omega
          · congr 1
            omega
        · refine Nat.le_trans ?_ e4
          rw [Nat.pow_succ, Nat.mul_comm (128 ^ i) 128, ← Nat.mul_assoc]
          exact Nat.mul_le_mul_right _ (by omega)
    · rw [if_neg c3] at h
      by_cases c4 : b.toNat = 0 ∧ 0 < i
      · rw [if_pos c4] at h; cases h
      rw [if_neg c4] at h
      simp only [Option.some.injEq, Prod.mk.injEq] at h
      obtain ⟨rfl, rfl⟩ := h
      refine ⟨?_, by omega, by simp, ?_, by omega⟩
      · rw [enc_small (by omega)]
        simp
      · by_cases c9 : i = 9
        · subst c9
          rw [p9]
          omega
        · have hp8 : 128 ^ i ≤ 72057594037927936 := by
            have e : (128 : Nat) ^ 8 = 72057594037927936 := by decide
            rw [← e]
            exact Nat.pow_le_pow_right (by omega) (by omega)
          have : (b.toNat + 1) * 128 ^ i ≤ 128 * 72057594037927936 := Nat.mul_le_mul (by omega) hp8
          omega
/-- A number that is read is the number whose bytes stand there. -/
theorem decN_some {l : List UInt8} {n : Int} {u : Nat} (h : decN l = (n, u)) (hu : 0 < u) : l.take u = numB n ∧ u ≤ l.length ∧ -9223372036854775808 ≤ n ∧ n ≤ 9223372036854775807 := by
  unfold decN at h
  cases hd : decG 0 l with
  | none => rw [hd] at h; simp at h; omega
  | some r =>
    obtain ⟨z, u'⟩ := r
    rw [hd] at h
    simp only [Prod.mk.injEq] at h
    obtain ⟨rfl, rfl⟩ := h
    obtain ⟨e1, e2, e3, e4, e5⟩ := decG_some l 0 z u' hd
    simp at e4
    refine ⟨?_, e3, ?_, ?_⟩
    · unfold numB; rw [fold_unf, e1]
    · unfold unf; split <;> omega
    · unfold unf; split <;> omega
theorem decN_le {l : List UInt8} {n : Int} {u : Nat} (h : decN l = (n, u)) : u ≤ l.length := by
  rcases Nat.eq_zero_or_pos u with h0 | h0
  · omega
  · exact (decN_some h h0).2.1
theorem decN_zero {l : List UInt8} {n : Int} (h : decN l = (n, 0)) : n = 0 := by
  unfold decN at h
  cases hd : decG 0 l with
  | none => rw [hd] at h; simp at h; omega
  | some r =>
    obtain ⟨z, u'⟩ := r
    rw [hd] at h
    simp only [Prod.mk.injEq] at h
    obtain ⟨rfl, rfl⟩ := h
    have := (decG_some l 0 z _ hd).2.1
    omega

theorem bs_drop (a b : List UInt8) : (bs (a ++ b)).extract a.length (bs (a ++ b)).size = bs b := by
  rw [bs_extract, bs_size, List.take_of_length_le (Nat.le_refl _), List.drop_left]
end Go.Proofs.YtencpplopdogmaaDoor
