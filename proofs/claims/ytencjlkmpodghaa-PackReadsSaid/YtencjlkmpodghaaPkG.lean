/- The document's own bytes of many numbers and texts; the length that is played; PackNums, PackTexts, PackJoins. -/
import Derived.Test.YtencjlkmpodghaaPkF
import Derived.Test.YtencjlkmpodghaaPkW
namespace Go.Proofs.Ytencjlkmpodghaa
set_option maxRecDepth 100000
open Go.RowKit
set_option linter.unusedVariables false

/-- The step of appending a string to a slice of bytes of the call's own. -/
theorem wpl_bstr {ops : Array Oper} {rest : List Oper} {o : Oper} {a : Act} {Q : Exit → Act → World → Prop} (w0 : World) (base : Nat) (hgd : o.guard = none) (s x : Operand)
    (ho : o.op = .call { callee := .builtin .append, args := #[s, x], argTypes := #[31, 9] }) (v : Value) (l : List UInt8) (t : ByteArray) (hown : OwnB base w0 v l)
    (hs : a.eval s = v) (hx : a.eval x = .string t) (hb : base ≤ w0.heap.size) (hl : l.length + t.size ≤ 1099511627776)
    (h : ∀ v' w', OwnB base w' v' (l ++ t.data.toList) → Below base w0 w' → wpList Try.prog ops Q rest (a.put o.dst v') w') :
    wpList Try.prog ops Q (o :: rest) a w0 := by
  obtain ⟨i0, hi, hz, hz1, hz2⟩ := info_parts info_u8
  refine Lib.wpList_append_own_string w0 hgd s x 31 9 ho base 5 i0 Try.underlying31 Try.underlying9 hi hz hz1 hz2 v l.length (Lib.byteCells l) hs hown t hx (by unfold maxLen; omega) (by omega) hb ?_
  intro v' w' hown' hg _
  refine h v' w' ?_ ((Below.refl _ _).grown hg hb fun k hk => (own_block_lt hown hk).1)
  have hlen : (l ++ t.data.toList).length = l.length + t.size := by simp
  unfold OwnB
  rw [Lib.byteCells_append, hlen]
  exact hown'

set_option maxRecDepth 100000 in
set_option maxHeartbeats 1000000 in
theorem rnums_to (A : Option Addr) (n c : Nat) (zs : List Int) (b : ByteArray) (w : World) (hb : ByteArray.mk (zs.flatMap numB).toArray = b) (hL : Ls w A n (zs.map (Value.int .i64))) (hwf : ∀ z ∈ zs, (Lit.int .i64 z).wf = true) (hn : n ≤ 20000) :
    Calls Try.prog 17 #[.slice A n c] w fun e w' => e = .returned (.string b) ∧ Kp [] w w' := by
  have hlen : zs.length = n := by simpa using hL.1
  have HL := Lib.hid hlen
  clear hlen
  have HB := Lib.hid hb
  clear hb
  go_enter Try.func17, Try.ntmps17
  go_wp2_with fail
  go_loopg [3, 4] n (fun gk v i wr => ∃ k : Nat, n - k ≤ gk ∧ i = .int .i64 k ∧ k ≤ n ∧ OwnB w.heap.size wr v ((zs.take k).flatMap numB) ∧ Below w.heap.size w wr ∧ w.heap.size ≤ wr.heap.size)
  case atStart => exact ⟨0, by omega, rfl, Nat.zero_le _, own_empty w _, (Below.refl _ _).alloc (Nat.le_refl _) _, by simp⟩
  case round =>
    obtain ⟨k, hgk, rfl, hk, hown, hbel, hsz⟩ := hrel
    by_cases hlt : k < n
    · obtain ⟨ad, u, rfl, _, hu, hc⟩ := (hL.kp (Kp.of_below hbel) (by simp)).at_ hlt
      have hl : k < zs.length := by have := HL.out; omega
      rw [List.getElem?_map, List.getElem?_eq_getElem hl] at hu
      obtain ⟨z, hz⟩ : ∃ z, zs[k] = z := ⟨_, rfl⟩
      rw [hz] at hu
      obtain rfl : Value.int .i64 z = u := by simpa using hu
      have hbd := bd_i64 (hwf z (by rw [← hz]; exact List.getElem_mem hl))
      have hst : (zs.take (k + 1)).flatMap numB = (zs.take k).flatMap numB ++ numB z := by
        rw [List.take_add_one, List.getElem?_eq_getElem hl, hz]; simp
      have hln : ((zs.take k).flatMap numB).length ≤ 1000000000 := by
        have h5 := flat_len (zs.take k) fun z hz => hwf z (List.mem_of_mem_take hz)
        have h6 : (zs.take k).length ≤ k := List.length_take_le _ _
        omega
      have HST := Lib.hid hst
      clear hst hu hz hl
      generalize (zs.take k).flatMap numB = l at *
      go_wp2_with fail
      refine (rnum_any z _ hbd.1 hbd.2).mono ?_
      rintro e w2 ⟨s2, rfl, hs2, hk2⟩
      have hb2 : Below w.heap.size wr w2 := hk2.below hsz (by simp)
      have hown2 := own_kp hown hk2 (by simp)
      have hsz2 := hb2.size
      have hle2 : w.heap.size ≤ w2.heap.size := by omega
      have hl2 : l.length + s2.size ≤ 1099511627776 := by (have hx2 := (numB_len hbd.1 hbd.2).2; rw [← hs2] at hx2; simp at hx2; omega)
      go_wp2_with (first | (at_builtin; go_must (refine wpl_bstr w2 w.heap.size rfl _ _ rfl _ l s2 hown2 rfl rfl hle2 hl2 ?_); intro v3 w3 hown3 hb3))
      go_roundg (n - (k + 1))
      case measure => omega
      case rel =>
        rw [hs2] at hown3
        have hb13 := (hbel.trans hb2).trans hb3
        have := hb13.size
        exact ⟨k + 1, by omega, by go_num, by omega, by rw [HST.out]; exact hown3, hb13, by omega⟩
    · have hkn : zs.take k = zs := List.take_of_length_le (by have := HL.out; omega)
      rw [hkn] at hown
      have hcv := conv_own hown
      rw [HB.out] at hcv
      clear hkn
      go_wp2_with fail
      go_ret
      exact ⟨rfl, Kp.of_below hbel⟩

set_option maxRecDepth 100000 in
set_option maxHeartbeats 1000000 in
theorem rtexts_to (A : Option Addr) (n c : Nat) (ss : List ByteArray) (b : ByteArray) (w : World) (hb : ByteArray.mk (texts ss).toArray = b) (hL : Ls w A n (ss.map Value.string)) (hn : n ≤ 100000) (htot : (texts ss).length ≤ 1000000000) :
    Calls Try.prog 20 #[.slice A n c] w fun e w' => e = .returned (.string b) ∧ Kp [] w w' := by
  have hlen : ss.length = n := by simpa using hL.1
  have HL := Lib.hid hlen
  clear hlen
  have HB := Lib.hid hb
  have HTOT := Lib.hid htot
  clear hb htot
  go_enter Try.func20, Try.ntmps20
  go_wp2_with fail
  go_loopg [3, 4] n (fun gk v i wr => ∃ k : Nat, n - k ≤ gk ∧ i = .int .i64 k ∧ k ≤ n ∧ OwnB w.heap.size wr v (texts (ss.take k)) ∧ Below w.heap.size w wr ∧ w.heap.size ≤ wr.heap.size)
  case atStart => exact ⟨0, by omega, rfl, Nat.zero_le _, own_empty w _, (Below.refl _ _).alloc (Nat.le_refl _) _, by simp⟩
  case round =>
    obtain ⟨k, hgk, rfl, hk, hown, hbel, hsz⟩ := hrel
    by_cases hlt : k < n
    · obtain ⟨ad, u, rfl, _, hu, hcw⟩ := hL.at_ hlt
      have hblk : (ad.add k).block < w.heap.size := cell_block_lt hcw
      have hc := ((Kp.of_below hbel).cell hblk (by simp)).trans hcw
      have hl : k < ss.length := by have := HL.out; omega
      rw [List.getElem?_map, List.getElem?_eq_getElem hl] at hu
      obtain ⟨s, hs⟩ : ∃ s, ss[k] = s := ⟨_, rfl⟩
      rw [hs] at hu
      obtain rfl : Value.string s = u := by simpa using hu
      have hst : texts (ss.take (k + 1)) = texts (ss.take k) ++ numB s.size ++ s.data.toList := by
        unfold texts
        rw [List.take_add_one, List.getElem?_eq_getElem hl, hs]; simp
      have hle : (texts (ss.take k)).length + ((numB s.size).length + s.size) ≤ 1000000000 := by
        have h5 : texts ss = texts (ss.take (k + 1)) ++ texts (ss.drop (k + 1)) := by
          unfold texts
          rw [← List.flatMap_append, List.take_append_drop]
        have h6 := HTOT.out
        rw [h5, hst] at h6
        simp only [List.length_append, Array.length_toList, ByteArray.size_data] at h6
        omega
      have HST := Lib.hid hst
      clear hst hu hs hl
      generalize texts (ss.take k) = l at *
      go_wp2_with fail
      refine (rnum_any s.size _ (by omega) (by omega)).mono ?_
      rintro e w2 ⟨s2, rfl, hs2, hk2⟩
      have hb2 : Below w.heap.size wr w2 := hk2.below hsz (by simp)
      have hown2 := own_kp hown hk2 (by simp)
      have hsz2 := hb2.size
      have hle2 : w.heap.size ≤ w2.heap.size := by omega
      have hl2 : l.length + s2.size ≤ 1099511627776 := by (have hx2 := (numB_len (z := s.size) (by omega) (by omega)).2; rw [← hs2] at hx2; simp at hx2; omega)
      have hl3 : (l ++ s2.data.toList).length + s.size ≤ 1099511627776 := by (have hx2 := (numB_len (z := s.size) (by omega) (by omega)).2; rw [← hs2] at hx2; simp at hx2 ⊢; omega)
      go_wp2_with (first | (at_builtin; refine wpl_bstr w2 w.heap.size rfl _ _ rfl _ l s2 hown2 rfl rfl hle2 hl2 ?_; intro v3 w3 hown3 hb3; have hb03 := (hbel.trans hb2).trans hb3; have hle3 : w.heap.size ≤ w3.heap.size := (by have hx3 := hb03.size; omega); have hc3 : w3.cell? (ad.add k) = some (.string s) := ((Kp.of_below hb03).cell hblk (by simp)).trans hcw) | (at_builtin; refine wpl_bstr w3 w.heap.size rfl _ _ rfl _ (l ++ s2.data.toList) s hown3 rfl rfl hle3 hl3 ?_; intro v4 w4 hown4 hb4))
      go_roundg (n - (k + 1))
      case measure => omega
      case rel =>
        rw [hs2] at hown4
        have hb14 := hb03.trans hb4
        have := hb14.size
        exact ⟨k + 1, by omega, by go_num, by omega, by rw [HST.out]; exact hown4, hb14, by omega⟩
    · have hkn : ss.take k = ss := List.take_of_length_le (by have := HL.out; omega)
      rw [hkn] at hown
      have hcv := conv_own hown
      rw [HB.out] at hcv
      clear hkn
      go_wp2_with fail
      go_ret
      exact ⟨rfl, Kp.of_below hbel⟩
end Go.Proofs.Ytencjlkmpodghaa
