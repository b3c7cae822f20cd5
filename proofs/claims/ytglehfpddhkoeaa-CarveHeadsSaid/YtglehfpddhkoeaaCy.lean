/- The laws of carve: the document's Join and Fits, the bound, awake. -/
import Derived.Test.YtglehfpddhkoeaaCx
namespace Go.Proofs.Ytglehfpddhkoeaa
open Go.RowKit
set_option linter.unusedVariables false

/-! What chunks are. -/
theorem chunks_cons {a l : List UInt8} (h : a.length = 64) (k : Nat) : chunks (a ++ l) (k + 1) = bs a :: chunks l k := by
  unfold chunks
  rw [List.range_succ_eq_map, List.map_cons, List.map_map]
  congr 1
  · unfold chk
    rw [Nat.mul_zero, List.drop_zero, List.take_append_of_le_length (by omega), List.take_of_length_le (by omega)]
  · apply List.map_congr_left
    intro j _
    simp only [Function.comp]
    unfold chk
    rw [show 64 * (j + 1) = a.length + 64 * j by omega, List.drop_append, List.drop_eq_nil_of_le (by omega), List.nil_append, Nat.add_sub_cancel_left]
theorem fit_tail {s : ByteArray} {ss : List ByteArray} (h : Fit (s :: ss)) : Fit ss := fun i z hz => by
  have := h (i + 1) z (by simpa using hz)
  refine ⟨this.1, this.2.1, fun hi => this.2.2 (by simp; omega)⟩
theorem fit_chunks : ∀ (ss : List ByteArray), Fit ss → chunks (flat ss) (cnt (flat ss).length) = ss := by
  intro ss
  induction ss with
  | nil => intro _; rfl
  | cons s ss ih =>
    intro h
    have h0 := h 0 s rfl
    have hd : s.data.toList.length = s.size := by simp
    have hi := ih (fit_tail h)
    rw [flat_cons]
    cases ss with
    | nil =>
      have e : cnt (s.data.toList ++ flat []).length = 1 := by simp [flat]; unfold cnt; omega
      rw [e]
      unfold chunks chk
      simp [flat, List.range_succ]
      rw [List.take_of_length_le (by omega), bs_of]
    | cons t ts =>
      have h64 : s.size = 64 := by have := h0.2.2 (by simp); omega
      have e : cnt (s.data.toList ++ flat (t :: ts)).length = cnt (flat (t :: ts)).length + 1 := by rw [List.length_append]; unfold cnt; omega
      rw [e, chunks_cons (by omega), hi, bs_of]
theorem chunks_fit (l : List UInt8) : Fit (chunks l (cnt l.length)) := fun i z hz => by
  have hi := (List.getElem?_eq_some_iff.1 hz).1
  rw [chunks_length] at hi
  have e : z = bs (chk l i) := by
    unfold chunks at hz
    rw [List.getElem?_map, List.getElem?_range hi] at hz
    injection hz with hz
    exact hz.symm
  have hs : z.size = min 64 (l.length - 64 * i) := by rw [e, bs_size]; unfold chk; rw [List.length_take, List.length_drop]
  rw [chunks_length]
  unfold cnt at *
  omega
theorem chunks_flat (l : List UInt8) : flat (chunks l (cnt l.length)) = l := by
  have key : ∀ k, flat (chunks l k) = l.take (64 * k) := by
    intro k
    induction k with
    | zero => rfl
    | succ k ih =>
      rw [chunks_succ]
      have : flat (chunks l k ++ [bs (chk l k)]) = flat (chunks l k) ++ chk l k := by simp [flat, bs_list]
      rw [this, ih]
      unfold chk
      rw [show 64 * (k + 1) = 64 * k + 64 by omega, List.take_add]
  rw [key, List.take_of_length_le (by unfold cnt; omega)]
theorem fit_iff (ss : List ByteArray) : Fit ss ↔ chunks (flat ss) (cnt (flat ss).length) = ss := ⟨fit_chunks ss, fun h => by rw [← h]; exact chunks_fit _⟩

/-! The document's Join and Fits. -/
set_option maxRecDepth 100000 in
set_option maxHeartbeats 1000000 in
theorem rjoin_any (A : Option Addr) (n c : Nat) (ss : List ByteArray) (w : World) (hL : Ls w A n (ss.map Value.string)) (hn : n ≤ 1000000) (hlen : (flat ss).length ≤ 1000000000) :
    Calls Try.prog 20 #[.slice A n c] w fun e w' => e = .returned (.string (bs (flat ss))) ∧ Kp [] w w' := by
  have h1 : ss.length = n := by simpa using hL.1
  have H1 := Lib.hid h1
  clear h1
  obtain ⟨r, hr⟩ : ∃ r, flat ss = r := ⟨_, rfl⟩
  have HR := Lib.hid hr
  have hle : ∀ k, (flat (ss.take k)).length ≤ 1000000000 := fun k => by
    have : flat ss = flat (ss.take k) ++ flat (ss.drop k) := by unfold flat; rw [← List.flatMap_append, List.take_append_drop]
    rw [this, List.length_append] at hlen
    omega
  have HLE := Lib.hid hle
  rw [hr]
  clear hle hlen hr
  obtain ⟨i0, hi0, hz0, hz1, hz2⟩ := info_parts info_u8
  go_enter Try.func20, Try.ntmps20
  go_wp2_with fail
  go_loopg [3, 4] n (fun gk v iv wr => ∃ k : Nat, n - k ≤ gk ∧ iv = .int .i64 k ∧ k ≤ n ∧ wr.ownsRow w.heap.size 5 1 v (flat (ss.take k)).length (Lib.byteCells (flat (ss.take k))) ∧ Below w.heap.size w wr)
  case atStart => exact ⟨0, by omega, rfl, by omega, own_empty _ _, (Below.refl _ _).alloc (Nat.le_refl _) _⟩
  case round =>
    obtain ⟨k, hgk, rfl, hk, hown, hbel⟩ := hrel
    have hsz := hbel.size
    have hkl := HLE.out k
    by_cases hlt : k < n
    · obtain ⟨ad, z, rfl, hzk, hc⟩ := (hL.kp (Kp.of_below hbel) (by simp)).str_at hlt
      have hst : flat (ss.take (k + 1)) = flat (ss.take k) ++ z.data.toList := flat_succ hzk
      have hzl : (flat (ss.take k)).length + z.size ≤ 1000000000 := by
        have := HLE.out (k + 1)
        rw [hst, List.length_append] at this
        simpa using this
      have HST := Lib.hid hst
      have h63 : (flat (ss.take k)).length + z.size ≤ maxLen := by unfold maxLen; omega
      have hby : (flat (ss.take k)).length + z.size ≤ 140737488355328 := by omega
      have hlz : z.data.toList.length = z.size := by simp
      clear hst hzk
      generalize flat (ss.take k) = l at *
      go_wp2_with (at_builtin; go_must (refine Lib.wpList_append_own_string wr rfl _ _ 49 9 rfl w.heap.size 5 i0 Try.underlying49 Try.underlying9 hi0 hz0 hz1 hz2 _ l.length (Lib.byteCells l) rfl hown z rfl h63 hby hsz ?_); intro v6 w6 hown6 hg6 hat6)
      have hb6 : Below w.heap.size w w6 := hbel.grown hg6 hsz fun g hg => (own_block_lt hown hg).1
      have ho6 : w6.ownsRow w.heap.size 5 1 v6 (l ++ z.data.toList).length (Lib.byteCells (l ++ z.data.toList)) := by rw [Lib.byteCells_append, List.length_append, hlz]; exact hown6
      have HO := Lib.hid ho6
      clear hown hown6 hg6 hat6 ho6 hlz
      go_wp2_with fail
      go_roundg (n - (k + 1))
      case measure => omega
      case rel => exact ⟨k + 1, by omega, by go_num, by omega, by rw [HST.out]; exact HO.out, hb6⟩
    · have hkn : ss.take k = ss := List.take_of_length_le (by have := H1.out; omega)
      rw [hkn, HR.out] at hown
      have hcv : (convert 49 9 _).run Try.prog wr = .ok (.string ⟨r.toArray⟩) wr := conv_bytes hown
      clear hkn
      go_wp2_with fail
      go_ret
      exact ⟨rfl, Kp.of_below hbel⟩
theorem rjoin_to (A : Option Addr) (n c : Nat) (ss : List ByteArray) (r : ByteArray) (w : World) (hr : bs (flat ss) = r) (hL : Ls w A n (ss.map Value.string)) (hn : n ≤ 1000000) (hlen : (flat ss).length ≤ 1000000000) :
    Calls Try.prog 20 #[.slice A n c] w fun e w' => e = .returned (.string r) ∧ Kp [] w w' := by
  rw [← hr]
  exact rjoin_any A n c ss w hL hn hlen
end Go.Proofs.Ytglehfpddhkoeaa
