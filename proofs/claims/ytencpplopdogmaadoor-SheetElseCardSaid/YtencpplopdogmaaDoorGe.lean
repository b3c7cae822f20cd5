/- Package carve: parts that fit, parts put together; the document's own chunks. · Package carve: parts put together; the document's own ways; what chunks are. · The laws of carve: the document's Join and Fits, the bound, awake. -/
import Derived.Test.YtencpplopdogmaaDoorCv
import Derived.Test.YtencpplopdogmaaDoorSh
import Derived.Lib.AppendStr
import Derived.Deep.DeepMust
import Derived.RegionTactic
import Derived.ChangeAlike
namespace Go.Proofs.YtencpplopdogmaaDoor
set_option maxRecDepth 100000
open Go.RowKit
set_option linter.unusedVariables false

/-- May these be chunks: each one has a byte at least, and 64 at most; just the last one may have less than 64. -/
def FitAt (ss : List ByteArray) (i : Nat) : Prop := ∀ z, ss[i]? = some z → 1 ≤ z.size ∧ z.size ≤ 64 ∧ (i + 1 < ss.length → 64 ≤ z.size)
def Fit (ss : List ByteArray) : Prop := ∀ i, FitAt ss i
def FitSays (ss : List ByteArray) (w : World) (e : Ending) (w' : World) : Prop := ∃ b : Bool, e = .returned (.bool b) ∧ (b = true ↔ Fit ss) ∧ Kp [] w w'
theorem fit_no {ss : List ByteArray} {i : Nat} {z : ByteArray} (h : ss[i]? = some z) (hn : ¬ (1 ≤ z.size ∧ z.size ≤ 64 ∧ (i + 1 < ss.length → 64 ≤ z.size))) : ¬ Fit ss := fun hf => hn (hf i z h)
theorem FitSays.no {ss : List ByteArray} {w w' : World} {e : Ending} (he : e = .returned (.bool false)) (h : ¬ Fit ss) (hk : Kp [] w w') : FitSays ss w e w' := ⟨false, he, ⟨fun h => (by cases h), fun hf => absurd hf h⟩, hk⟩
theorem FitSays.yes {ss : List ByteArray} {w w' : World} {e : Ending} (he : e = .returned (.bool true)) (h : Fit ss) (hk : Kp [] w w') : FitSays ss w e w' := ⟨true, he, ⟨fun _ => h, fun _ => rfl⟩, hk⟩

end Go.Proofs.YtencpplopdogmaaDoor
namespace Go.Proofs.YtencpplopdogmaaDoor
set_option maxRecDepth 100000
open Go.RowKit
set_option linter.unusedVariables false

theorem flat_cons (s : ByteArray) (ss : List ByteArray) : flat (s :: ss) = s.data.toList ++ flat ss := by simp [flat]
theorem lib_join (ss : List ByteArray) : Lib.join (ss.map (·.data.toList)) [] = flat ss := by
  cases ss with
  | nil => rfl
  | cons s ss =>
    rw [List.map_cons, Lib.join_cons, flat_cons]
    congr 1
    unfold Lib.joinTail flat
    rw [List.flatMap_def]
    congr 1
    simp [List.map_map]

set_option maxHeartbeats 1000000 in
theorem join_own (g n c : Nat) (ss : List ByteArray) (w : World) (hL : Ls w (some ⟨g, 0, none⟩) n (ss.map Value.string)) (hnc : n ≤ c) (hn : n ≤ 1000000) (hlen : (flat ss).length ≤ 1000000000) :
    Calls Tryd.prog 29 #[.slice (some ⟨g, 0, none⟩) n c] w fun e w' => e = .returned (.string (bs (flat ss))) ∧ Kp [] w w' := by
  have h1 : ss.length = n := by simpa using hL.1
  by_cases h0 : n = 0
  · subst h0
    obtain rfl : ss = [] := List.eq_nil_of_length_eq_zero h1
    clear hL h1
    go_enter Tryd.func29, Tryd.ntmps29
    go_wp2_with fail
    refine (Tryd.strings_Join_none _ _ _ _).mono ?_
    rintro e w1 ⟨rfl, rfl⟩
    go_wp2_with fail
    go_ret
    exact ⟨rfl, Kp.rfl_ _ _⟩
  · have hbk := hL.off (by omega) _ rfl
    have hcells : ∀ (j : Nat) x, ss[j]? = some x → w.cell? ⟨g, 0 + j, none⟩ = some (.string x) := fun j x hx => by
      obtain ⟨ad, e, _, hc⟩ := hL.2 (by omega)
      injection e with e
      subst e
      have := hc j (.string x) (by rw [List.getElem?_map, hx]; rfl)
      rwa [addr0, ← Nat.zero_add j] at this
    have HC := Lib.hid hcells
    have hj := lib_join ss
    obtain ⟨r, hr⟩ : ∃ r, flat ss = r := ⟨_, rfl⟩
    rw [hr] at hlen hj ⊢
    have hjl : (Lib.join (ss.map (·.data.toList)) (ByteArray.mk #[]).data.toList).length ≤ 140737488355328 := by
      rw [show (ByteArray.mk #[]).data.toList = ([] : List UInt8) from rfl, hj]; omega
    have HJL := Lib.hid hjl
    have HJ := Lib.hid hj
    subst h1
    clear hcells hj hjl hr hL
    go_enter Tryd.func29, Tryd.ntmps29
    go_wp2_with fail
    refine (Tryd.strings_Join g 0 c ss ⟨#[]⟩ _ HC.out hbk (by omega) hnc HJL.out).mono ?_
    rintro e w1 ⟨rfl, hb⟩
    have hj2 : (ByteArray.mk (Lib.join (ss.map (·.data.toList)) (ByteArray.mk #[]).data.toList).toArray) = bs r := by
      rw [show (ByteArray.mk #[]).data.toList = ([] : List UInt8) from rfl, HJ.out]; rfl
    rw [hj2]
    clear hj2
    go_wp2_with fail
    go_ret
    exact ⟨rfl, Kp.of_below hb⟩
set_option maxHeartbeats 1000000 in
theorem join_none (w : World) : Calls Tryd.prog 29 #[.slice none 0 0] w fun e w' => e = .returned (.string (bs (flat []))) ∧ Kp [] w w' := by
  go_enter Tryd.func29, Tryd.ntmps29
  go_wp2_with fail
  refine (Tryd.strings_Join_none _ _ _ _).mono ?_
  rintro e w1 ⟨rfl, rfl⟩
  go_wp2_with fail
  go_ret
  exact ⟨rfl, Kp.rfl_ _ _⟩
theorem join_to (base : Nat) (A : Option Addr) (n c : Nat) (ss : List ByteArray) (r : ByteArray) (w : World) (hr : bs (flat ss) = r) (ho : w.ownsRow base 9 1 (.slice A n c) n (ss.map Value.string)) (hn : n ≤ 1000000) (hlen : (flat ss).length ≤ 1000000000) :
    Calls Tryd.prog 29 #[.slice A n c] w fun e w' => e = .returned (.string r) ∧ Kp [] w w' := by
  rw [← hr]
  rcases own_cases ho with ⟨h1, rfl, hx⟩ | ⟨g, c', h1, h2, _, _, _, hL⟩
  · injection h1 with a b c
    subst a c
    obtain rfl : ss = [] := by simpa using hx
    exact join_none w
  · injection h1 with a b c
    subst a c
    exact join_own g n _ ss w hL h2 hn hlen

/-- The document's chunks on the way: the whole ones, and the one that is begun. -/
def beg (l : List UInt8) (i : Nat) : List UInt8 := (l.take i).drop (64 * (i / 64))
theorem chunks_take {l : List UInt8} {i k : Nat} (h : 64 * k ≤ i) : chunks (l.take i) k = chunks l k := by
  unfold chunks chk
  apply List.map_congr_left
  intro j hj
  have : j < k := by simpa using hj
  rw [List.drop_take, List.take_take]
  congr 2
  omega
theorem beg_len {l : List UInt8} {i : Nat} (h : i ≤ l.length) : (beg l i).length = i % 64 := by
  unfold beg
  rw [List.length_drop, List.length_take]
  omega
theorem beg_end {l : List UInt8} {i : Nat} {b : UInt8} (h : l[i]? = some b) : (l.take (i + 1)).drop (64 * (i / 64)) = beg l i ++ [b] := by
  have hi := (List.getElem?_eq_some_iff.1 h).1
  unfold beg
  rw [List.take_add_one, h, List.drop_append_of_le_length (by rw [List.length_take]; omega)]
  rfl
theorem cnt_start {i : Nat} (h : i % 64 = 0) : cnt i = i / 64 := by unfold cnt; omega
theorem cnt_mid {i : Nat} (h : i % 64 ≠ 0) : cnt i = i / 64 + 1 := by unfold cnt; omega
theorem cnt_next (i : Nat) : cnt (i + 1) = i / 64 + 1 := by unfold cnt; omega
theorem part_mid {l : List UInt8} {i : Nat} (h : i % 64 ≠ 0) (hi : i ≤ l.length) : chunks (l.take i) (i / 64 + 1) = chunks l (i / 64) ++ [bs (beg l i)] := by
  rw [chunks_succ, chunks_take (by omega)]
  congr 3
  unfold chk
  exact List.take_of_length_le (by have := beg_len hi; unfold beg at this; omega)
theorem part_start {l : List UInt8} {i : Nat} (h : i % 64 = 0) (hi : i ≤ l.length) : chunks (l.take i) (i / 64) ++ [ByteArray.mk #[]] = chunks l (i / 64) ++ [bs (beg l i)] := by
  rw [chunks_take (by omega), List.eq_nil_of_length_eq_zero (show (beg l i).length = 0 by rw [beg_len hi, h])]
  rfl
theorem part_next {l : List UInt8} {i : Nat} {b : UInt8} (h : l[i]? = some b) : chunks (l.take (i + 1)) (i / 64 + 1) = chunks l (i / 64) ++ [bs (beg l i ++ [b])] := by
  have hi := (List.getElem?_eq_some_iff.1 h).1
  rw [chunks_succ, chunks_take (by omega)]
  congr 3
  unfold chk
  rw [beg_end h]
  exact List.take_of_length_le (by rw [List.length_append, beg_len (by omega)]; simp; omega)
theorem extract_one {s : ByteArray} {i : Nat} {b : UInt8} (h : s.data.toList[i]? = some b) : s.extract i (i + 1) = bs [b] := by
  have hs : bs s.data.toList = s := bs_of s
  rw [← hs, bs_extract]
  congr 1
  rw [List.take_add_one, h, List.drop_append_of_le_length (by rw [List.length_take]; have := (List.getElem?_eq_some_iff.1 h).1; omega)]
  rw [List.drop_eq_nil_of_le (by rw [List.length_take]; omega)]
  rfl
def CutRel (l : List UInt8) (base m g : Nat) (i : Nat) (w : World) : Prop := ∃ c, w.ownsRow base 9 1 (.slice (some ⟨g, 0, none⟩) m c) m ((chunks l (i / 64) ++ [bs (beg l i)]).map Value.string)
theorem cut_store {l : List UInt8} {base m g c i : Nat} {b : UInt8} {w : World} (h : w.ownsRow base 9 1 (.slice (some ⟨g, 0, none⟩) m c) m ((chunks l (i / 64) ++ [bs (beg l i)]).map Value.string)) (hb : l[i]? = some b) (hm : m = i / 64 + 1) :
    (w.setCell ⟨g, m - 1, none⟩ (.string (bs (beg l i ++ [b])))).ownsRow base 9 1 (.slice (some ⟨g, 0, none⟩) m c) m ((chunks (l.take (i + 1)) m).map Value.string) := by
  have h2 := (World.ownsRow.stored h (m - 1) (.string (bs (beg l i ++ [b])))).1
  rw [hm, part_next hb]
  rw [hm] at h2
  have e : ((chunks l (i / 64) ++ [bs (beg l i)]).map Value.string).set (i / 64 + 1 - 1) (.string (bs (beg l i ++ [b]))) = (chunks l (i / 64) ++ [bs (beg l i ++ [b])]).map Value.string := by
    rw [List.map_append, List.map_append, List.set_append, if_neg (by simp [chunks_length])]
    simp [chunks_length]
  rw [e] at h2
  exact h2
set_option maxRecDepth 100000 in
set_option maxHeartbeats 2000000 in
theorem rcut_any (s : ByteArray) (w : World) (hs : s.size ≤ 1000000000) :
    Calls Tryd.prog 26 #[.string s] w (Cuts s.data.toList (cnt s.size) w) := by
  obtain ⟨l, hl⟩ : ∃ l, s.data.toList = l := ⟨_, rfl⟩
  have hll : l.length = s.size := by rw [← hl]; simp
  rw [hl]
  have HLL := Lib.hid hll
  have HL := Lib.hid hl
  clear hll hl
  go_enter Tryd.func26, Tryd.ntmps26
  go_wp2_with fail
  go_loopg [3, 4] s.size (fun gk v iv wr => ∃ i : Nat, s.size - i ≤ gk ∧ iv = .int .i64 i ∧ i ≤ s.size ∧ wr.ownsRow w.heap.size 9 1 v (cnt i) ((chunks (l.take i) (cnt i)).map Value.string) ∧ Below w.heap.size w wr)
  case atStart => exact ⟨0, by omega, rfl, by omega, own_none _ _ _, Below.refl _ _⟩
  case round =>
    obtain ⟨i, hgk, rfl, hi, hown, hbel⟩ := hrel
    have hsz := hbel.size
    by_cases hlt : i < s.size
    · obtain ⟨b, hb, hbl⟩ := byte_at hlt
      have hex := extract_one hbl
      rw [HL.out] at hbl
      have hil : i ≤ l.length := by rw [HLL.out]; exact hi
      have HBL := Lib.hid hbl
      obtain ⟨m, hm⟩ : ∃ m, i / 64 + 1 = m := ⟨_, rfl⟩
      have HM := Lib.hid hm
      have hm1 : 1 ≤ m := by omega
      have hmx : m ≤ 1099511627776 := by omega
      obtain ⟨y, hy⟩ : ∃ y, bs [b] = y := ⟨_, rfl⟩
      have hxx : bs (beg l i) ++ y = bs (beg l i ++ [b]) := by rw [← hy, bs_append]
      have hys : y.size = 1 := by rw [← hy]; rfl
      have hzs : (bs (beg l i)).size ≤ 64 := by rw [bs_size, beg_len hil]; omega
      rw [hy] at hex
      have HXX := Lib.hid hxx
      have hys1 : y.size ≤ 1 := by omega
      have HEX := Lib.hid hex
      clear hxx hy hys hex
      have hcell : ∀ (w' : World) (g c : Nat), w'.ownsRow w.heap.size 9 1 (.slice (some ⟨g, 0, none⟩) m c) m ((chunks l (i / 64) ++ [bs (beg l i)]).map Value.string) → w'.cell? ⟨g, m - 1, none⟩ = some (.string (bs (beg l i))) := fun w' g c h => by
        have h2 := (Ls.of_own h).2 (by omega)
        obtain ⟨ad, e, _, hc⟩ := h2
        injection e with e
        subst e
        have := hc (m - 1) (.string (bs (beg l i))) (by
          rw [← HM.out, List.getElem?_map, List.getElem?_append_right (by rw [chunks_length]; omega), chunks_length]
          simp)
        rwa [addr0] at this
      have HC := Lib.hid hcell
      clear hcell
      by_cases h64 : i % 64 = 0
      · have h64b : ((i : Int) % 64 == 0) = true := by rw [beq_iff_eq]; omega
        have hk9 : cnt i ≤ 1099511627776 := by unfold cnt; omega
        rw [cnt_start h64] at hown hk9
        go_wp2_with (at_builtin; go_must (refine wpl_one_str wr w.heap.size rfl _ _ rfl _ (i / 64) _ ⟨#[]⟩ hown rfl rfl hsz hk9 ?_); intro v2 w2 hown2 hbel2 hne2)
        have hmap : ((chunks (l.take i) (i / 64)).map Value.string ++ [Value.string (ByteArray.mk #[])]) = (chunks l (i / 64) ++ [bs (beg l i)]).map Value.string := by rw [← part_start h64 hil, List.map_append]; rfl
        rw [hmap, hm] at hown2
        have hbel3 := hbel.trans hbel2
        clear hown hbel2 hne2 hmap hbel h64b hk9 hm hbl
        rcases own_cases hown2 with ⟨_, h0, _⟩ | ⟨g, c, rfl, hmc, hcm, hbg, hlg, hLg⟩
        · omega
        have hc := HC.out _ _ _ hown2
        have hf : w2.frozen? ⟨g, m - 1, none⟩ = false := World.ownsRow.frozenAt hown2 _
        have hst := cut_store hown2 HBL.out HM.out.symm
        rw [← HXX.out] at hst
        have hex := HEX.out
        clear hown2 hLg
        generalize bs (beg l i) = z at *
        have hb3 := hbel3.setCell (p := ⟨g, m - 1, none⟩) hbg (.string (z ++ y))
        go_region
        have hst2 : (w2.setCell ⟨g, m - 1, none⟩ (.string (z ++ y))).drew.ownsRow w.heap.size 9 1 (.slice (some ⟨g, 0, none⟩) m c) m ((chunks (l.take (i + 1)) m).map Value.string) := hst
        have hb4 := hb3.drew
        have HST := Lib.hid hst2
        clear hst hst2 hb3 hex hc hf
        generalize (w2.setCell ⟨g, m - 1, none⟩ (.string (z ++ y))).drew = wq at *
        go_wp2_with fail
        go_roundg (s.size - (i + 1))
        case measure => omega
        case rel => exact ⟨i + 1, by omega, by go_num, by omega, by rw [cnt_next, HM.out]; exact HST.out, hb4⟩
      · have h64b : ((i : Int) % 64 == 0) = false := by rw [beq_eq_false_iff_ne]; omega
        rw [cnt_mid h64, part_mid h64 hil, hm] at hown
        clear hm hbl
        rcases own_cases hown with ⟨_, h0, _⟩ | ⟨g, c, rfl, hmc, hcm, hbg, hlg, hLg⟩
        · omega
        have hc := HC.out _ _ _ hown
        have hf : wr.frozen? ⟨g, m - 1, none⟩ = false := World.ownsRow.frozenAt hown _
        have hst := cut_store hown HBL.out HM.out.symm
        rw [← HXX.out] at hst
        have hex := HEX.out
        clear hown hLg
        generalize bs (beg l i) = z at *
        have hb3 := hbel.setCell (p := ⟨g, m - 1, none⟩) hbg (.string (z ++ y))
        go_wp2_with fail
        go_region
        have hst2 : (wr.setCell ⟨g, m - 1, none⟩ (.string (z ++ y))).drew.ownsRow w.heap.size 9 1 (.slice (some ⟨g, 0, none⟩) m c) m ((chunks (l.take (i + 1)) m).map Value.string) := hst
        have hb4 := hb3.drew
        have HST := Lib.hid hst2
        clear hst hst2 hb3 hex hc hf
        generalize (wr.setCell ⟨g, m - 1, none⟩ (.string (z ++ y))).drew = wq at *
        go_wp2_with fail
        go_roundg (s.size - (i + 1))
        case measure => omega
        case rel => exact ⟨i + 1, by omega, by go_num, by omega, by rw [cnt_next, HM.out]; exact HST.out, hb4⟩
    · obtain rfl : i = s.size := by omega
      rw [List.take_of_length_le (by rw [HLL.out]; exact Nat.le_refl _)] at hown
      go_wp2_with fail
      go_ret
      exact ⟨_, rfl, hown, Kp.of_below hbel⟩
end Go.Proofs.YtencpplopdogmaaDoor
namespace Go.Proofs.YtencpplopdogmaaDoor
set_option maxRecDepth 100000
open Go.RowKit
set_option linter.unusedVariables false

/-! What chunks are. -/
theorem chunks_cons {a l : List UInt8} (h : a.length = 64) (k : Nat) : chunks (a ++ l) (k + 1) = bs a :: chunks l k := by
  unfold chunks
  rw [List.range_succ_eq_map, List.map_cons, List.map_map]
  congr 1
  · unfold chk
    rw [Nat.mul_zero, List.drop_zero, List.take_append_of_le_length (by omega), List.take_of_length_le (by omega)]
  · apply List.map_congr_left
    intro j _
    simp only [Function.comp]
    unfold chk
    rw [show 64 * (j + 1) = a.length + 64 * j by omega, List.drop_append, List.drop_eq_nil_of_le (by omega), List.nil_append, Nat.add_sub_cancel_left]
theorem fit_tail {s : ByteArray} {ss : List ByteArray} (h : Fit (s :: ss)) : Fit ss := fun i z hz => by
  have := h (i + 1) z (by simpa using hz)
  refine ⟨this.1, this.2.1, fun hi => this.2.2 (by simp; omega)⟩
theorem fit_chunks : ∀ (ss : List ByteArray), Fit ss → chunks (flat ss) (cnt (flat ss).length) = ss := by
  intro ss
  induction ss with
  | nil => intro _; rfl
  | cons s ss ih =>
    intro h
    have h0 := h 0 s rfl
    have hd : s.data.toList.length = s.size := by simp
    have hi := ih (fit_tail h)
    rw [flat_cons]
    cases ss with
    | nil =>
      have e : cnt (s.data.toList ++ flat []).length = 1 := by simp [flat]; unfold cnt; omega
      rw [e]
      unfold chunks chk
      simp [flat, List.range_succ]
      rw [List.take_of_length_le (by omega), bs_of]
    | cons t ts =>
      have h64 : s.size = 64 := by have := h0.2.2 (by simp); omega
      have e : cnt (s.data.toList ++ flat (t :: ts)).length = cnt (flat (t :: ts)).length + 1 := by rw [List.length_append]; unfold cnt; omega
      rw [e, chunks_cons (by omega), hi, bs_of]
theorem chunks_fit (l : List UInt8) : Fit (chunks l (cnt l.length)) := fun i z hz => by
  have hi := (List.getElem?_eq_some_iff.1 hz).1
  rw [chunks_length] at hi
  have e : z = bs (chk l i) := by
    unfold chunks at hz
    rw [List.getElem?_map, List.getElem?_range hi] at hz
    injection hz with hz
    exact hz.symm
  have hs : z.size = min 64 (l.length - 64 * i) := by rw [e, bs_size]; unfold chk; rw [List.length_take, List.length_drop]
  rw [chunks_length]
  unfold cnt at *
  omega
theorem chunks_flat (l : List UInt8) : flat (chunks l (cnt l.length)) = l := by
  have key : ∀ k, flat (chunks l k) = l.take (64 * k) := by
    intro k
    induction k with
    | zero => rfl
    | succ k ih =>
      rw [chunks_succ]
      have : flat (chunks l k ++ [bs (chk l k)]) = flat (chunks l k) ++ chk l k := by simp [flat, bs_list]
      rw [this, ih]
      unfold chk
      rw [show 64 * (k + 1) = 64 * k + 64 by omega, List.take_add]
  rw [key, List.take_of_length_le (by unfold cnt; omega)]
theorem fit_iff (ss : List ByteArray) : Fit ss ↔ chunks (flat ss) (cnt (flat ss).length) = ss := ⟨fit_chunks ss, fun h => by rw [← h]; exact chunks_fit _⟩

/-! The document's Join and Fits. -/
set_option maxRecDepth 100000 in
set_option maxHeartbeats 1000000 in
theorem rjoin_any (A : Option Addr) (n c : Nat) (ss : List ByteArray) (w : World) (hL : Ls w A n (ss.map Value.string)) (hn : n ≤ 1000000) (hlen : (flat ss).length ≤ 1000000000) :
    Calls Tryd.prog 30 #[.slice A n c] w fun e w' => e = .returned (.string (bs (flat ss))) ∧ Kp [] w w' := by
  have h1 : ss.length = n := by simpa using hL.1
  have H1 := Lib.hid h1
  clear h1
  obtain ⟨r, hr⟩ : ∃ r, flat ss = r := ⟨_, rfl⟩
  have HR := Lib.hid hr
  have hle : ∀ k, (flat (ss.take k)).length ≤ 1000000000 := fun k => by
    have : flat ss = flat (ss.take k) ++ flat (ss.drop k) := by unfold flat; rw [← List.flatMap_append, List.take_append_drop]
    rw [this, List.length_append] at hlen
    omega
  have HLE := Lib.hid hle
  rw [hr]
  clear hle hlen hr
  obtain ⟨i0, hi0, hz0, hz1, hz2⟩ := info_parts info_u8
  go_enter Tryd.func30, Tryd.ntmps30
  go_wp2_with fail
  go_loopg [3, 4] n (fun gk v iv wr => ∃ k : Nat, n - k ≤ gk ∧ iv = .int .i64 k ∧ k ≤ n ∧ wr.ownsRow w.heap.size 5 1 v (flat (ss.take k)).length (Lib.byteCells (flat (ss.take k))) ∧ Below w.heap.size w wr)
  case atStart => exact ⟨0, by omega, rfl, by omega, own_empty _ _, (Below.refl _ _).alloc (Nat.le_refl _) _⟩
  case round =>
    obtain ⟨k, hgk, rfl, hk, hown, hbel⟩ := hrel
    have hsz := hbel.size
    have hkl := HLE.out k
    by_cases hlt : k < n
    · obtain ⟨ad, z, rfl, hzk, hc⟩ := (hL.kp (Kp.of_below hbel) (by simp)).str_at hlt
      have hst : flat (ss.take (k + 1)) = flat (ss.take k) ++ z.data.toList := flat_succ hzk
      have hzl : (flat (ss.take k)).length + z.size ≤ 1000000000 := by
        have := HLE.out (k + 1)
        rw [hst, List.length_append] at this
        simpa using this
      have HST := Lib.hid hst
      have h63 : (flat (ss.take k)).length + z.size ≤ maxLen := by unfold maxLen; omega
      have hby : (flat (ss.take k)).length + z.size ≤ 140737488355328 := by omega
      have hlz : z.data.toList.length = z.size := by simp
      clear hst hzk
      generalize flat (ss.take k) = l at *
      go_wp2_with (at_builtin; go_must (refine Lib.wpList_append_own_string wr rfl _ _ 47 9 rfl w.heap.size 5 i0 Tryd.underlying47 Tryd.underlying9 hi0 hz0 hz1 hz2 _ l.length (Lib.byteCells l) rfl hown z rfl h63 hby hsz ?_); intro v6 w6 hown6 hg6 hat6)
      have hb6 : Below w.heap.size w w6 := hbel.grown hg6 hsz fun g hg => (own_block_lt hown hg).1
      have ho6 : w6.ownsRow w.heap.size 5 1 v6 (l ++ z.data.toList).length (Lib.byteCells (l ++ z.data.toList)) := by rw [Lib.byteCells_append, List.length_append, hlz]; exact hown6
      have HO := Lib.hid ho6
      clear hown hown6 hg6 hat6 ho6 hlz
      go_wp2_with fail
      go_roundg (n - (k + 1))
      case measure => omega
      case rel => exact ⟨k + 1, by omega, by go_num, by omega, by rw [HST.out]; exact HO.out, hb6⟩
    · have hkn : ss.take k = ss := List.take_of_length_le (by have := H1.out; omega)
      rw [hkn, HR.out] at hown
      have hcv : (convert 47 9 _).run Tryd.prog wr = .ok (.string ⟨r.toArray⟩) wr := conv_bytes hown
      clear hkn
      go_wp2_with fail
      go_ret
      exact ⟨rfl, Kp.of_below hbel⟩
theorem rjoin_to (A : Option Addr) (n c : Nat) (ss : List ByteArray) (r : ByteArray) (w : World) (hr : bs (flat ss) = r) (hL : Ls w A n (ss.map Value.string)) (hn : n ≤ 1000000) (hlen : (flat ss).length ≤ 1000000000) :
    Calls Tryd.prog 30 #[.slice A n c] w fun e w' => e = .returned (.string r) ∧ Kp [] w w' := by
  rw [← hr]
  exact rjoin_any A n c ss w hL hn hlen
end Go.Proofs.YtencpplopdogmaaDoor
