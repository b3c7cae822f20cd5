/- Package disk: what the laws' arguments read as; great. -/
import Derived.Test.YtnmogfjbbibeiaaDw
import Derived.Test.YtnmogfjbbibeiaaIn3
import Derived.Test.YtnmogfjbbibeiaaSz
namespace Go.Proofs.Ytnmogfjbbibeiaa
set_option maxRecDepth 100000
open Go.RowKit Go.ChangeShapes Go.WideShapes Go.Deep
set_option linter.unusedVariables false

/-- A call that is played. -/
structure DOp where
  kind : Int
  name : ByteArray
  data : ByteArray
  k : Int
  A : Option Addr
  n : Nat
  c : Nat
  ks : List Int
def doc (o : DOp) : List Value := [.int .i64 o.kind, .string o.name, .string o.data, .int .i64 o.k, .slice o.A o.n o.c]
structure DOpOK (W : World) (o : DOp) : Prop where
  k : -9223372036854775808 ≤ o.k ∧ o.k ≤ 9223372036854775807
  name : o.name.size ≤ maxLen
  data : o.data.size ≤ maxLen
  n : o.n ≤ o.c
  c : o.c ≤ maxLen
  ls : Ls W o.A o.n (o.ks.map (Value.int .i64))
  sz : o.c * 8 ≤ reachBytes
  off : 0 < o.n → ∀ ad, o.A = some ad → ad.block < W.heap.size
theorem list5 {α : Type} {cs : List α} (h : cs.length = 5) : ∃ a b c d e, cs = [a, b, c, d, e] := by
  match cs, h with
  | [a, b, c, d, e], _ => exact ⟨a, b, c, d, e, rfl⟩
theorem rd_dop {W : World} {cs : List Value} (h : RdS W 31 cs) (hl : cs.length = 5) : ∃ o : DOp, cs = doc o ∧ DOpOK W o := by
  obtain ⟨a, b, c, d, e, rfl⟩ := list5 hl
  have h0 := rds_field Try.underlying31 h 0 _ rfl
  have h1 := rds_field Try.underlying31 h 1 _ rfl
  have h2 := rds_field Try.underlying31 h 2 _ rfl
  have h3 := rds_field Try.underlying31 h 3 _ rfl
  have h4 := rds_field Try.underlying31 h 4 _ rfl
  obtain ⟨kd, rfl, _⟩ := rd_int Try.underlying3 (v := a) h0.rd
  obtain ⟨nm, rfl, hnm⟩ := rd_string Try.underlying9 (v := b) h1.rd
  obtain ⟨dt, rfl, hdt⟩ := rd_string Try.underlying9 (v := c) h2.rd
  obtain ⟨k, rfl, hk⟩ := rd_int Try.underlying3 (v := d) h3.rd
  obtain ⟨A, n, cc, xs, hs, hn, hc, hsz, hls, hall⟩ := rds_slice (v := e) Try.underlying29 (by kernel_rfl) h4
  rw [show Try.prog.bytesOf 3 = 8 by kernel_rfl] at hsz
  obtain ⟨zs, rfl, hz⟩ := ints_of (k := .i64) fun u hu => rd_int Try.underlying3 (hall u hu).rd
  subst hs
  exact ⟨⟨kd, nm, dt, k, A, n, cc, zs⟩, rfl, bd_i64 hk, hnm, hdt, hn, hc, hls, hsz, hls.off⟩
theorem in_dop {W : World} {v : Value} (h : InS W 31 v) : ∃ o : DOp, v = .agg (doc o).toArray ∧ DOpOK W o := by
  obtain ⟨cs, rfl, hsz, hr⟩ := ins_struct Try.underlying31 h
  have h6 : cs.toList.length = 5 := by rw [Array.length_toList, hsz]; kernel_rfl
  obtain ⟨o, ho, hok⟩ := rd_dop hr h6
  exact ⟨o, by rw [← ho], hok⟩
/-- A row of calls that is read. -/
def RowD (w : World) (A : Option Addr) (os : List DOp) : Prop := ∀ (i : Nat) (o : DOp), os[i]? = some o → DOpOK w o ∧ ∃ ad, A = some ad ∧ ad.block < w.heap.size ∧ ∀ j u, (doc o)[j]? = some u → w.cell? (ad.add (i * 5 + j)) = some u
theorem in_dops {W : World} {v : Value} (h : InS W 22 v) : ∃ (A : Option Addr) (n c : Nat) (os : List DOp), v = .slice A n c ∧ n ≤ c ∧ c ≤ maxLen ∧ os.length = n ∧ RowD W A os := by
  obtain ⟨A, n, c, css, rfl, hn, hc, -, hl, hrow⟩ := rds_slice_n (k := 5) Try.underlying22 (by kernel_rfl) (by omega) (in_rds_slice Try.underlying22 h)
  obtain ⟨os, hos⟩ : ∃ os : List DOp, css = os.map doc ∧ ∀ o ∈ os, DOpOK W o := by
    have hall : ∀ cs ∈ css, ∃ o, cs = doc o ∧ DOpOK W o := fun cs hcs => by
      obtain ⟨i, hi⟩ := List.mem_iff_getElem?.1 hcs
      obtain ⟨h1, h2, _⟩ := hrow.each i cs hi
      exact rd_dop h2 h1
    clear hrow hl
    induction css with
    | nil => exact ⟨[], rfl, by simp⟩
    | cons cs css ih =>
      obtain ⟨o, rfl, ho⟩ := hall cs (by simp)
      obtain ⟨os, rfl, hos⟩ := ih fun cs hcs => hall cs (List.mem_cons_of_mem _ hcs)
      exact ⟨o :: os, rfl, by simp; exact ⟨ho, hos⟩⟩
  obtain ⟨rfl, hok⟩ := hos
  refine ⟨A, n, c, os, rfl, hn, hc, by simpa using hl, fun i o ho => ⟨hok o (List.mem_of_getElem? ho), ?_⟩⟩
  obtain ⟨_, _, ad, h1, h2, h3⟩ := hrow.each i (doc o) (by rw [List.getElem?_map, ho]; rfl)
  exact ⟨ad, h1, h2, h3⟩
theorem DOpOK.kp {w w' : World} {o : DOp} (h : DOpOK w o) (k : Kp [] w w') : DOpOK w' o := ⟨h.k, h.name, h.data, h.n, h.c, h.ls.kp k (by simp), h.sz, fun h0 ad e => Nat.lt_of_lt_of_le (h.off h0 ad e) k.size⟩
theorem cell_kpD {w w' : World} {S : List Nat} {p : Addr} {x : Value} (h : w.cell? p = some x) (k : Kp S w w') (hS : p.block ∉ S) : w'.cell? p = some x := (k.cell (cell_block_lt h) hS).trans h
theorem RowD.kp {w w' : World} {A : Option Addr} {os : List DOp} (h : RowD w A os) (k : Kp [] w w') : RowD w' A os := fun i o ho => by
  obtain ⟨h1, ad, h2, h3, h4⟩ := h i o ho
  exact ⟨h1.kp k, ad, h2, Nat.lt_of_lt_of_le h3 k.size, fun j u hu => cell_kpD (h4 j u hu) k (by simp)⟩
theorem dadd_lit (a : Addr) (n j : Nat) (h : j ≠ 0) : a.add (n + j) = ⟨(a.add n).block, (a.add n).off + j, none⟩ := by
  unfold Addr.add
  by_cases hn : n = 0 <;> simp [hn, h, Nat.add_assoc]
theorem RowD.cells {w : World} {A : Option Addr} {os : List DOp} (h : RowD w A os) {i : Nat} {o : DOp} (ho : os[i]? = some o) : ∃ ad p, A = some ad ∧ ad.add (i * 5) = p ∧ w.cell? p = some (.int .i64 o.kind) ∧ w.cell? ⟨p.block, p.off + 1, none⟩ = some (.string o.name) ∧
    w.cell? ⟨p.block, p.off + 2, none⟩ = some (.string o.data) ∧ w.cell? ⟨p.block, p.off + 3, none⟩ = some (.int .i64 o.k) ∧ w.cell? ⟨p.block, p.off + 4, none⟩ = some (.slice o.A o.n o.c) := by
  obtain ⟨_, ad, h2, _, h4⟩ := h i o ho
  refine ⟨ad, _, h2, rfl, h4 0 _ rfl, ?_, ?_, ?_, ?_⟩
  all_goals rw [← dadd_lit _ _ _ (by omega)]
  · exact h4 1 _ rfl
  · exact h4 2 _ rfl
  · exact h4 3 _ rfl
  · exact h4 4 _ rfl
def fine (o : DOp) : Prop := o.name.size ≤ 8192 ∧ o.data.size ≤ 8192 ∧ o.n ≤ 8192
def GreatD (os : List DOp) (n : Nat) (e : Ending) : Prop := ∃ b, e = .returned (.bool b) ∧ (b = false → n ≤ 200 ∧ ∀ o ∈ os, fine o)
set_option maxHeartbeats 4000000 in
theorem dgreat_any (A : Option Addr) (n c : Nat) (os : List DOp) (w : World) (hn : os.length = n) (hnm : n ≤ maxLen) (h : RowD w A os) :
    Calls Try.prog 10 #[.slice A n c] w fun e w' => GreatD os n e ∧ Kp [] w w' := by
  have HN := Lib.hid hn
  clear hn
  unfold maxLen at hnm
  go_enter Try.func10, Try.ntmps10
  go_wp2_with fail
  go_loopg [3, 8] n (fun gk s i wr => ∃ (m : Nat) (q : Nat), n - m ≤ gk ∧ i = .int .i64 m ∧ m ≤ n ∧ s = .int .i64 q ∧ q ≤ 8192 ∧ Kp [] w wr ∧ ∀ o ∈ os.take m, fine o)
  case atStart => exact ⟨0, 0, by omega, rfl, Nat.zero_le _, rfl, by omega, Kp.rfl_ _ _, by simp⟩
  case round =>
    obtain ⟨m, q, hgk, rfl, hm, rfl, hq, hkr, hfine⟩ := hrel
    have HF := Lib.hid hfine
    clear hfine
    by_cases hlt : m < n
    · obtain ⟨o, ho⟩ : ∃ o, os[m]? = some o := ⟨_, List.getElem?_eq_getElem (by have := HN.out; omega)⟩
      have hro := h.kp hkr
      obtain ⟨ad, p, rfl, hp, c0, c1, c2, c3, c4⟩ := hro.cells ho
      have hok := (hro m o ho).1
      have hsz := hok.sz
      have hnc := hok.n
      unfold reachBytes at hsz
      have b2 : (m : Int) < (n : Int) := by omega
      have HO := Lib.hid ho
      clear ho hok hro
      by_cases hbig : 8192 < (q : Int) + (4 + min (o.data.size : Int) 1048576 + min (o.name.size : Int) 1048576 + (o.n : Int))
      · go_wp2_with fail
        go_ret
        exact ⟨⟨_, rfl, fun h => by cases h⟩, hkr.alloc _⟩
      · go_wp2_with fail
        go_roundg (n - (m + 1))
        case measure => omega
        case rel =>
          refine ⟨m + 1, q + (4 + min o.data.size 1048576 + min o.name.size 1048576 + o.n), by omega, by go_num, by omega, congrArg (Value.int .i64) (by omega), by omega, hkr.alloc _, fun z hz => ?_⟩
          rw [List.take_add_one, HO.out] at hz
          rcases List.mem_append.1 hz with hz | hz
          · exact HF.out z hz
          · obtain rfl : z = o := by simpa using hz
            exact ⟨by omega, by omega, by omega⟩
    · obtain rfl : m = n := by omega
      have hall : ∀ o ∈ os, fine o := fun o ho => HF.out o (by rw [← HN.out, List.take_length]; exact ho)
      have HA := Lib.hid hall
      clear hall
      by_cases h2 : (200 : Int) < (m : Int)
      · go_wp2_with fail
        go_ret
        exact ⟨⟨_, rfl, fun h => by cases h⟩, hkr⟩
      · go_wp2_with fail
        go_ret
        exact ⟨⟨_, rfl, fun h => ⟨by omega, HA.out⟩⟩, hkr⟩
end Go.Proofs.Ytnmogfjbbibeiaa
