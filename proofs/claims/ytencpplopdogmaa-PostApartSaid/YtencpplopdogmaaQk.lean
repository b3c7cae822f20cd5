/- Package post: what the laws' arguments read as. -/
import Derived.Test.YtencpplopdogmaaQj
import Derived.Test.YtencpplopdogmaaIn3
namespace Go.Proofs.Ytencpplopdogmaa
set_option maxRecDepth 100000
open Go.RowKit Go.ChangeShapes Go.WideShapes Go.Deep
set_option linter.unusedVariables false

theorem rd_letter {W : World} {cs : List Value} (h : Rd W 33 cs) (hl : cs.length = 3) : ∃ l : Ltr, cs = lc l ∧ (-9223372036854775808 ≤ l.f ∧ l.f ≤ 9223372036854775807) ∧ (-9223372036854775808 ≤ l.t ∧ l.t ≤ 9223372036854775807) := by
  obtain ⟨a, b, c, rfl⟩ := list3 hl
  have h0 := rd_field Try.underlying33 h 0 _ rfl
  have h1 := rd_field Try.underlying33 h 1 _ rfl
  have h2 := rd_field Try.underlying33 h 2 _ rfl
  obtain ⟨f, rfl, hf⟩ := rd_int Try.underlying3 (v := a) h0
  obtain ⟨t, rfl, ht⟩ := rd_int Try.underlying3 (v := b) h1
  obtain ⟨d, rfl, hd⟩ := rd_string Try.underlying9 (v := c) h2
  exact ⟨⟨f, t, d⟩, rfl, bd_i64 hf, bd_i64 ht⟩
/-- A call that is played. -/
structure OpV where
  kind : Int
  k : Int
  l : Ltr
  A : Option Addr
  n : Nat
  c : Nat
  zs : List Int
def oc (o : OpV) : List Value := [.int .i64 o.kind, .int .i64 o.k, .int .i64 o.l.f, .int .i64 o.l.t, .string o.l.d, .slice o.A o.n o.c]
structure OpOK (W : World) (o : OpV) : Prop where
  k : -9223372036854775808 ≤ o.k ∧ o.k ≤ 9223372036854775807
  n : o.n ≤ o.c
  c : o.c ≤ maxLen
  ls : Ls W o.A o.n (o.zs.map (Value.int .i64))
  sz : o.c * 8 ≤ reachBytes
  off : 0 < o.n → ∀ ad, o.A = some ad → ad.block < W.heap.size
theorem rd_opv {W : World} {cs : List Value} (h : RdS W 36 cs) (hl : cs.length = 6) : ∃ o : OpV, cs = oc o ∧ OpOK W o := by
  obtain ⟨a, b, c, d, e, f, rfl⟩ := list6 hl
  have h0 := rds_field Try.underlying36 h 0 _ rfl
  have h1 := rds_field Try.underlying36 h 1 _ rfl
  have h2 := rds_field Try.underlying36 h 2 _ rfl
  have h3 := rds_field Try.underlying36 h 3 _ rfl
  obtain ⟨kd, rfl, _⟩ := rd_int Try.underlying3 (v := a) h0.rd
  obtain ⟨k, rfl, hk⟩ := rd_int Try.underlying3 (v := b) h1.rd
  obtain ⟨l, hcl, _, _⟩ := rd_letter (cs := [c, d, e]) h2.rd rfl
  obtain ⟨A, n, cc, xs, hs, hn, hc, hsz, hls, hall⟩ := rds_slice (v := f) Try.underlying34 (by kernel_rfl) h3
  rw [show Try.prog.bytesOf 3 = 8 by kernel_rfl] at hsz
  obtain ⟨zs, rfl, hz⟩ := ints_of (k := .i64) fun u hu => rd_int Try.underlying3 (hall u hu).rd
  subst hs
  have hl2 : [c, d, e] = [.int .i64 l.f, .int .i64 l.t, .string l.d] := hcl
  simp only [List.cons.injEq, and_true] at hl2
  obtain ⟨rfl, rfl, rfl⟩ := hl2
  exact ⟨⟨kd, k, l, A, n, cc, zs⟩, rfl, bd_i64 hk, hn, hc, hls, hsz, hls.off⟩
theorem in_opv {W : World} {v : Value} (h : InS W 36 v) : ∃ o : OpV, v = .agg (oc o).toArray ∧ OpOK W o := by
  obtain ⟨cs, rfl, hsz, hr⟩ := ins_struct Try.underlying36 h
  have h6 : cs.toList.length = 6 := by rw [Array.length_toList, hsz]; kernel_rfl
  obtain ⟨o, ho, hok⟩ := rd_opv hr h6
  exact ⟨o, by rw [← ho], hok⟩
theorem in_opvs {W : World} {v : Value} (h : InS W 22 v) : ∃ (A : Option Addr) (n c : Nat) (os : List OpV), v = .slice A n c ∧ n ≤ c ∧ c ≤ maxLen ∧ os.length = n ∧ ∀ (i : Nat) (o : OpV), os[i]? = some o → OpOK W o ∧ ∃ ad, A = some ad ∧ ad.block < W.heap.size ∧ ∀ j u, (oc o)[j]? = some u → W.cell? (ad.add (i * 6 + j)) = some u := by
  obtain ⟨A, n, c, css, rfl, hn, hc, -, hl, hrow⟩ := rds_slice_n (k := 6) Try.underlying22 (by kernel_rfl) (by omega) (in_rds_slice Try.underlying22 h)
  obtain ⟨os, hos⟩ : ∃ os : List OpV, css = os.map oc ∧ ∀ o ∈ os, OpOK W o := by
    have hall : ∀ cs ∈ css, ∃ o, cs = oc o ∧ OpOK W o := fun cs hcs => by
      obtain ⟨i, hi⟩ := List.mem_iff_getElem?.1 hcs
      obtain ⟨h1, h2, _⟩ := hrow.each i cs hi
      exact rd_opv h2 h1
    clear hrow hl
    induction css with
    | nil => exact ⟨[], rfl, by simp⟩
    | cons cs css ih =>
      obtain ⟨o, rfl, ho⟩ := hall cs (by simp)
      obtain ⟨os, rfl, hos⟩ := ih fun cs hcs => hall cs (List.mem_cons_of_mem _ hcs)
      exact ⟨o :: os, rfl, by simp; exact ⟨ho, hos⟩⟩
  obtain ⟨rfl, hok⟩ := hos
  refine ⟨A, n, c, os, rfl, hn, hc, by simpa using hl, fun i o ho => ⟨hok o (List.mem_of_getElem? ho), ?_⟩⟩
  obtain ⟨_, _, ad, h1, h2, h3⟩ := hrow.each i (oc o) (by rw [List.getElem?_map, ho]; rfl)
  exact ⟨ad, h1, h2, h3⟩
theorem in_letters {W : World} {v : Value} (h : In W 40 v) : ∃ (A : Option Addr) (n c : Nat) (ls : List Ltr), v = .slice A n c ∧ n ≤ c ∧ c ≤ maxLen ∧ ls.length = n ∧ ∀ (i : Nat) (l : Ltr), ls[i]? = some l → ∃ ad, A = some ad ∧ ad.block < W.heap.size ∧ ∀ j u, (lc l)[j]? = some u → W.cell? (ad.add (i * 3 + j)) = some u := by
  obtain ⟨A, n, c, css, rfl, hn, hc, hl, hrow⟩ := rd_slice_n (k := 3) Try.underlying40 (by kernel_rfl) (by omega) (in_rd_slice Try.underlying40 h)
  obtain ⟨os, hos⟩ : ∃ os : List Ltr, css = os.map lc := by
    have hall : ∀ cs ∈ css, ∃ o, cs = lc o := fun cs hcs => by
      obtain ⟨i, hi⟩ := List.mem_iff_getElem?.1 hcs
      obtain ⟨h1, h2, _⟩ := hrow.each i cs hi
      obtain ⟨l, h, _⟩ := rd_letter h2 h1
      exact ⟨l, h⟩
    clear hrow hl
    induction css with
    | nil => exact ⟨[], rfl⟩
    | cons cs css ih =>
      obtain ⟨o, rfl⟩ := hall cs (by simp)
      obtain ⟨os, rfl⟩ := ih fun cs hcs => hall cs (List.mem_cons_of_mem _ hcs)
      exact ⟨o :: os, rfl⟩
  subst hos
  refine ⟨A, n, c, os, rfl, hn, hc, by simpa using hl, fun i o ho => ?_⟩
  obtain ⟨_, _, ad, h1, h2, h3⟩ := hrow.each i (lc o) (by rw [List.getElem?_map, ho]; rfl)
  exact ⟨ad, h1, h2, h3⟩
end Go.Proofs.Ytencpplopdogmaa
