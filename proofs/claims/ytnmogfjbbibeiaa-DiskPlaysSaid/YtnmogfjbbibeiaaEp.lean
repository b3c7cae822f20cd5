/- A drive and the document's: each call leaves the same, and answers the same. -/
import Derived.Test.YtnmogfjbbibeiaaEn
namespace Go.Proofs.Ytnmogfjbbibeiaa
set_option maxRecDepth 100000
open Go.RowKit
set_option linter.unusedVariables false

def Srt (fs : List DF) : Prop := fs.Pairwise fun a b => a.name.data.toList < b.name.data.toList
def fnd (fs : List DF) (s : ByteArray) : Option DF := fs.find? fun f => decide (f.name = s)
theorem bl_ne {a b : ByteArray} (h : a.data.toList < b.data.toList) : a ≠ b := fun e => by subst e; exact blt_irr _ h
theorem fnd_none {fs : List DF} {s : ByteArray} : fnd fs s = none ↔ ∀ f ∈ fs, f.name ≠ s := by unfold fnd; simp [List.find?_eq_none]
theorem fnd_some {fs : List DF} {s : ByteArray} {f : DF} (h : fnd fs s = some f) : f ∈ fs ∧ f.name = s := ⟨List.mem_of_find?_eq_some h, by have := List.find?_some h; simpa using this⟩
theorem fnd_append (a b : List DF) (s : ByteArray) : fnd (a ++ b) s = (fnd a s).or (fnd b s) := by unfold fnd; rw [List.find?_append]
theorem fnd_cons (f : DF) (fs : List DF) (s : ByteArray) : fnd (f :: fs) s = if f.name = s then some f else fnd fs s := by
  unfold fnd
  rw [List.find?_cons]
  by_cases h : f.name = s <;> simp [h]
theorem Srt.fnd_mem {fs : List DF} (h : Srt fs) {f : DF} (hf : f ∈ fs) : fnd fs f.name = some f := by
  induction fs with
  | nil => cases hf
  | cons x fs ih =>
    have hp := List.pairwise_cons.1 h
    rw [fnd_cons]
    rcases List.mem_cons.1 hf with rfl | hf
    · rw [if_pos rfl]
    · rw [if_neg (bl_ne (hp.1 f hf)), ih hp.2 hf]
theorem pos_split : ∀ (fs : List DF) (s : ByteArray), Srt fs → (∀ f ∈ fs.take (posL fs s), f.name.data.toList < s.data.toList) ∧ (∀ f ∈ fs.drop (posL fs s), ¬ f.name.data.toList < s.data.toList)
  | [], s, _ => by simp
  | x :: fs, s, h => by
    have hp := List.pairwise_cons.1 h
    have ih := pos_split fs s hp.2
    unfold posL
    by_cases hx : x.name.data.toList < s.data.toList
    · rw [if_pos hx]
      refine ⟨fun f hf => ?_, fun f hf => ih.2 f (by simpa using hf)⟩
      rw [List.take_succ_cons] at hf
      rcases List.mem_cons.1 hf with rfl | hf
      · exact hx
      · exact ih.1 f hf
    · rw [if_neg hx]
      refine ⟨by simp, fun f hf => ?_⟩
      rw [List.drop_zero] at hf
      rcases List.mem_cons.1 hf with rfl | hf
      · exact hx
      · exact fun h2 => hx (List.lt_trans (hp.1 f hf) h2)
theorem take_no {fs : List DF} {s : ByteArray} (h : Srt fs) : fnd (fs.take (posL fs s)) s = none := fnd_none.2 fun f hf => bl_ne ((pos_split fs s h).1 f hf)
/-- In a rising row what is looked for is found. -/
theorem curL_fnd {fs : List DF} (h : Srt fs) (s : ByteArray) : curL fs s = fnd fs s := by
  have e : fnd fs s = (fnd (fs.take (posL fs s)) s).or (fnd (fs.drop (posL fs s)) s) := by rw [← fnd_append, List.take_append_drop]
  rw [e, take_no h, Option.none_or]
  rcases Nat.lt_or_ge (posL fs s) fs.length with hlt | hge
  · have hd : fs.drop (posL fs s) = fs[posL fs s] :: fs.drop (posL fs s + 1) := List.drop_eq_getElem_cons hlt
    have hg : fs[posL fs s]? = some fs[posL fs s] := List.getElem?_eq_getElem hlt
    rw [hd, fnd_cons]
    unfold curL isL
    rw [hg]
    by_cases hn : fs[posL fs s].name = s
    · rw [if_pos hn, if_pos (by simpa using hn)]
    · rw [if_neg hn, if_neg (by simpa using hn)]
      symm
      refine fnd_none.2 fun f hf => ?_
      have hs : Srt (fs.drop (posL fs s)) := List.Pairwise.sublist (List.drop_sublist _ _) h
      rw [hd] at hs
      have h1 := (List.pairwise_cons.1 hs).1 f hf
      have h2 := (pos_split fs s h).2 fs[posL fs s] (hd ▸ List.mem_cons_self)
      intro e2
      rw [e2] at h1
      exact h2 h1
  · rw [List.drop_eq_nil_of_le hge]
    unfold curL isL
    rw [List.getElem?_eq_none hge]
    rfl
theorem isL_fnd {fs : List DF} (h : Srt fs) (s : ByteArray) : isL fs s = (fnd fs s).isSome := by
  rw [← curL_fnd h]
  cases hc : curL fs s with
  | none => rw [curL_none hc]; rfl
  | some f => rw [(curL_some hc).1]; rfl
theorem set_split {fs : List DF} {p : Nat} {f : DF} (hp : fs[p]? = some f) (f' : DF) : fs = fs.take p ++ f :: fs.drop (p + 1) ∧ fs.set p f' = fs.take p ++ f' :: fs.drop (p + 1) := by
  have hlt := (List.getElem?_eq_some_iff.1 hp).1
  rw [List.getElem?_eq_getElem hlt] at hp
  injection hp with hp
  constructor
  · have := List.take_append_drop p fs
    rw [List.drop_eq_getElem_cons hlt, hp] at this
    exact this.symm
  · rw [List.set_eq_take_append_cons_drop, if_pos hlt]
/-- A file in its place turned. -/
theorem fnd_set {fs : List DF} (h : Srt fs) {s : ByteArray} {f f' : DF} (hc : curL fs s = some f) (hn : f'.name = f.name) (s' : ByteArray) : fnd (fs.set (posL fs s) f') s' = if s' = s then some f' else fnd fs s' := by
  obtain ⟨_, hg, hs⟩ := curL_some hc
  have hno := take_no h (s := s)
  obtain ⟨p, hp⟩ : ∃ p, posL fs s = p := ⟨_, rfl⟩
  rw [hp] at hg hno ⊢
  obtain ⟨e0, e1⟩ := set_split hg f'
  have e2 : fnd fs s' = (fnd (fs.take p) s').or (if f.name = s' then some f else fnd (fs.drop (p + 1)) s') := by
    have := congrArg (fun l => fnd l s') e0
    simp only [fnd_append, fnd_cons] at this
    exact this
  rw [e1, e2, fnd_append, fnd_cons, hn, hs]
  by_cases e : s' = s
  · subst e
    rw [if_pos rfl, hno, if_pos rfl, Option.none_or]
  · rw [if_neg e, if_neg (fun e3 => e e3.symm), if_neg (fun e3 => e e3.symm)]
theorem Srt.set {fs : List DF} (h : Srt fs) {p : Nat} {f f' : DF} (hp : fs[p]? = some f) (hn : f'.name = f.name) : Srt (fs.set p f') := by
  obtain ⟨e0, e1⟩ := set_split hp f'
  rw [e0] at h
  rw [e1]
  unfold Srt at *
  rw [List.pairwise_append, List.pairwise_cons] at *
  refine ⟨h.1, ⟨fun b hb => by rw [hn]; exact h.2.1.1 b hb, h.2.1.2⟩, fun a ha b hb => ?_⟩
  rcases List.mem_cons.1 hb with rfl | hb
  · rw [hn]; exact h.2.2 a ha f (by simp)
  · exact h.2.2 a ha b (by simp [hb])
theorem lt_of_not {a b : List UInt8} (h1 : ¬ a < b) (h2 : a ≠ b) : b < a := by
  rcases Decidable.em (b < a) with h | h
  · exact h
  · exact absurd (List.le_antisymm (List.not_lt.1 h) (List.not_lt.1 h1)) h2
/-- A new file. -/
theorem Srt.ins {fs : List DF} (h : Srt fs) {s : ByteArray} (hc : curL fs s = none) (f' : DF) (hn : f'.name = s) : Srt (fs.take (posL fs s) ++ [f'] ++ fs.drop (posL fs s)) := by
  obtain ⟨h1, h2⟩ := pos_split fs s h
  rw [curL_fnd h, fnd_none] at hc
  unfold Srt
  rw [List.append_assoc, List.pairwise_append, List.singleton_append, List.pairwise_cons]
  refine ⟨List.Pairwise.sublist (List.take_sublist _ _) h, ⟨fun b hb => ?_, List.Pairwise.sublist (List.drop_sublist _ _) h⟩, fun a ha b hb => ?_⟩
  · rw [hn]
    exact lt_of_not (h2 b hb) fun e => hc b (List.mem_of_mem_drop hb) (bs_eq e)
  · rcases List.mem_cons.1 hb with rfl | hb
    · rw [hn]; exact h1 a ha
    · have hall : Srt (fs.take (posL fs s) ++ fs.drop (posL fs s)) := by rw [List.take_append_drop]; exact h
      exact (List.pairwise_append.1 hall).2.2 a ha b hb
theorem fnd_ins {fs : List DF} (h : Srt fs) {s : ByteArray} (hc : curL fs s = none) (f' : DF) (hn : f'.name = s) (s' : ByteArray) : fnd (fs.take (posL fs s) ++ [f'] ++ fs.drop (posL fs s)) s' = if s' = s then some f' else fnd fs s' := by
  have e : fnd fs s' = (fnd (fs.take (posL fs s)) s').or (fnd (fs.drop (posL fs s)) s') := by rw [← fnd_append, List.take_append_drop]
  rw [e, List.append_assoc, fnd_append, List.singleton_append, fnd_cons, hn]
  by_cases e : s' = s
  · subst e
    rw [if_pos rfl, take_no h, if_pos rfl, Option.none_or]
  · rw [if_neg e, if_neg (fun e3 => e e3.symm)]
/-- A file taken out. -/
theorem fnd_del {fs : List DF} (h : Srt fs) {s : ByteArray} {f : DF} (hc : curL fs s = some f) (s' : ByteArray) : fnd (fs.take (posL fs s) ++ fs.drop (posL fs s + 1)) s' = if s' = s then none else fnd fs s' := by
  obtain ⟨_, hg, hs⟩ := curL_some hc
  have hno := take_no h (s := s)
  obtain ⟨p, hp⟩ : ∃ p, posL fs s = p := ⟨_, rfl⟩
  rw [hp] at hg hno ⊢
  obtain ⟨e0, -⟩ := set_split hg f
  have e2 : fnd fs s' = (fnd (fs.take p) s').or (if f.name = s' then some f else fnd (fs.drop (p + 1)) s') := by
    have := congrArg (fun l => fnd l s') e0
    simp only [fnd_append, fnd_cons] at this
    exact this
  rw [e2, fnd_append, hs]
  by_cases e : s' = s
  · subst e
    rw [if_pos rfl, hno, Option.none_or]
    refine fnd_none.2 fun b hb => ?_
    rw [e0] at h
    have h3 := (List.pairwise_cons.1 (List.pairwise_append.1 h).2.1).1 b hb
    rw [hs] at h3
    exact (bl_ne h3).symm
  · rw [if_neg e, if_neg (fun e3 => e e3.symm)]
theorem Srt.del {fs : List DF} (h : Srt fs) (p : Nat) : Srt (fs.take p ++ fs.drop (p + 1)) := by
  have hsub : (fs.take p ++ fs.drop (p + 1)).Sublist fs := by
    have h1 : (fs.take p ++ fs.drop (p + 1)).Sublist (fs.take p ++ fs.drop p) := List.Sublist.append_left (by rw [show fs.drop (p + 1) = (fs.drop p).drop 1 by rw [List.drop_drop]]; exact List.drop_sublist _ _) _
    rwa [List.take_append_drop] at h1
  exact List.Pairwise.sublist hsub h
end Go.Proofs.Ytnmogfjbbibeiaa
namespace Go.Proofs.Ytnmogfjbbibeiaa
set_option maxRecDepth 100000
open Go.RowKit
set_option linter.unusedVariables false

def af3 (x : AF) : ByteArray × ByteArray × Bool := (x.last, x.wait, x.sy || decide (x.last.size ≠ 0))
def df3 (f : DF) : ByteArray × ByteArray × Bool := (f.last, f.wait, f.sure)
/-- The same files, the same state. -/
structure Rel (A : AD) (R : RS) : Prop where
  srt : Srt R.fs
  file : ∀ s, (A.F s).map af3 = (fnd R.fs s).map df3
  off : R.off = A.down
  left : R.left = if A.fused = true then (A.left : Int) else -1
  count : R.count = A.steps
  len : R.fs.length ≤ R.count
theorem Rel.wr {A : AD} {R : RS} (h : Rel A R) (hA : FAW A.F) : WR R.fs := by
  intro f hf
  have h1 := h.file f.name
  rw [h.srt.fnd_mem hf] at h1
  cases hA2 : A.F f.name with
  | none => rw [hA2] at h1; cases h1
  | some x =>
    rw [hA2] at h1
    have h2 : af3 x = df3 f := by injection h1
    have h3 := hA f.name x hA2
    have e1 : x.last = f.last := congrArg Prod.fst h2
    have e2 : x.wait = f.wait := congrArg (fun t => t.2.1) h2
    rw [← e1, ← e2]
    exact h3
theorem Rel.start : Rel dw0 rs0 := ⟨List.Pairwise.nil, fun s => rfl, rfl, rfl, rfl, Nat.le_refl _⟩
theorem Rel.file_some {A : AD} {R : RS} (h : Rel A R) {s : ByteArray} {f : DF} (hc : curL R.fs s = some f) : ∃ x, A.F s = some x ∧ x.last = f.last ∧ x.wait = f.wait ∧ (x.sy || decide (x.last.size ≠ 0)) = f.sure := by
  have h1 := h.file s
  rw [← curL_fnd h.srt, hc] at h1
  cases hA : A.F s with
  | none => rw [hA] at h1; cases h1
  | some x =>
    rw [hA] at h1
    have h2 : af3 x = df3 f := by injection h1
    exact ⟨x, rfl, congrArg Prod.fst h2, congrArg (fun t => t.2.1) h2, congrArg (fun t => t.2.2) h2⟩
theorem Rel.file_none {A : AD} {R : RS} (h : Rel A R) {s : ByteArray} (hc : curL R.fs s = none) : A.F s = none := by
  have h1 := h.file s
  rw [← curL_fnd h.srt, hc] at h1
  cases hA : A.F s with
  | none => rfl
  | some x => rw [hA] at h1; cases h1
theorem Rel.oldE {A : AD} {R : RS} (h : Rel A R) (s : ByteArray) : A.oldE s = R.oldE s := by
  unfold AD.oldE RS.oldE refE
  rw [h.off]
  cases hc : curL R.fs s with
  | none =>
    rw [h.file_none hc, curL_none hc]
    cases okName s <;> cases A.down <;> simp
  | some f =>
    obtain ⟨x, hx, _⟩ := h.file_some hc
    rw [hx, (curL_some hc).1]
    cases okName s <;> cases A.down <;> simp
theorem Rel.size {A : AD} {R : RS} (h : Rel A R) (s : ByteArray) : (A.F.last s).size + (A.F.wait s).size = szL R.fs s := by
  unfold szL
  cases hc : curL R.fs s with
  | none =>
    unfold FA.last FA.wait
    rw [h.file_none hc]
    rfl
  | some f =>
    obtain ⟨x, hx, e1, e2, _⟩ := h.file_some hc
    unfold FA.last FA.wait
    rw [hx]
    show x.last.size + x.wait.size = f.last.size + f.wait.size
    rw [e1, e2]
theorem Rel.fuse0 {A : AD} {R : RS} (h : Rel A R) : R.left = 0 ↔ (A.fused = true ∧ A.left = 0) := by
  rw [h.left]
  cases A.fused <;> simp
theorem Rel.downed {A : AD} {R : RS} (h : Rel A R) : Rel { A with down := true } { R with off := true } := ⟨h.srt, h.file, rfl, h.left, h.count, h.len⟩
theorem Rel.ticked {A : AD} {R : RS} {F : FA} {fs : List DF} (h : Rel A R) (h0 : ¬ R.left = 0) (hoff : A.down = false) (hs : Srt fs) (hf : ∀ s, (F s).map af3 = (fnd fs s).map df3) (hl : fs.length ≤ R.fs.length + 1) : Rel (A.tick F) (R.tick fs) := by
  refine ⟨hs, hf, by show R.off = false; rw [h.off, hoff], ?_, by show R.count + 1 = A.steps + 1; rw [h.count], by show fs.length ≤ R.count + 1; have := h.len; omega⟩
  show (if 0 < R.left then R.left - 1 else R.left) = if A.fused = true then ((if A.fused = true then A.left - 1 else A.left : Nat) : Int) else -1
  have h1 := h.left
  cases hfu : A.fused with
  | false => rw [hfu] at h1; simp at h1; rw [h1]; simp
  | true =>
    rw [hfu] at h1
    simp only [if_pos] at h1 ⊢
    rw [if_pos (by omega), h1]
    omega
theorem refE_ok {s : ByteArray} {d : Bool} (h : refE s d ≠ 0) : (okName s = false ∧ refE s d = 1) ∨ (okName s = true ∧ d = true ∧ refE s d = 50) := by
  unfold refE at *
  cases hk : okName s <;> cases d <;> simp [hk] at h ⊢
theorem refE_no {s : ByteArray} {d : Bool} (h : ¬ refE s d ≠ 0) : okName s = true ∧ d = false := by
  unfold refE at *
  cases hk : okName s <;> cases d <;> simp [hk] at h ⊢
theorem Rel.append {A : AD} {R : RS} (h : Rel A R) (s x : ByteArray) : (A.append s x).1 = (R.append s x).1 ∧ Rel (A.append s x).2 (R.append s x).2 := by
  unfold AD.append RS.append
  by_cases hr : refE s A.down ≠ 0
  · rw [if_pos hr]
    rcases refE_ok hr with ⟨h1, h2⟩ | ⟨h1, h2, h3⟩
    · rw [if_pos h1, h2]; exact ⟨rfl, h⟩
    · rw [if_neg (show ¬ okName s = false by rw [h1]; simp), h.off, if_pos h2, h3]; exact ⟨rfl, h⟩
  · obtain ⟨h1, h2⟩ := refE_no hr
    rw [if_neg hr, if_neg (show ¬ okName s = false by rw [h1]; simp), h.off, if_neg (show ¬ A.down = true by rw [h2]; simp), h.size]
    by_cases hb : 1048576 < szL R.fs s + x.size
    · rw [if_pos hb, if_pos hb]; exact ⟨rfl, h⟩
    · rw [if_neg hb, if_neg hb]
      by_cases h0 : R.left = 0
      · rw [if_pos h0, if_pos (h.fuse0.1 h0)]
        exact ⟨rfl, h.downed⟩
      · rw [if_neg h0, if_neg (fun hh => h0 (h.fuse0.2 hh))]
        refine ⟨rfl, ?_⟩
        unfold appL
        cases hc : curL R.fs s with
        | none =>
          have hA := h.file_none hc
          refine h.ticked (fs := R.fs.take (posL R.fs s) ++ [⟨s, ⟨#[]⟩, x, false⟩] ++ R.fs.drop (posL R.fs s)) h0 h2 (h.srt.ins hc _ rfl) (fun s' => ?_) (by simp; omega)
          rw [fnd_ins h.srt hc _ rfl]
          unfold FA.set
          by_cases e : s' = s
          · rw [if_pos e, if_pos e]
            unfold FA.last FA.wait FA.sy
            rw [hA]
            show some (af3 ⟨⟨#[]⟩, ⟨#[]⟩ ++ x, false⟩) = some (df3 ⟨s, ⟨#[]⟩, x, false⟩)
            rw [show ByteArray.mk #[] ++ x = x from ByteArray.empty_append]
            rfl
          · rw [if_neg e, if_neg e]; exact h.file s'
        | some f =>
          obtain ⟨y, hy, e1, e2, e3⟩ := h.file_some hc
          obtain ⟨_, hg, hs⟩ := curL_some hc
          refine h.ticked (fs := R.fs.set (posL R.fs s) ⟨f.name, f.last, f.wait ++ x, f.sure⟩) h0 h2 (h.srt.set hg rfl) (fun s' => ?_) (by simp)
          rw [fnd_set (f' := ⟨f.name, f.last, f.wait ++ x, f.sure⟩) h.srt hc rfl]
          unfold FA.set
          by_cases e : s' = s
          · rw [if_pos e, if_pos e]
            unfold FA.last FA.wait FA.sy
            rw [hy]
            show some (y.last, y.wait ++ x, y.sy || decide (y.last.size ≠ 0)) = some (f.last, f.wait ++ x, f.sure)
            rw [e3, e1, e2]
          · rw [if_neg e, if_neg e]; exact h.file s'
theorem Rel.sync {A : AD} {R : RS} (h : Rel A R) (s : ByteArray) : (A.sync s).1 = (R.sync s).1 ∧ Rel (A.sync s).2 (R.sync s).2 := by
  unfold AD.sync RS.sync
  rw [h.oldE]
  by_cases ho : R.oldE s ≠ 0
  · rw [if_pos ho, if_pos ho]; exact ⟨rfl, h⟩
  · rw [if_neg ho, if_neg ho]
    obtain ⟨hd, y, hy⟩ := old_ok (A := A) (s := s) (by rw [h.oldE]; simpa using ho)
    by_cases h0 : R.left = 0
    · rw [if_pos h0, if_pos (h.fuse0.1 h0)]
      exact ⟨rfl, h.downed⟩
    · rw [if_neg h0, if_neg (fun hh => h0 (h.fuse0.2 hh))]
      refine ⟨rfl, ?_⟩
      unfold syncL
      cases hc : curL R.fs s with
      | none => rw [h.file_none hc] at hy; cases hy
      | some f =>
        obtain ⟨y, hy, e1, e2, e3⟩ := h.file_some hc
        obtain ⟨_, hg, hs⟩ := curL_some hc
        refine h.ticked (fs := R.fs.set (posL R.fs s) ⟨f.name, f.last ++ f.wait, ⟨#[]⟩, true⟩) h0 hd (h.srt.set hg rfl) (fun s' => ?_) (by simp)
        rw [fnd_set (f' := ⟨f.name, f.last ++ f.wait, ⟨#[]⟩, true⟩) h.srt hc rfl]
        unfold FA.set
        by_cases e : s' = s
        · rw [if_pos e, if_pos e]
          unfold FA.last FA.wait
          rw [hy]
          show some (y.last ++ y.wait, (⟨#[]⟩ : ByteArray), true || decide ((y.last ++ y.wait).size ≠ 0)) = some (f.last ++ f.wait, ⟨#[]⟩, true)
          rw [e1, e2]
          rfl
        · rw [if_neg e, if_neg e]; exact h.file s'
theorem Rel.remove {A : AD} {R : RS} (h : Rel A R) (s : ByteArray) : (A.remove s).1 = (R.remove s).1 ∧ Rel (A.remove s).2 (R.remove s).2 := by
  unfold AD.remove RS.remove
  rw [h.oldE]
  by_cases ho : R.oldE s ≠ 0
  · rw [if_pos ho, if_pos ho]; exact ⟨rfl, h⟩
  · rw [if_neg ho, if_neg ho]
    obtain ⟨hd, y, hy⟩ := old_ok (A := A) (s := s) (by rw [h.oldE]; simpa using ho)
    by_cases h0 : R.left = 0
    · rw [if_pos h0, if_pos (h.fuse0.1 h0)]
      exact ⟨rfl, h.downed⟩
    · rw [if_neg h0, if_neg (fun hh => h0 (h.fuse0.2 hh))]
      refine ⟨rfl, ?_⟩
      cases hc : curL R.fs s with
      | none => rw [h.file_none hc] at hy; cases hy
      | some f =>
        refine h.ticked h0 hd (h.srt.del _) (fun s' => ?_) (by simp; omega)
        rw [fnd_del h.srt hc]
        unfold FA.set
        by_cases e : s' = s
        · rw [if_pos e, if_pos e]; rfl
        · rw [if_neg e, if_neg e]; exact h.file s'
theorem Rel.fuse {A : AD} {R : RS} (h : Rel A R) (n : Int) : Rel (A.fuse n) (R.fuse n) := by
  refine ⟨h.srt, h.file, h.off, ?_, h.count, h.len⟩
  show max n (-1) = if decide (0 ≤ n) = true then ((n.toNat : Nat) : Int) else -1
  by_cases hn : 0 ≤ n
  · rw [if_pos (by simpa using hn)]; omega
  · rw [if_neg (by simpa using hn)]; omega
theorem tbit_app (a b : ByteArray) (q r : Nat) : bs ((tbit (a ++ b) q r).data.toList.take a.size) = (if q < a.size then tbit a q r else a) ∧ bs ((tbit (a ++ b) q r).data.toList.drop a.size) = (if q < a.size then b else tbit b (q - a.size) r) := by
  have hl : a.size = a.data.toList.length := by simp
  unfold tbit
  rw [bs_list, ba_app, hl]
  by_cases h : q < a.data.toList.length
  · rw [if_pos h, if_pos h]
    have e : (a.data.toList ++ b.data.toList).modify q (fun x => x ^^^ UInt8.ofNat (2 ^ r)) = a.data.toList.modify q (fun x => x ^^^ UInt8.ofNat (2 ^ r)) ++ b.data.toList := by
      apply List.ext_getElem?
      intro i
      rw [List.getElem?_modify]
      rcases Nat.lt_or_ge i a.data.toList.length with hi | hi
      · rw [List.getElem?_append_left hi, List.getElem?_append_left (by rw [List.length_modify]; exact hi), List.getElem?_modify]
      · have hne : ¬ q = i := by omega
        rw [List.getElem?_append_right hi, List.getElem?_append_right (by rw [List.length_modify]; exact hi), List.length_modify]
        simp [hne]
    rw [e]
    have hl2 : a.data.toList.length = (a.data.toList.modify q (fun x => x ^^^ UInt8.ofNat (2 ^ r))).length := by rw [List.length_modify]
    constructor
    · rw [hl2, List.take_left]
    · rw [hl2, List.drop_left, bs_of]
  · rw [if_neg h, if_neg h]
    have e : (a.data.toList ++ b.data.toList).modify q (fun x => x ^^^ UInt8.ofNat (2 ^ r)) = a.data.toList ++ b.data.toList.modify (q - a.data.toList.length) (fun x => x ^^^ UInt8.ofNat (2 ^ r)) := by
      apply List.ext_getElem?
      intro i
      rw [List.getElem?_modify]
      rcases Nat.lt_or_ge i a.data.toList.length with hi | hi
      · have hne : ¬ q = i := by omega
        rw [List.getElem?_append_left hi, List.getElem?_append_left hi]
        simp [hne]
      · rw [List.getElem?_append_right hi, List.getElem?_append_right hi, List.getElem?_modify]
        by_cases e : q = i
        · subst e
          simp
        · have e2 : ¬ q - a.data.toList.length = i - a.data.toList.length := by omega
          simp only [if_neg e, if_neg e2]
    rw [e]
    exact ⟨by rw [List.take_left, bs_of], by rw [List.drop_left]⟩
theorem Rel.flip {A : AD} {R : RS} (h : Rel A R) (s : ByteArray) (n : Int) : (A.flip s n).1 = (R.flip s n).1 ∧ Rel (A.flip s n).2 (R.flip s n).2 := by
  unfold AD.flip RS.flip
  cases hc : curL R.fs s with
  | none =>
    rw [h.file_none hc]
    exact ⟨rfl, h⟩
  | some f =>
    obtain ⟨y, hy, e1, e2, e3⟩ := h.file_some hc
    obtain ⟨_, hg, hs⟩ := curL_some hc
    rw [hy]
    simp only []
    rw [e1, e2]
    by_cases hb : n < 0 ∨ ((f.last.size + f.wait.size : Nat) : Int) ≤ n / 8
    · rw [if_pos hb, if_pos hb]; exact ⟨rfl, h⟩
    · rw [if_neg hb, if_neg hb]
      refine ⟨rfl, ⟨h.srt.set hg rfl, fun s' => ?_, h.off, h.left, h.count, by show (R.fs.set _ _).length ≤ R.count; rw [List.length_set]; exact h.len⟩⟩
      show (A.F.set s _ s').map af3 = (fnd (R.fs.set _ _) s').map df3
      rw [fnd_set (f' := flipF f n.toNat) h.srt hc rfl]
      unfold FA.set
      by_cases e : s' = s
      · rw [if_pos e, if_pos e]
        obtain ⟨t1, t2⟩ := tbit_app f.last f.wait (n.toNat / 8) (n.toNat % 8)
        show some (af3 (y.flip n.toNat)) = some (df3 (flipF f n.toNat))
        unfold AF.flip flipF df3
        rw [e1, e2, t1, t2]
        by_cases hq : n.toNat / 8 < f.last.size
        · rw [if_pos hq, if_pos hq, if_pos hq]
          show some (tbit f.last _ _, f.wait, y.sy || decide ((tbit f.last _ _).size ≠ 0)) = _
          rw [tbit_size, ← e1, e3, e1]
        · rw [if_neg hq, if_neg hq, if_neg hq]
          show some (f.last, tbit f.wait _ _, y.sy || decide (f.last.size ≠ 0)) = _
          rw [← e1, e3, e1]
      · rw [if_neg e, if_neg e]; exact h.file s'
end Go.Proofs.Ytnmogfjbbibeiaa
