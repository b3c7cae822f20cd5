/- A drive and the document's: Crash; what is told. -/
import Derived.Test.YtnmogfjbbibeiaaEp
namespace Go.Proofs.Ytnmogfjbbibeiaa
set_option maxRecDepth 100000
open Go.RowKit
set_option linter.unusedVariables false

theorem crR_names : ∀ (fs : List DF) (ks : List Int), ((crR fs ks).map DF.name).Sublist (fs.map DF.name)
  | [], _ => List.Sublist.refl _
  | f :: fs, ks => by
    rw [crR, List.map_append, List.map_cons]
    have hn : (crF f ks).name = f.name := by unfold crF; split <;> rfl
    split
    · rw [List.map_singleton, List.singleton_append, hn]
      exact (crR_names fs _).cons_cons _
    · exact (crR_names fs _).cons _
theorem srt_names {fs : List DF} : Srt fs ↔ Rising (fs.map DF.name) := by unfold Srt Rising; rw [List.pairwise_map]
theorem crR_srt {fs : List DF} (h : Srt fs) (ks : List Int) : Srt (crR fs ks) := srt_names.2 (List.Pairwise.sublist (crR_names fs ks) (srt_names.1 h))
theorem fnd_crR_none {fs : List DF} {ks : List Int} {s : ByteArray} (h : s ∉ fs.map DF.name) : fnd (crR fs ks) s = none := fnd_none.2 fun f hf e => h ((crR_names fs ks).subset (List.mem_map.2 ⟨f, hf, e⟩))
theorem crF_kept {f : DF} {x : AF} {ks : List Int} (e1 : x.last = f.last) (e2 : x.wait = f.wait) (e3 : (x.sy || decide (x.last.size ≠ 0)) = f.sure) :
    ((crF f ks).sure = true ↔ ¬ ((x.crash ks).sy = false ∧ (x.crash ks).last.size = 0)) ∧ ((crF f ks).sure = true → af3 (x.crash ks) = df3 (crF f ks)) := by
  obtain ⟨xl, xw, xs⟩ := x
  obtain ⟨fn, fl, fw, fs⟩ := f
  have e1 : xl = fl := e1
  have e2 : xw = fw := e2
  subst e1 e2
  have e3 : (xs || decide (xl.size ≠ 0)) = fs := e3
  subst e3
  show ((crF ⟨fn, xl, xw, xs || decide (xl.size ≠ 0)⟩ ks).sure = true ↔ ¬ (xs = false ∧ (xl ++ xw.extract 0 (cropK ks xw.size)).size = 0)) ∧ (_ → (xl ++ xw.extract 0 (cropK ks xw.size), (⟨#[]⟩ : ByteArray), xs || decide ((xl ++ xw.extract 0 (cropK ks xw.size)).size ≠ 0)) = df3 (crF ⟨fn, xl, xw, xs || decide (xl.size ≠ 0)⟩ ks))
  have hle := crop_le ks xw.size
  have hsz : (xl ++ xw.extract 0 (cropK ks xw.size)).size = xl.size + cropK ks xw.size := by rw [ByteArray.size_append, ByteArray.size_extract]; omega
  have key : ∀ n : Nat, ((xs || decide (n ≠ 0)) = true ↔ ¬ (xs = false ∧ n = 0)) := fun n => by cases xs <;> simp
  unfold crF
  by_cases hz : xw.size = 0
  · rw [if_pos (show (DF.mk fn xl xw (xs || decide (xl.size ≠ 0))).wait.size = 0 from hz)]
    have hc0 : cropK ks xw.size = 0 := by omega
    obtain rfl := empty_of hz
    have hext : (ByteArray.mk #[]).extract 0 (cropK ks (ByteArray.mk #[]).size) = ⟨#[]⟩ := ByteArray.ext (by simp)
    rw [hsz, hc0] at *
    constructor
    · exact key _
    · intro _
      show (_, _, _) = (xl, _, _)
      rw [hext, show xl ++ ByteArray.mk #[] = xl from ByteArray.append_empty, Nat.add_zero]
  · rw [if_neg (show ¬ (DF.mk fn xl xw (xs || decide (xl.size ≠ 0))).wait.size = 0 from hz), hsz]
    have hb : ((xs || decide (xl.size ≠ 0)) || decide (0 < cropK ks xw.size)) = (xs || decide (xl.size + cropK ks xw.size ≠ 0)) := by
      cases xs
      · simp only [Bool.false_or]
        rw [← Bool.decide_or]
        congr 1
        exact propext ⟨fun h => by omega, fun h => by omega⟩
      · rfl
    constructor
    · show ((xs || decide (xl.size ≠ 0)) || decide (0 < cropK ks xw.size)) = true ↔ _
      rw [hb]
      exact key _
    · intro _
      show (_, _, _) = (_, _, (xs || decide (xl.size ≠ 0)) || decide (0 < cropK ks xw.size))
      rw [hb]
theorem crash_rel : ∀ (fs : List DF) (ks : List Int) (F : FA), Srt fs → (∀ f ∈ fs, (F f.name).map af3 = some (df3 f)) → ∀ s, (s ∈ fs.map DF.name → (crashA (fs.map DF.name) ks F s).map af3 = (fnd (crR fs ks) s).map df3) ∧ (s ∉ fs.map DF.name → (crashA (fs.map DF.name) ks F s).map af3 = (F s).map af3)
  | [], ks, F, _, _, s => by simp [crashA]
  | f :: fs, ks, F, h, hF, s => by
    have hp := List.pairwise_cons.1 h
    have hf := hF f (by simp)
    cases hx : F f.name with
    | none => rw [hx] at hf; cases hf
    | some x =>
      rw [hx] at hf
      have h2 : af3 x = df3 f := by injection hf
      have e1 : x.last = f.last := congrArg Prod.fst h2
      have e2 : x.wait = f.wait := congrArg (fun t => t.2.1) h2
      have e3 : (x.sy || decide (x.last.size ≠ 0)) = f.sure := congrArg (fun t => t.2.2) h2
      obtain ⟨k1, k2⟩ := crF_kept (ks := ks) e1 e2 e3
      have hT : (if x.wait.size = 0 then ks else ks.tail) = crT f ks := by unfold crT; rw [e2]
      have hne : ∀ g ∈ fs, g.name ≠ f.name := fun g hg => (bl_ne (hp.1 g hg)).symm
      have hF1 : ∀ s', s' ≠ f.name → crashFA F f.name (x.crash ks) s' = F s' := fun s' hs' => by
        unfold crashFA
        split
        · exact set_ne hs' _
        · exact set_ne hs' _
      obtain ⟨i1, i2⟩ := crash_rel fs (crT f ks) (crashFA F f.name (x.crash ks)) hp.2 (fun g hg => by rw [hF1 _ (hne g hg)]; exact hF g (List.mem_cons_of_mem _ hg)) s
      have hn : (crF f ks).name = f.name := by unfold crF; split <;> rfl
      have hcr : crashA ((f :: fs).map DF.name) ks F = crashA (fs.map DF.name) (crT f ks) (crashFA F f.name (x.crash ks)) := by
        rw [List.map_cons, crashA, hx, ← hT]
      rw [hcr]
      constructor
      · intro hm
        rcases Decidable.em (s = f.name) with e | e
        · subst e
          have hno : f.name ∉ fs.map DF.name := fun hm => by
            obtain ⟨g, hg, e⟩ := List.mem_map.1 hm
            exact hne g hg e
          rw [i2 hno, crR, fnd_append, fnd_crR_none hno]
          by_cases hk : (crF f ks).sure = true
          · rw [if_pos hk, show fnd [crF f ks] f.name = some (crF f ks) by rw [fnd_cons, if_pos hn]]
            unfold crashFA
            rw [if_neg (k1.1 hk), set_eq]
            show some _ = some _
            rw [k2 hk]
          · rw [if_neg hk]
            unfold crashFA
            rw [if_pos (Decidable.byContradiction fun hh => hk (k1.2 hh)), set_eq]
            rfl
        · have hm2 : s ∈ fs.map DF.name := by
            rcases List.mem_cons.1 hm with h3 | h3
            · exact absurd h3 e
            · exact h3
          rw [i1 hm2, crR, fnd_append]
          have : fnd (if (crF f ks).sure = true then [crF f ks] else []) s = none := by
            split
            · rw [fnd_cons, if_neg (by rw [hn]; exact fun e2 => e e2.symm)]; rfl
            · rfl
          rw [this, Option.none_or]
      · intro hm
        have e : s ≠ f.name := fun e => hm (by rw [e]; simp)
        rw [i2 (fun h3 => hm (List.mem_cons_of_mem _ h3)), hF1 s e]
theorem Rel.mem {A : AD} {R : RS} (h : Rel A R) (s : ByteArray) : s ∈ R.fs.map DF.name ↔ (A.F s).isSome = true := by
  have h1 := h.file s
  constructor
  · intro hm
    obtain ⟨f, hf, e⟩ := List.mem_map.1 hm
    subst e
    rw [h.srt.fnd_mem hf] at h1
    cases hA : A.F f.name with
    | none => rw [hA] at h1; cases h1
    | some x => rfl
  · intro hs
    cases hA : A.F s with
    | none => rw [hA] at hs; cases hs
    | some x =>
      rw [hA] at h1
      cases hf : fnd R.fs s with
      | none => rw [hf] at h1; cases h1
      | some f =>
        obtain ⟨h2, h3⟩ := fnd_some hf
        exact List.mem_map.2 ⟨f, h2, h3⟩
theorem Rel.crash {A A' : AD} {R : RS} {ks : List Int} (h : Rel A R) (hc : A.crash ks A') : Rel A' (R.crash ks) := by
  obtain ⟨L, hL, rfl⟩ := hc
  have hLe : L = R.fs.map DF.name := rising_eq hL.1 (srt_names.1 h.srt) fun s => by rw [hL.2, hpre_nil, h.mem]; simp
  subst hLe
  refine ⟨crR_srt h.srt ks, fun s => ?_, rfl, rfl, h.count, ?_⟩
  · show (crashA (R.fs.map DF.name) ks A.F s).map af3 = (fnd (crR R.fs ks) s).map df3
    obtain ⟨i1, i2⟩ := crash_rel R.fs ks A.F h.srt (fun f hf => by rw [h.file, h.srt.fnd_mem hf]; rfl) s
    rcases Classical.em (s ∈ R.fs.map DF.name) with hm | hm
    · exact i1 hm
    · rw [i2 hm, fnd_crR_none hm]
      cases hA : A.F s with
      | none => rfl
      | some x => exact absurd ((h.mem s).2 (by rw [hA]; rfl)) hm
  · show (crR R.fs ks).length ≤ R.count
    have := (crR_names R.fs ks).length_le
    simp at this
    have := h.len
    omega
theorem Rel.names {A : AD} {R : RS} (h : Rel A R) {p : ByteArray} {L : List ByteArray} (hL : A.names p L) : L = R.names p := by
  unfold RS.names
  rw [h.off]
  rcases hL with ⟨h1, h2⟩ | ⟨h1, h2⟩
  · rw [if_pos h1, h2]
  · rw [if_neg (by rw [h1]; simp)]
    have hsub : Srt (R.fs.filter fun f => hpre f.name p) := List.Pairwise.sublist List.filter_sublist h.srt
    refine rising_eq h2.1 (srt_names.1 hsub) fun s => ?_
    rw [h2.2, ← h.mem]
    unfold namesL
    simp only [List.mem_map, List.mem_filter]
    constructor
    · rintro ⟨⟨f, hf, e⟩, hp⟩
      exact ⟨f, ⟨hf, by rw [e]; exact hp⟩, e⟩
    · rintro ⟨f, ⟨hf, hp⟩, e⟩
      exact ⟨⟨f, hf, e⟩, by rw [← e]; exact hp⟩
theorem Rel.read {A : AD} {R : RS} (h : Rel A R) (s : ByteArray) : A.read s = R.read s ∧ A.has s = R.has s := by
  unfold AD.read RS.read AD.has RS.has
  rw [h.off, isL_fnd h.srt, ← curL_fnd h.srt]
  cases hc : curL R.fs s with
  | none =>
    rw [h.file_none hc]
    simp
  | some f =>
    obtain ⟨x, hx, e1, e2, _⟩ := h.file_some hc
    unfold FA.last FA.wait
    rw [hx]
    cases A.down
    · simp [e1, e2]
    · simp
/-- A call of the document's. -/
def wantR (R : RS) (o : DOp) : Int × RS :=
  if o.kind = 1 then R.append o.name o.data else if o.kind = 2 then R.sync o.name else if o.kind = 3 then R.remove o.name else if o.kind = 4 then (0, R.fuse o.k) else if o.kind = 5 then (0, R.crash o.ks)
  else if o.kind = 6 then R.flip o.name o.k else (0, R)
theorem Rel.did {A A' : AD} {R : RS} {o : DOp} {e : Int} (h : Rel A R) (hd : A.Did o e A') : e = (wantR R o).1 ∧ Rel A' (wantR R o).2 := by
  unfold wantR
  rcases hd with ⟨a, rfl, rfl⟩ | ⟨a, rfl, rfl⟩ | ⟨a, rfl, rfl⟩ | ⟨a, rfl, rfl⟩ | ⟨a, rfl, hc⟩ | ⟨a, rfl, rfl⟩ | ⟨a, rfl, rfl⟩
  · rw [if_pos a]; exact h.append _ _
  · rw [if_neg (by omega), if_pos a]; exact h.sync _
  · rw [if_neg (by omega), if_neg (by omega), if_pos a]; exact h.remove _
  · rw [if_neg (by omega), if_neg (by omega), if_neg (by omega), if_pos a]; exact ⟨rfl, h.fuse _⟩
  · rw [if_neg (by omega), if_neg (by omega), if_neg (by omega), if_neg (by omega), if_pos a]; exact ⟨rfl, h.crash hc⟩
  · rw [if_neg (by omega), if_neg (by omega), if_neg (by omega), if_neg (by omega), if_neg (by omega), if_pos a]; exact h.flip _ _
  · rw [if_neg (by omega), if_neg (by omega), if_neg (by omega), if_neg (by omega), if_neg (by omega), if_neg (by omega)]; exact ⟨rfl, h⟩
theorem Rel.left_bd {A : AD} {R : RS} (h : Rel A R) (hl : A.left ≤ 9223372036854775807) : -1 ≤ R.left ∧ R.left ≤ 9223372036854775807 := by
  rw [h.left]
  split <;> omega
end Go.Proofs.Ytnmogfjbbibeiaa
