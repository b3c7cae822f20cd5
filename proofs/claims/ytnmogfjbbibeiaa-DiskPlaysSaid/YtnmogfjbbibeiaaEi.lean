/- The document's drive: Append. -/
import Derived.Test.YtnmogfjbbibeiaaEh
namespace Go.Proofs.Ytnmogfjbbibeiaa
set_option maxRecDepth 100000
open Go.RowKit
set_option linter.unusedVariables false

def WR (fs : List DF) : Prop := ∀ f ∈ fs, f.last.size + f.wait.size ≤ 1048576
def curL (fs : List DF) (s : ByteArray) : Option DF := if isL fs s = true then fs[posL fs s]? else none
def szL (fs : List DF) (s : ByteArray) : Nat := match curL fs s with | none => 0 | some f => f.last.size + f.wait.size
def appL (fs : List DF) (s x : ByteArray) : List DF := match curL fs s with
  | none => fs.take (posL fs s) ++ [⟨s, ⟨#[]⟩, x, false⟩] ++ fs.drop (posL fs s)
  | some f => fs.set (posL fs s) ⟨f.name, f.last, f.wait ++ x, f.sure⟩
def RS.tick (R : RS) (fs : List DF) : RS := ⟨fs, if 0 < R.left then R.left - 1 else R.left, R.off, R.count + 1⟩
def RS.append (R : RS) (s x : ByteArray) : Int × RS :=
  if okName s = false then (1, R) else if R.off = true then (50, R)
  else if 1048576 < szL R.fs s + x.size then (52, R)
  else if R.left = 0 then (50, { R with off := true })
  else (0, R.tick (appL R.fs s x))
theorem curL_some {fs : List DF} {s : ByteArray} {f : DF} (h : curL fs s = some f) : isL fs s = true ∧ fs[posL fs s]? = some f ∧ f.name = s := by
  unfold curL at h
  split at h
  · rename_i h1
    refine ⟨h1, h, ?_⟩
    unfold isL at h1
    rw [h] at h1
    simpa using h1
  · cases h
theorem curL_none {fs : List DF} {s : ByteArray} (h : curL fs s = none) : isL fs s = false := by
  unfold curL at h
  split at h
  · rename_i h1
    unfold isL at h1
    rw [h] at h1
    cases h1
  · rename_i h1
    simpa using h1
def RAns (w : World) (g : Nat) (P : Nat → Prop) (x : Int × RS) (e : Ending) (w' : World) : Prop := e = .returned (.int .i64 x.1) ∧ RLeft w g x.2 P w'
theorem RAns.ret {w : World} {g : Nat} {P : Nat → Prop} {x : Int × RS} (e : Ending) (w' : World) (h : RAns w g P x e w') : ∃ v, e = .returned v := ⟨_, h.1⟩
theorem szi (a b : Nat) (ha : a ≤ 1048576) : IntKind.i64.wrap (1048576 - (a : Int)) = 1048576 - (a : Int) := IntWalk.i64_in _ (by omega)
theorem rleft_mk {w w' : World} {g : Nat} {v : Value} {fs : List DF} {left : Int} {off : Bool} {count : Nat} {P : Nat → Prop} (h : FSt w' g v fs left off count) (h2 : P g) (h3 : ∀ x, v.ownBlock = some x → P x ∨ w.heap.size ≤ x) (k : KX P w w') : RLeft w g ⟨fs, left, off, count⟩ P w' :=
  ⟨⟨v, h, .inl h2, h3⟩, k⟩
theorem kx_one {P : Nat → Prop} {w w' : World} {g : Nat} (k : Kp [g] w w') (h : P g) : KX P w w' := KX.of k fun y hy => by simp at hy; rw [hy]; exact h
theorem ins_len (fs : List DF) (i : Nat) (f : DF) (hi : i ≤ fs.length) : (fs.take i ++ [f] ++ fs.drop i).length = fs.length + 1 := by simp; omega
theorem ins_at (fs : List DF) (i : Nat) (f : DF) (hi : i ≤ fs.length) : (fs.take i ++ [f] ++ fs.drop i)[i]? = some f := by
  have hl : (fs.take i).length = i := by simp; omega
  rw [List.append_assoc, List.getElem?_append_right (by omega), hl, Nat.sub_self]
  rfl
theorem ins_set (fs : List DF) (i : Nat) (f f' : DF) (hi : i ≤ fs.length) : (fs.take i ++ [f] ++ fs.drop i).set i f' = fs.take i ++ [f'] ++ fs.drop i := by
  have hl : (fs.take i).length = i := by simp; omega
  rw [List.append_assoc, List.set_append_right _ _ (by omega), hl, Nat.sub_self, List.append_assoc]
  rfl
/-- Behind an append: the header stored. -/
theorem stored_ {w w8 : World} {g base i : Nat} {v v8 : Value} {fs L : List DF} {left : Int} {off : Bool} {count : Nat} {f : DF} (h8 : FSt w8 g v fs left off count) (ho : FO base w8 v8 L) (hg : g < base) (hk : Kp [] w w8) (hf : L[i]? = some f) :
    FSt (w8.setCell ⟨g, 0, none⟩ v8) g v8 L left off count ∧ Kp [g] w8 (w8.setCell ⟨g, 0, none⟩ v8) ∧ ∃ A c, v8 = .slice A L.length c ∧ (w8.setCell ⟨g, 0, none⟩ v8).cell? ⟨g, 0, none⟩ = some v8 ∧ ∃ g8, A = some ⟨g8, 0, none⟩ ∧ base ≤ g8 ∧
      (w8.setCell ⟨g, 0, none⟩ v8).cell? ⟨g8, i * 4 + 2, none⟩ = some (.string f.wait) ∧ (w8.setCell ⟨g, 0, none⟩ v8).frozen? ⟨g8, i * 4 + 2, none⟩ = false := by
  have k1 : Kp [g] w8 (w8.setCell ⟨g, 0, none⟩ v8) := (Kp.rfl_ [g] w8).set (by simp) _
  have hne : ∀ x, v8.ownBlock = some x → x ≠ g := fun x hx => by have := ho.base hx; omega
  have h9 : FSt (w8.setCell ⟨g, 0, none⟩ v8) g v8 L left off count := ⟨h8.blk.set 0 v8, ho.row.kp k1 (fun x hx => by simpa using hne x hx), fun e => hne g e rfl⟩
  have d0 := h9.blk.cell 0
  obtain ⟨A, c, rfl, -⟩ := ho.row.slice
  obtain ⟨g8, rfl, -, -, y2, -, -, z2, -⟩ := h9.row.at_ hf
  exact ⟨h9, k1, _, c, rfl, d0, g8, rfl, ho.base rfl, y2, z2⟩
set_option maxHeartbeats 16000000 in
theorem rappend_any (s x : ByteArray) {w : World} {g : Nat} {R : RS} {P : Nat → Prop} (h : RDrv w g R P) (hs : s.size ≤ maxLen) (hx : x.size ≤ 1099511627776) (hW : WR R.fs) (hn : R.fs.length ≤ 1000) (hl : -1 ≤ R.left ∧ R.left ≤ 9223372036854775807) (hc : R.count ≤ 1000000000000) :
    Calls Try.prog 31 #[.pointer (some ⟨g, 0, none⟩), .string s, .string x] w (RAns w g P (R.append s x)) := by
  have h0 := h
  obtain ⟨v, h1, h2, h3⟩ := h
  obtain ⟨ok, hok⟩ : ∃ ok, okName s = ok := ⟨_, rfl⟩
  obtain ⟨rr, hrr⟩ : ∃ rr, R.append s x = rr := ⟨_, rfl⟩
  have HRR := Lib.hid hrr
  have HOK := Lib.hid hok
  rw [hrr]
  clear hrr
  unfold RS.append at HRR
  go_enter Try.func31, Try.ntmps31
  go_wp2_with fail
  refine (rnamed_any s w hs).mono ?_
  rintro e w2 ⟨rfl, rfl⟩
  rw [hok]
  cases ok
  · have HR := Lib.hid HRR.out
    rw [if_pos hok] at HR
    clear hok HRR
    go_wp2_with fail
    go_ret
    exact ⟨by rw [← HR.out]; rfl, by rw [← HR.out]; exact rleft_same h0⟩
  have HR1 := Lib.hid HRR.out
  rw [if_neg (by rw [hok]; simp)] at HR1
  clear hok HRR
  have c2 := h1.blk.cell 2
  obtain ⟨fs, left, off, count⟩ := R
  cases off
  rotate_left
  · have HR := Lib.hid HR1.out
    rw [if_pos rfl] at HR
    clear HR1
    go_wp2_with fail
    go_ret
    exact ⟨by rw [← HR.out]; rfl, by rw [← HR.out]; exact rleft_same h0⟩
  have HR2 := Lib.hid HR1.out
  rw [if_neg (by simp)] at HR2
  clear HR1
  go_wp2_with fail
  refine (at_any s w h1 (by show fs.length ≤ 1000000; have : fs.length ≤ 1000 := hn; omega)).mono ?_
  rintro e w3 ⟨rfl, k3⟩
  have hw3 := h1.kp k3 (by simp) (by simp)
  have hR3 := h0.kp k3
  have hn : fs.length ≤ 1000 := hn
  obtain ⟨i, hi⟩ : ∃ i, posL fs s = i := ⟨_, rfl⟩
  have hile : i ≤ fs.length := by rw [← hi]; exact posL_le fs s
  have HI := Lib.hid hi
  have hrow0 := hw3.row
  obtain ⟨A, c, rfl, hnc, hcm, -⟩ := hw3.row.slice
  rw [show posL (RS.fs ⟨fs, left, false, count⟩) s = i from hi]
  cases hcur : curL fs s with
  | none =>
    have hno := curL_none hcur
    have HC := Lib.hid hcur
    rw [show isL (RS.fs ⟨fs, left, false, count⟩) s = false from hno]
    clear hi hcur hno
    have hd : Kp [] w3 w3.drew := (Kp.rfl_ [] w3).drew
    by_cases hbig : 1048576 < (x.size : Int)
    · have HR := Lib.hid HR2.out
      rw [if_pos (by unfold szL; rw [HC.out]; show 1048576 < 0 + x.size; omega)] at HR
      go_wp2_with fail
      refine region_sq_l (by kernel_rfl) (by kernel_rfl) (calm_of (fun _ _ _ h => h.2) (fun _ _ h => h) RAns.ret) ?_
      go_wp2_with fail
      refine sqQ_end (by rfl) ?_
      go_wp2_with fail
      go_ret
      exact ⟨by rw [← HR.out]; rfl, by rw [← HR.out]; exact rleft_kp h0 (k3.trans hd)⟩
    · have HR3 := Lib.hid HR2.out
      rw [if_neg (by unfold szL; rw [HC.out]; show ¬ 1048576 < 0 + x.size; omega)] at HR3
      have hb2 : decide (1048576 < (x.size : Int)) = false := decide_eq_false hbig
      have HBIG := Lib.hid hbig
      clear hbig
      go_wp2_with fail
      refine region_sq_l (by kernel_rfl) (by kernel_rfl) (calm_of (fun _ _ _ h => h.2) (fun _ _ h => h) RAns.ret) ?_
      go_wp2_with fail
      refine sqQ_end (by rfl) ?_
      have hw4 := hw3.kp hd (by simp) (by simp)
      have hk4 := k3.trans hd
      clear hb2
      generalize w3.drew = w4 at *
      go_wp2_with fail
      refine (rstep_any w4 hw4 hl hc).mono ?_
      rintro e w5 (⟨l0, rfl, h5, k5⟩ | ⟨l0, rfl, h5, k5⟩)
      · have HR := Lib.hid HR3.out
        rw [if_pos l0] at HR
        go_wp2_with fail
        go_ret
        exact ⟨by rw [← HR.out]; rfl, by rw [← HR.out]; exact RLeft.before (rleft_mk h5 h2 (fun y hy => .inl (h3 y hy)) (kx_one k5 h2)) hk4⟩
      · have HR := Lib.hid HR3.out
        rw [if_neg l0] at HR
        have hka : Kp [] w5 (w5.alloc (.cells #[] 64)) := (Kp.rfl_ [] w5).alloc _
        have d0 := (h5.kp hka (by simp) (by simp)).blk.cell 0
        obtain ⟨B, hsl, hsrc, -⟩ := back_f h5.row hile rfl hnc
        have hsrc2 := hsrc.kp hka (by simp)
        have hb5 := fun w => front_cut A fs.length c i (by omega) w
        go_upto_region 12 with (at_builtin; go_must (refine wpl_fapp w5.heap.size rfl _ _ rfl rfl (.slice (some ⟨w5.heap.size, 0, none⟩) 0 0) [] (FO.empty w5) rfl B _ _ (fs.drop i) rfl (by simp) hsrc2 (by simp; omega) (by simp) ?_); intro v6 w6 ho6 hk6 hv6)
        rw [List.nil_append] at ho6
        obtain ⟨A6, c6, hv6s, hc6, -, -, -⟩ := ho6.row.slice
        subst hv6s
        have hk56 : Kp [] w5 w6 := hka.then hk6 (fun z hz hlt => by simp [Value.ownBlock] at hz; omega)
        have h6 := h5.kp hk56 (by simp) (by simp)
        have d6 := h6.blk.cell 0
        have hl6 : (fs.drop i).length ≤ 1000 := by simp; omega
        go_wp2_with (at_builtin; first | (refine wpl_cut w6 rfl _ _ rfl rfl A fs.length c i fs ⟨s, ⟨#[]⟩, ⟨#[]⟩, false⟩ h6.row hile rfl rfl (by omega) ?_; intro v7 w7 ho7 hk7) | go_must (refine wpl_fapp w6.heap.size rfl _ _ rfl rfl v7 (fs.take i ++ [⟨s, ⟨#[]⟩, ⟨#[]⟩, false⟩]) ho7 rfl A6 (fs.length - i) c6 (fs.drop i) rfl (by simp) (ho6.row.src.kp hk7 (by simp)) (by simp; omega) hk7.size ?_); intro v8 w8 ho8 hk8 hv8; have hk68 : Kp [] w6 w8 := hk7.then hk8 (fun z hz hlt => by have := ho7.base (x := z) (by simpa using hz); omega); have h8 := h6.kp hk68 (by simp) (by simp); have f8 := h8.blk.frozen 0; have q8 := h8.blk.cell 0; obtain ⟨h9, hk9, A8, c8, rfl, d9, g8, hA8, y0, y1, y2⟩ := stored_ h8 (ho8.lower (base' := w5.heap.size) hk56.size) h5.blk.lt hk68 (i := i) (f := ⟨s, ⟨#[]⟩, ⟨#[]⟩, false⟩) (ins_at fs i _ hile); subst hA8; have hlen8 : (fs.take i ++ [(⟨s, ⟨#[]⟩, ⟨#[]⟩, false⟩ : DF)] ++ fs.drop i).length = fs.length + 1 := ins_len fs i _ hile; rw [hlen8] at h9 hk9 d9 y1 y2 ⊢; have bi : (i : Int) < (fs.length : Int) + 1 := by omega)
        have hne8 : g8 ≠ g := by have := h5.blk.lt; omega
        have k10 : Kp [g8] (w8.setCell ⟨g, 0, none⟩ (.slice (some ⟨g8, 0, none⟩) (fs.length + 1) c8)) ((w8.setCell ⟨g, 0, none⟩ (.slice (some ⟨g8, 0, none⟩) (fs.length + 1) c8)).setCell ⟨g8, i * 4 + 2, none⟩ (.string (⟨#[]⟩ ++ x))) := (Kp.rfl_ [g8] _).set (by simp) _
        have h10 : FSt ((w8.setCell ⟨g, 0, none⟩ (.slice (some ⟨g8, 0, none⟩) (fs.length + 1) c8)).setCell ⟨g8, i * 4 + 2, none⟩ (.string (⟨#[]⟩ ++ x))) g (.slice (some ⟨g8, 0, none⟩) (fs.length + 1) c8) (fs.take i ++ [⟨s, ⟨#[]⟩, ⟨#[]⟩ ++ x, false⟩] ++ fs.drop i) (if 0 < left then left - 1 else left) false (count + 1) :=
          ⟨h9.blk.kp k10 (by simpa using fun e => hne8 e.symm), by have := h9.row.set (j := 2) (f' := ⟨s, ⟨#[]⟩, ⟨#[]⟩ ++ x, false⟩) (u := .string (⟨#[]⟩ ++ x)) (ins_at fs i _ hile) (by omega) rfl; rwa [ins_set fs i _ _ hile] at this, h9.ne⟩
        have H10 := Lib.hid h10
        clear h10 h9 y1 y2 d9
        go_ret
        refine ⟨by rw [← HR.out]; rfl, ?_⟩
        rw [← HR.out]
        have e9 : appL fs s x = fs.take i ++ [⟨s, ⟨#[]⟩, ⟨#[]⟩ ++ x, false⟩] ++ fs.drop i := by unfold appL; rw [HC.out, HI.out, show ByteArray.mk #[] ++ x = x from ByteArray.empty_append]
        unfold RS.tick
        rw [show appL (RS.fs ⟨fs, left, false, count⟩) s x = fs.take i ++ [⟨s, ⟨#[]⟩, ⟨#[]⟩ ++ x, false⟩] ++ fs.drop i from e9]
        have h58 : w5.heap.size ≤ w8.heap.size := Nat.le_trans hk56.size hk68.size
        have kk : KX P w4 ((w8.setCell ⟨g, 0, none⟩ (.slice (some ⟨g8, 0, none⟩) (fs.length + 1) c8)).setCell ⟨g8, i * 4 + 2, none⟩ (.string (⟨#[]⟩ ++ x))) := by
          have a1 := (kx_one k5 h2).then (KX.of (P := P) hk56 (by simp)) (fun y hy _ => hy)
          have a2 := a1.then (KX.of (P := P) hk68 (by simp)) (fun y hy _ => hy)
          have a3 := a2.then (kx_one (P := P) hk9 h2) (fun y hy _ => hy)
          exact a3.then (KX.of (P := fun y => w4.heap.size ≤ y) k10 (fun y hy => by simp at hy; have := k5.size; omega)) (fun y hy hlt => by omega)
        exact RLeft.before (rleft_mk H10.out h2 (fun y hy => .inr (by have : g8 = y := by simpa [Value.ownBlock] using hy
                                                                      have := k5.size
                                                                      omega)) kk) hk4
  | some f =>
    obtain ⟨hyes, hf, hfn⟩ := curL_some hcur
    rw [hi] at hf
    have HC := Lib.hid hcur
    have HF := Lib.hid hf
    have hby := hW f (List.mem_of_getElem? hf)
    rw [show isL (RS.fs ⟨fs, left, false, count⟩) s = true from hyes]
    obtain ⟨gk, hA, r0, r1, r2, r3, z1, z2, z3⟩ := hrow0.at_ hf
    subst hA
    have hilt : i < fs.length := (List.getElem?_eq_some_iff.1 hf).1
    have b1 : (i : Int) < (fs.length : Int) := by omega
    have d0 := hw3.blk.cell 0
    have e0 : w3.drew.cell? ⟨g, 0, none⟩ = some (.slice (some ⟨gk, 0, none⟩) fs.length c) := d0
    have e1 : w3.drew.cell? ⟨gk, i * 4 + 1, none⟩ = some (.string f.last) := r1
    have e2 : w3.drew.cell? ⟨gk, i * 4 + 2, none⟩ = some (.string f.wait) := r2
    have hs1 : IntKind.i64.wrap (1048576 - (f.last.size : Int)) = 1048576 - (f.last.size : Int) := IntWalk.i64_in _ (by omega)
    have hs2 : IntKind.i64.wrap (1048576 - (f.last.size : Int) - (f.wait.size : Int)) = 1048576 - (f.last.size : Int) - (f.wait.size : Int) := IntWalk.i64_in _ (by omega)
    have hd : Kp [] w3 w3.drew := (Kp.rfl_ [] w3).drew
    clear hi hcur hyes hf hfn r0 r3 z1 z3
    by_cases hbig : 1048576 - (f.last.size : Int) - (f.wait.size : Int) < (x.size : Int)
    · have HR := Lib.hid HR2.out
      rw [if_pos (by unfold szL; rw [HC.out]; show 1048576 < f.last.size + f.wait.size + x.size; omega)] at HR
      go_wp2_with fail
      refine region_sq_l (by kernel_rfl) (by kernel_rfl) (calm_of (fun _ _ _ h => h.2) (fun _ _ h => h) RAns.ret) ?_
      go_wp2_with fail
      refine sqQ_end (by rfl) ?_
      go_wp2_with fail
      go_ret
      exact ⟨by rw [← HR.out]; rfl, by rw [← HR.out]; exact rleft_kp h0 (k3.trans hd)⟩
    · have HR3 := Lib.hid HR2.out
      rw [if_neg (by unfold szL; rw [HC.out]; show ¬ 1048576 < f.last.size + f.wait.size + x.size; omega)] at HR3
      have hb2 : decide (1048576 < (x.size : Int)) = false := decide_eq_false (by omega)
      have hb3 : decide (1048576 - (f.last.size : Int) - (f.wait.size : Int) < (x.size : Int)) = false := decide_eq_false hbig
      have HBIG := Lib.hid hbig
      clear hbig
      go_wp2_with fail
      refine region_sq_l (by kernel_rfl) (by kernel_rfl) (calm_of (fun _ _ _ h => h.2) (fun _ _ h => h) RAns.ret) ?_
      go_wp2_with fail
      refine sqQ_end (by rfl) ?_
      have hw4 := hw3.kp hd (by simp) (by simp)
      have hk4 := k3.trans hd
      clear e0 e1 e2 d0 r1 r2 z2 hs1 hs2 hb2 hb3
      generalize w3.drew = w4 at *
      go_wp2_with fail
      refine (rstep_any w4 hw4 hl hc).mono ?_
      rintro e w5 (⟨l0, rfl, h5, k5⟩ | ⟨l0, rfl, h5, k5⟩)
      · have HR := Lib.hid HR3.out
        rw [if_pos l0] at HR
        go_wp2_with fail
        go_ret
        exact ⟨by rw [← HR.out]; rfl, by rw [← HR.out]; exact RLeft.before (rleft_mk h5 h2 (fun y hy => .inl (h3 y hy)) (kx_one k5 h2)) hk4⟩
      · have HR := Lib.hid HR3.out
        rw [if_neg l0] at HR
        obtain ⟨gk', hA', r0, r1, r2, r3, z1, z2, z3⟩ := h5.row.at_ HF.out
        have e := hA'
        injection e with e
        injection e with e
        subst e
        have d0 := h5.blk.cell 0
        have hne : gk ≠ g := fun e => h5.ne (by rw [e]; rfl)
        have k6 : Kp [gk] w5 (w5.setCell ⟨gk, i * 4 + 2, none⟩ (.string (f.wait ++ x))) := (Kp.rfl_ [gk] w5).set (by simp) _
        have h6 : FSt (w5.setCell ⟨gk, i * 4 + 2, none⟩ (.string (f.wait ++ x))) g (.slice (some ⟨gk, 0, none⟩) fs.length c) (fs.set i ⟨f.name, f.last, f.wait ++ x, f.sure⟩) (if 0 < left then left - 1 else left) false (count + 1) :=
          ⟨h5.blk.kp k6 (by simpa using fun e => hne e.symm), h5.row.set HF.out (by omega) rfl, h5.ne⟩
        have H6 := Lib.hid h6
        have hszw : (f.wait.size : Int) ≤ 1048576 := by omega
        clear h6 r0 r1 r3 z1 z3
        go_wp2_with fail
        go_ret
        refine ⟨by rw [← HR.out]; rfl, ?_⟩
        rw [← HR.out]
        have e9 : appL fs s x = fs.set i ⟨f.name, f.last, f.wait ++ x, f.sure⟩ := by unfold appL; rw [HC.out, HI.out]
        unfold RS.tick
        rw [show appL (RS.fs ⟨fs, left, false, count⟩) s x = fs.set i ⟨f.name, f.last, f.wait ++ x, f.sure⟩ from e9]
        exact RLeft.before (rleft_mk H6.out h2 (fun y hy => .inl (h3 y hy)) ((kx_one k5 h2).then (kx_one (P := P) k6 (h3 gk rfl)) (fun y hy _ => hy))) hk4
end Go.Proofs.Ytnmogfjbbibeiaa
