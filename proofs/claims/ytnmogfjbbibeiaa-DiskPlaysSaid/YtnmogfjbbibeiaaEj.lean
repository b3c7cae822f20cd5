/- The document's drive: Sync, Remove, Read, Names. -/
import Derived.Test.YtnmogfjbbibeiaaEi
namespace Go.Proofs.Ytnmogfjbbibeiaa
set_option maxRecDepth 100000
open Go.RowKit
set_option linter.unusedVariables false

def RS.oldE (R : RS) (s : ByteArray) : Int := if okName s = false then 1 else if R.off = true then 50 else if isL R.fs s = false then 51 else 0
def syncL (fs : List DF) (s : ByteArray) : List DF := match curL fs s with | none => fs | some f => fs.set (posL fs s) ⟨f.name, f.last ++ f.wait, ⟨#[]⟩, true⟩
def RS.sync (R : RS) (s : ByteArray) : Int × RS :=
  if R.oldE s ≠ 0 then (R.oldE s, R) else if R.left = 0 then (50, { R with off := true }) else (0, R.tick (syncL R.fs s))
def RS.remove (R : RS) (s : ByteArray) : Int × RS :=
  if R.oldE s ≠ 0 then (R.oldE s, R) else if R.left = 0 then (50, { R with off := true }) else (0, R.tick (R.fs.take (posL R.fs s) ++ R.fs.drop (posL R.fs s + 1)))
theorem curL_is {fs : List DF} {s : ByteArray} : (isL fs s = true ↔ ∃ f, curL fs s = some f) := by
  constructor
  · intro h
    cases hc : curL fs s with
    | none => rw [curL_none hc] at h; cases h
    | some f => exact ⟨f, rfl⟩
  · rintro ⟨f, hf⟩
    exact (curL_some hf).1
set_option maxHeartbeats 16000000 in
theorem rsync_any (s : ByteArray) {w : World} {g : Nat} {R : RS} {P : Nat → Prop} (h : RDrv w g R P) (hs : s.size ≤ maxLen) (hW : WR R.fs) (hn : R.fs.length ≤ 1000) (hl : -1 ≤ R.left ∧ R.left ≤ 9223372036854775807) (hc : R.count ≤ 1000000000000) :
    Calls Try.prog 32 #[.pointer (some ⟨g, 0, none⟩), .string s] w (RAns w g P (R.sync s)) := by
  have h0 := h
  obtain ⟨v, h1, h2, h3⟩ := h
  obtain ⟨ok, hok⟩ : ∃ ok, okName s = ok := ⟨_, rfl⟩
  obtain ⟨rr, hrr⟩ : ∃ rr, R.sync s = rr := ⟨_, rfl⟩
  have HRR := Lib.hid hrr
  have HOK := Lib.hid hok
  rw [hrr]
  clear hrr
  unfold RS.sync at HRR
  go_enter Try.func32, Try.ntmps32
  go_wp2_with fail
  refine (rnamed_any s w hs).mono ?_
  rintro e w2 ⟨rfl, rfl⟩
  rw [hok]
  cases ok
  · have HE : Hid (R.oldE s = 1) := Lib.hid (by unfold RS.oldE; rw [if_pos hok])
    have HR := Lib.hid HRR.out
    rw [HE.out, if_pos (by simp)] at HR
    clear hok HRR
    go_wp2_with fail
    go_ret
    exact ⟨by rw [← HR.out]; rfl, by rw [← HR.out]; exact rleft_same h0⟩
  clear hok
  have c2 := h1.blk.cell 2
  obtain ⟨fs, left, off, count⟩ := R
  cases off
  rotate_left
  · have HE : Hid (RS.oldE ⟨fs, left, true, count⟩ s = 50) := Lib.hid (by unfold RS.oldE; rw [if_neg (by rw [HOK.out]; simp), if_pos rfl])
    have HR := Lib.hid HRR.out
    rw [HE.out, if_pos (by simp)] at HR
    clear HRR
    go_wp2_with fail
    go_ret
    exact ⟨by rw [← HR.out]; rfl, by rw [← HR.out]; exact rleft_same h0⟩
  go_wp2_with fail
  refine (at_any s w h1 (by show fs.length ≤ 1000000; have : fs.length ≤ 1000 := hn; omega)).mono ?_
  rintro e w3 ⟨rfl, k3⟩
  have hw3 := h1.kp k3 (by simp) (by simp)
  have hn : fs.length ≤ 1000 := hn
  obtain ⟨i, hi⟩ : ∃ i, posL fs s = i := ⟨_, rfl⟩
  have HI := Lib.hid hi
  obtain ⟨A, c, rfl, hnc, hcm, -⟩ := hw3.row.slice
  rw [show posL (RS.fs ⟨fs, left, false, count⟩) s = i from hi]
  cases hcur : curL fs s with
  | none =>
    have hno := curL_none hcur
    have HE : Hid (RS.oldE ⟨fs, left, false, count⟩ s = 51) := Lib.hid (by unfold RS.oldE; rw [if_neg (by rw [HOK.out]; simp), if_neg (by simp), if_pos hno])
    have HR := Lib.hid HRR.out
    rw [HE.out, if_pos (by simp)] at HR
    rw [show isL (RS.fs ⟨fs, left, false, count⟩) s = false from hno]
    clear hi hcur hno HRR
    go_wp2_with fail
    go_ret
    exact ⟨by rw [← HR.out]; rfl, by rw [← HR.out]; exact rleft_kp h0 k3⟩
  | some f =>
    obtain ⟨hyes, hf, hfn⟩ := curL_some hcur
    rw [hi] at hf
    have HE : Hid (RS.oldE ⟨fs, left, false, count⟩ s = 0) := Lib.hid (by unfold RS.oldE; rw [if_neg (by rw [HOK.out]; simp), if_neg (by simp), if_neg (by rw [hyes]; simp)])
    have HR2 := Lib.hid HRR.out
    rw [HE.out, if_neg (by simp)] at HR2
    have HC := Lib.hid hcur
    have HF := Lib.hid hf
    have hby := hW f (List.mem_of_getElem? hf)
    rw [show isL (RS.fs ⟨fs, left, false, count⟩) s = true from hyes]
    have hilt : i < fs.length := (List.getElem?_eq_some_iff.1 hf).1
    have b1 : (i : Int) < (fs.length : Int) := by omega
    clear hi hcur hyes hf hfn HRR
    go_wp2_with fail
    refine (rstep_any w3 hw3 hl hc).mono ?_
    rintro e w5 (⟨l0, rfl, h5, k5⟩ | ⟨l0, rfl, h5, k5⟩)
    · have HR := Lib.hid HR2.out
      rw [if_pos l0] at HR
      go_wp2_with fail
      go_ret
      exact ⟨by rw [← HR.out]; rfl, by rw [← HR.out]; exact RLeft.before (rleft_mk h5 h2 (fun y hy => .inl (h3 y hy)) (kx_one k5 h2)) k3⟩
    · have HR := Lib.hid HR2.out
      rw [if_neg l0] at HR
      have hd : Kp [] w5 w5.drew := (Kp.rfl_ [] w5).drew
      have h6 := h5.kp hd (by simp) (by simp)
      have d0 : w5.drew.cell? ⟨g, 0, none⟩ = some (.slice A fs.length c) := h6.blk.cell 0
      obtain ⟨gk, hA, r0, r1, r2, r3, z1, z2, z3⟩ := h6.row.at_ HF.out
      subst hA
      have hne : gk ≠ g := fun e => h5.ne (by rw [e]; rfl)
      have q1 : Kp [gk] w5 ((w5.setCell ⟨gk, i * 4 + 1, none⟩ (.string (f.last ++ f.wait))).drew) := (((Kp.rfl_ [gk] w5)).set (by simp) _).drew
      have H1 : FSt ((w5.setCell ⟨gk, i * 4 + 1, none⟩ (.string (f.last ++ f.wait))).drew) g (.slice (some ⟨gk, 0, none⟩) fs.length c) (fs.set i ⟨f.name, f.last ++ f.wait, f.wait, f.sure⟩) (if 0 < left then left - 1 else left) false (count + 1) :=
        ⟨h5.blk.kp q1 (by simpa using fun e => hne e.symm), h6.row.set HF.out (by omega) rfl, h5.ne⟩
      have F1 : (fs.set i ⟨f.name, f.last ++ f.wait, f.wait, f.sure⟩)[i]? = some ⟨f.name, f.last ++ f.wait, f.wait, f.sure⟩ := by rw [List.getElem?_set_self hilt]
      have d1 := H1.blk.cell 0
      obtain ⟨gk1, hA1, -, -, y1c, -, -, y2, -⟩ := H1.row.at_ F1
      have e1 := hA1
      injection e1 with e1
      injection e1 with e1
      subst e1
      have q2 : Kp [gk] w5 (((w5.setCell ⟨gk, i * 4 + 1, none⟩ (.string (f.last ++ f.wait))).setCell ⟨gk, i * 4 + 2, none⟩ (.string ⟨#[]⟩)).drew) := (((Kp.rfl_ [gk] w5).set (by simp) _).set (by simp) _).drew
      have H2 : FSt (((w5.setCell ⟨gk, i * 4 + 1, none⟩ (.string (f.last ++ f.wait))).setCell ⟨gk, i * 4 + 2, none⟩ (.string ⟨#[]⟩)).drew) g (.slice (some ⟨gk, 0, none⟩) fs.length c) ((fs.set i ⟨f.name, f.last ++ f.wait, f.wait, f.sure⟩).set i ⟨f.name, f.last ++ f.wait, ⟨#[]⟩, f.sure⟩) (if 0 < left then left - 1 else left) false (count + 1) :=
        ⟨h5.blk.kp q2 (by simpa using fun e => hne e.symm), H1.row.set F1 (by omega) rfl, h5.ne⟩
      rw [List.set_set] at H2
      have F2 : (fs.set i ⟨f.name, f.last ++ f.wait, ⟨#[]⟩, f.sure⟩)[i]? = some ⟨f.name, f.last ++ f.wait, ⟨#[]⟩, f.sure⟩ := by rw [List.getElem?_set_self hilt]
      have d2 := H2.blk.cell 0
      obtain ⟨gk2, hA2, -, -, -, x3c, -, -, x3⟩ := H2.row.at_ F2
      have e2 := hA2
      injection e2 with e2
      injection e2 with e2
      subst e2
      have q3 : Kp [gk] w5 ((((w5.setCell ⟨gk, i * 4 + 1, none⟩ (.string (f.last ++ f.wait))).setCell ⟨gk, i * 4 + 2, none⟩ (.string ⟨#[]⟩)).setCell ⟨gk, i * 4 + 3, none⟩ (.bool true)).drew) := ((((Kp.rfl_ [gk] w5).set (by simp) _).set (by simp) _).set (by simp) _).drew
      have H3 : FSt ((((w5.setCell ⟨gk, i * 4 + 1, none⟩ (.string (f.last ++ f.wait))).setCell ⟨gk, i * 4 + 2, none⟩ (.string ⟨#[]⟩)).setCell ⟨gk, i * 4 + 3, none⟩ (.bool true)).drew) g (.slice (some ⟨gk, 0, none⟩) fs.length c) ((fs.set i ⟨f.name, f.last ++ f.wait, ⟨#[]⟩, f.sure⟩).set i ⟨f.name, f.last ++ f.wait, ⟨#[]⟩, true⟩) (if 0 < left then left - 1 else left) false (count + 1) :=
        ⟨h5.blk.kp q3 (by simpa using fun e => hne e.symm), H2.row.set F2 (by omega) rfl, h5.ne⟩
      rw [List.set_set] at H3
      have HH := Lib.hid H3
      have hfb : f.last.size + f.wait.size ≤ 1048576 := hby
      clear H1 H2 H3 F1 F2 hA1 hA2
      go_wp2_with fail
      refine region_sq_l (by kernel_rfl) (by kernel_rfl) (calm_of (fun _ _ _ h => h.2) (fun _ _ h => h) RAns.ret) ?_
      go_wp2_with fail
      refine sqQ_end (by rfl) ?_
      go_wp2_with fail
      go_ret
      refine ⟨by rw [← HR.out]; rfl, ?_⟩
      rw [← HR.out]
      have e9 : syncL fs s = fs.set i ⟨f.name, f.last ++ f.wait, ⟨#[]⟩, true⟩ := by unfold syncL; rw [HC.out, HI.out]
      unfold RS.tick
      rw [show syncL (RS.fs ⟨fs, left, false, count⟩) s = fs.set i ⟨f.name, f.last ++ f.wait, ⟨#[]⟩, true⟩ from e9]
      exact RLeft.before (rleft_mk HH.out h2 (fun y hy => .inl (h3 y hy)) ((kx_one k5 h2).then (kx_one (P := P) q3 (h3 gk rfl)) (fun y hy _ => hy))) k3
end Go.Proofs.Ytnmogfjbbibeiaa
