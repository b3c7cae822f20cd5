/- The document's drive: Remove, Read, Names. -/
import Derived.Test.YtnmogfjbbibeiaaEj
namespace Go.Proofs.Ytnmogfjbbibeiaa
set_option maxRecDepth 100000
open Go.RowKit
set_option linter.unusedVariables false

/-- append of files that are read onto a row that was cut. -/
theorem run_cut2 (w : World) (A : Option Addr) (n c i : Nat) (fs ms : List DF) (h : FRow w (.slice A n c) fs) (hi : i ≤ fs.length) (B : Option Addr) (c' : Nat) (hr : FSrc w B ms) (hn : fs.length + ms.length ≤ 1000000) :
    ∃ v' w', (Builtin.append_ #[58, 58] 58 #[.slice A i i, .slice B ms.length c']).run Try.prog w = .ok v' w' ∧ FRow w' v' (fs.take i ++ ms) ∧ Kp [] w w' ∧ (∀ x, v'.ownBlock = some x → (Value.slice A n c).ownBlock = some x ∨ w.heap.size ≤ x) := by
  rcases Nat.eq_zero_or_pos ms.length with h0 | h0
  · have hm : ms = [] := List.eq_nil_of_length_eq_zero h0
    subst hm
    obtain ⟨inf, hi0, hz, h1, h2⟩ := finfo_parts finfo
    have hl : (fs.take i).length = i := by simp; omega
    have hrow : FRow w (.slice A i i) (fs.take i ++ []) := by
      rw [List.append_nil]
      rcases h with ⟨h3, h4⟩ | ⟨g, c0, cur, hv, h3, h4, hg, h5⟩
      · injection h3 with a1 a2 a3
        subst a1
        subst h4
        obtain rfl : i = 0 := by simpa using hi
        exact .inl ⟨rfl, rfl⟩
      · injection hv with e1 e2 e3
        subst e1
        refine .inr ⟨g, i, cur, by rw [hl], by rw [hl]; exact Nat.le_refl _, by omega, hg, ?_⟩
        have e4 : fcs fs = fcs (fs.take i) ++ fcs (fs.drop i) := by rw [← fcs_append, List.take_append_drop]
        have e5 : (cur.toList.take (fs.length * 4)).take (i * 4) = cur.toList.take (i * 4) := by rw [List.take_take]; congr 1; omega
        have e6 : i * 4 = (fcs (fs.take i)).length := by rw [fcs_len, hl]
        rw [hl, ← e5, h5, e4, e6, List.take_left]
    refine ⟨.slice A i i, w, ?_, hrow, Kp.rfl_ _ _, fun x hx => .inl ?_⟩
    · have hle : ¬ (9223372036854775807 < ((i : Int))) := by omega
      cases B <;> cases A <;> simp [Builtin.append_, run_underlying Try.underlying58, sizeOf, typeInfo, hi0, Builtin.lenOf, Builtin.firstCells, storeCells, loadCells, loadCellsFrom]
    · cases A with
      | none => simp [Value.ownBlock] at hx
      | some a => simpa [Value.ownBlock] using hx
  · obtain ⟨ad, rfl, hc⟩ := hr h0
    obtain ⟨v', w', hrun, h3, h4⟩ := run_cut w A n c i fs ms h hi ad c' hc h0 hn
    exact ⟨v', w', hrun, h3.row, h4, fun x hx => .inr (h3.base hx)⟩
theorem wpl_cut2 {ops : Array Oper} {rest : List Oper} {o : Oper} {a : Act} {Q : Exit → Act → World → Prop} {w : World} (hgd : o.guard = none) (s x : Operand)
    (ho : o.op = .call { callee := .builtin .append, args := #[s, x], argTypes := #[58, 58] }) (hty : o.type = 58) (A : Option Addr) (n c i : Nat) (fs ms : List DF)
    (hrow : FRow w (.slice A n c) fs) (hi : i ≤ fs.length) (hs : a.eval s = .slice A i i) (B : Option Addr) (m c' : Nat) (hx : a.eval x = .slice B m c') (hm : m = ms.length) (hr : FSrc w B ms) (hn : fs.length + ms.length ≤ 1000000)
    (h : ∀ v' w', FRow w' v' (fs.take i ++ ms) → Kp [] w w' → (∀ x, v'.ownBlock = some x → (Value.slice A n c).ownBlock = some x ∨ w.heap.size ≤ x) → wpList Try.prog ops Q rest (a.put o.dst v') w') : wpList Try.prog ops Q (o :: rest) a w := by
  subst hm
  refine wpList_plain hgd fun K hK => ?_
  obtain ⟨v', w', hrun, h3, h4, h5⟩ := run_cut2 w A n c i fs ms hrow hi B c' hr hn
  unfold Oper.wp execOp
  simp only [ho, hty, resolve, invoke, builtin, Sem.run_bind, Sem.run_pure, Result.andThen_ok, List.map_toArray, List.map_cons, List.map_nil, hs, hx, hrun]
  exact hK _ _ (h v' w' h3 h4 h5)
set_option maxHeartbeats 16000000 in
theorem rremove_any (s : ByteArray) {w : World} {g : Nat} {R : RS} {P : Nat → Prop} (h : RDrv w g R P) (hs : s.size ≤ maxLen) (hW : WR R.fs) (hn : R.fs.length ≤ 1000) (hl : -1 ≤ R.left ∧ R.left ≤ 9223372036854775807) (hc : R.count ≤ 1000000000000) :
    Calls Try.prog 33 #[.pointer (some ⟨g, 0, none⟩), .string s] w (RAns w g P (R.remove s)) := by
  have h0 := h
  obtain ⟨v, h1, h2, h3⟩ := h
  obtain ⟨ok, hok⟩ : ∃ ok, okName s = ok := ⟨_, rfl⟩
  obtain ⟨rr, hrr⟩ : ∃ rr, R.remove s = rr := ⟨_, rfl⟩
  have HRR := Lib.hid hrr
  have HOK := Lib.hid hok
  rw [hrr]
  clear hrr
  unfold RS.remove at HRR
  go_enter Try.func33, Try.ntmps33
  go_wp2_with fail
  refine (rnamed_any s w hs).mono ?_
  rintro e w2 ⟨rfl, rfl⟩
  rw [hok]
  cases ok
  · have HE : Hid (R.oldE s = 1) := Lib.hid (by unfold RS.oldE; rw [if_pos hok])
    have HR := Lib.hid HRR.out
    rw [HE.out, if_pos (by simp)] at HR
    clear hok HRR
    go_wp2_with fail
    go_ret
    exact ⟨by rw [← HR.out]; rfl, by rw [← HR.out]; exact rleft_same h0⟩
  clear hok
  have c2 := h1.blk.cell 2
  obtain ⟨fs, left, off, count⟩ := R
  cases off
  rotate_left
  · have HE : Hid (RS.oldE ⟨fs, left, true, count⟩ s = 50) := Lib.hid (by unfold RS.oldE; rw [if_neg (by rw [HOK.out]; simp), if_pos rfl])
    have HR := Lib.hid HRR.out
    rw [HE.out, if_pos (by simp)] at HR
    clear HRR
    go_wp2_with fail
    go_ret
    exact ⟨by rw [← HR.out]; rfl, by rw [← HR.out]; exact rleft_same h0⟩
  go_wp2_with fail
  refine (at_any s w h1 (by show fs.length ≤ 1000000; have : fs.length ≤ 1000 := hn; omega)).mono ?_
  rintro e w3 ⟨rfl, k3⟩
  have hw3 := h1.kp k3 (by simp) (by simp)
  have hn : fs.length ≤ 1000 := hn
  obtain ⟨i, hi⟩ : ∃ i, posL fs s = i := ⟨_, rfl⟩
  have HI := Lib.hid hi
  obtain ⟨A, c, rfl, hnc, hcm, -⟩ := hw3.row.slice
  rw [show posL (RS.fs ⟨fs, left, false, count⟩) s = i from hi]
  cases hcur : curL fs s with
  | none =>
    have hno := curL_none hcur
    have HE : Hid (RS.oldE ⟨fs, left, false, count⟩ s = 51) := Lib.hid (by unfold RS.oldE; rw [if_neg (by rw [HOK.out]; simp), if_neg (by simp), if_pos hno])
    have HR := Lib.hid HRR.out
    rw [HE.out, if_pos (by simp)] at HR
    rw [show isL (RS.fs ⟨fs, left, false, count⟩) s = false from hno]
    clear hi hcur hno HRR
    go_wp2_with fail
    go_ret
    exact ⟨by rw [← HR.out]; rfl, by rw [← HR.out]; exact rleft_kp h0 k3⟩
  | some f =>
    obtain ⟨hyes, hf, hfn⟩ := curL_some hcur
    rw [hi] at hf
    have HE : Hid (RS.oldE ⟨fs, left, false, count⟩ s = 0) := Lib.hid (by unfold RS.oldE; rw [if_neg (by rw [HOK.out]; simp), if_neg (by simp), if_neg (by rw [hyes]; simp)])
    have HR2 := Lib.hid HRR.out
    rw [HE.out, if_neg (by simp)] at HR2
    have HC := Lib.hid hcur
    have HF := Lib.hid hf
    have hby := hW f (List.mem_of_getElem? hf)
    rw [show isL (RS.fs ⟨fs, left, false, count⟩) s = true from hyes]
    have hilt : i < fs.length := (List.getElem?_eq_some_iff.1 hf).1
    have b1 : (i : Int) < (fs.length : Int) := by omega
    clear hi hcur hyes hf hfn HRR
    go_wp2_with fail
    refine (rstep_any w3 hw3 hl hc).mono ?_
    rintro e w5 (⟨l0, rfl, h5, k5⟩ | ⟨l0, rfl, h5, k5⟩)
    · have HR := Lib.hid HR2.out
      rw [if_pos l0] at HR
      go_wp2_with fail
      go_ret
      exact ⟨by rw [← HR.out]; rfl, by rw [← HR.out]; exact RLeft.before (rleft_mk h5 h2 (fun y hy => .inl (h3 y hy)) (kx_one k5 h2)) k3⟩
    · have HR := Lib.hid HR2.out
      rw [if_neg l0] at HR
      have hd : Kp [] w5 w5.drew := (Kp.rfl_ [] w5).drew
      have h6 := h5.kp hd (by simp) (by simp)
      have d0 : w5.drew.cell? ⟨g, 0, none⟩ = some (.slice A fs.length c) := h6.blk.cell 0
      obtain ⟨gk, hA, r0, r1, r2, r3, z1, z2, z3⟩ := h6.row.at_ HF.out
      subst hA
      have hne : gk ≠ g := fun e => h5.ne (by rw [e]; rfl)
      clear r0 r1 r2 r3 z1 z2 z3
      have hsl0 := fun w => front_cut (some ⟨gk, 0, none⟩) fs.length c i (by omega) w
      obtain ⟨B, hsl, hsrc, -⟩ := back_f (i := i + 1) h6.row (by omega) rfl hnc
      have hsl : ∀ w, (Instr.sliceAt 58 (.slice (some ⟨gk, 0, none⟩) fs.length c) (some (.int .i64 ((i : Int) + 1))) none none).run Try.prog w = .ok (.slice B (fs.drop (i + 1)).length (c - (i + 1))) w := hsl
      go_wp2_with fail
      refine region_sq_l (by kernel_rfl) (by kernel_rfl) (calm_of (fun _ _ _ h => h.2) (fun _ _ h => h) RAns.ret) ?_
      go_wp2_with (at_builtin; go_must (refine wpl_cut2 rfl _ _ rfl rfl (some ⟨gk, 0, none⟩) fs.length c i fs (fs.drop (i + 1)) h6.row (by omega) rfl B _ _ rfl (by simp) hsrc (by simp; omega) ?_); intro v8 w8 ho8 hk8 hv8; have h8 := h6.kp hk8 (by simp) (by simp); have f8 := h8.blk.frozen 0; have q8 := h8.blk.cell 0; obtain ⟨A8, c8, rfl, -⟩ := ho8.slice)
      refine sqQ_end (by rfl) ?_
      have k9 : Kp [g] w8 (w8.setCell ⟨g, 0, none⟩ (.slice A8 (fs.take i ++ fs.drop (i + 1)).length c8)) := (Kp.rfl_ [g] w8).set (by simp) _
      have hne8 : ∀ x, (Value.slice A8 (fs.take i ++ fs.drop (i + 1)).length c8).ownBlock = some x → x ≠ g := fun x hx => by
        rcases hv8 x hx with h | h
        · obtain rfl : gk = x := by simpa [Value.ownBlock] using h
          exact hne
        · have := h6.blk.lt; omega
      have h9 : FSt (w8.setCell ⟨g, 0, none⟩ (.slice A8 (fs.take i ++ fs.drop (i + 1)).length c8)) g (.slice A8 (fs.take i ++ fs.drop (i + 1)).length c8) (fs.take i ++ fs.drop (i + 1)) (if 0 < left then left - 1 else left) false (count + 1) :=
        ⟨h8.blk.set 0 _, ho8.kp k9 (fun x hx => by simpa using hne8 x hx), fun e => hne8 g e rfl⟩
      have H9 := Lib.hid h9
      have K9 : Hid (Kp [g] w5 (w8.setCell ⟨g, 0, none⟩ (.slice A8 (fs.take i ++ fs.drop (i + 1)).length c8))) := Lib.hid (((hd.trans hk8).mono (T := [g]) (by simp)).trans k9)
      have HV8 := Lib.hid hv8
      clear h9 k9 hne8 hv8 ho8
      go_wp2_with fail
      go_ret
      refine ⟨by rw [← HR.out]; rfl, ?_⟩
      rw [← HR.out]
      unfold RS.tick
      rw [show posL (RS.fs ⟨fs, left, false, count⟩) s = i from HI.out]
      have hh := RLeft.before (rleft_mk H9.out h2 (fun y hy => by
        rcases HV8.out y hy with h | h
        · exact .inl (h3 y h)
        · exact .inr (Nat.le_trans k5.size h)) ((kx_one k5 h2).then (kx_one (P := P) K9.out h2) (fun y hy _ => hy))) k3
      simpa using hh
/-- Read. -/
def RS.read (R : RS) (s : ByteArray) : ByteArray := if R.off = true then ⟨#[]⟩ else match curL R.fs s with | none => ⟨#[]⟩ | some f => f.last ++ f.wait
def RS.has (R : RS) (s : ByteArray) : Bool := !R.off && isL R.fs s
def RRd (w : World) (rd : ByteArray) (hs : Bool) (e : Ending) (w' : World) : Prop := e = .returned (.tuple #[.string rd, .bool hs]) ∧ Kp [] w w'
theorem RRd.ret {w : World} {rd : ByteArray} {hs : Bool} (e : Ending) (w' : World) (h : RRd w rd hs e w') : ∃ v, e = .returned v := ⟨_, h.1⟩
set_option maxHeartbeats 8000000 in
theorem rread_any (s : ByteArray) {w : World} {g : Nat} {R : RS} {P : Nat → Prop} (h : RDrv w g R P) (hW : WR R.fs) (hn : R.fs.length ≤ 1000) :
    Calls Try.prog 20 #[.pointer (some ⟨g, 0, none⟩), .string s] w (RRd w (R.read s) (R.has s)) := by
  obtain ⟨v, h1, h2, h3⟩ := h
  obtain ⟨fs, left, off, count⟩ := R
  have hn : fs.length ≤ 1000 := hn
  obtain ⟨i, hi⟩ : ∃ i, posL fs s = i := ⟨_, rfl⟩
  obtain ⟨rd, hrd⟩ : ∃ rd, RS.read ⟨fs, left, off, count⟩ s = rd := ⟨_, rfl⟩
  obtain ⟨hs, hhs⟩ : ∃ hs, RS.has ⟨fs, left, off, count⟩ s = hs := ⟨_, rfl⟩
  have HRD := Lib.hid hrd
  have HHS := Lib.hid hhs
  rw [hrd, hhs]
  clear hrd hhs
  unfold RS.read at HRD
  unfold RS.has at HHS
  cases off
  · cases hcur : curL fs s with
    | none =>
      have hno := curL_none hcur
      have e1 : rd = ⟨#[]⟩ := by rw [← HRD.out, if_neg (by simp)]; show (match curL fs s with | none => _ | some f => _) = _; rw [hcur]
      have e2 : hs = false := by rw [← HHS.out]; show (!false && isL fs s) = false; rw [hno]; rfl
      subst e1 e2
      go_enter Try.func20, Try.ntmps20
      go_wp2_with fail
      refine (at_any s w h1 (by show fs.length ≤ 1000000; omega)).mono ?_
      rintro e w3 ⟨rfl, k3⟩
      have c2 := (h1.kp k3 (by simp) (by simp)).blk.cell 2
      rw [show posL (RS.fs ⟨fs, left, false, count⟩) s = i from hi, show isL (RS.fs ⟨fs, left, false, count⟩) s = false from hno]
      clear hi hno hcur HRD HHS
      go_wp2_with fail
      go_ret2
      exact ⟨rfl, k3⟩
    | some f =>
      obtain ⟨hyes, hf, hfn⟩ := curL_some hcur
      rw [hi] at hf
      have e1 : rd = f.last ++ f.wait := by rw [← HRD.out, if_neg (by simp)]; show (match curL fs s with | none => _ | some f => _) = _; rw [hcur]
      have e2 : hs = true := by rw [← HHS.out]; show (!false && isL fs s) = true; rw [hyes]; rfl
      subst e1 e2
      have hby := hW f (List.mem_of_getElem? hf)
      have HF := Lib.hid hf
      have hilt : i < fs.length := (List.getElem?_eq_some_iff.1 hf).1
      have b1 : (i : Int) < (fs.length : Int) := by omega
      go_enter Try.func20, Try.ntmps20
      go_wp2_with fail
      refine (at_any s w h1 (by show fs.length ≤ 1000000; omega)).mono ?_
      rintro e w3 ⟨rfl, k3⟩
      have hw3 := h1.kp k3 (by simp) (by simp)
      have c2 := hw3.blk.cell 2
      have hd : Kp [] w3 w3.drew := (Kp.rfl_ [] w3).drew
      have h6 := hw3.kp hd (by simp) (by simp)
      obtain ⟨A, c, rfl, hnc, hcm, -⟩ := hw3.row.slice
      have d0 : w3.drew.cell? ⟨g, 0, none⟩ = some (.slice A fs.length c) := h6.blk.cell 0
      obtain ⟨gk, hA, r0, r1, r2, r3, -⟩ := h6.row.at_ HF.out
      subst hA
      rw [show posL (RS.fs ⟨fs, left, false, count⟩) s = i from hi, show isL (RS.fs ⟨fs, left, false, count⟩) s = true from hyes]
      clear hi hyes hcur hf hfn HRD HHS
      go_wp2_with fail
      refine region_sq_l (by kernel_rfl) (by kernel_rfl) (calm_of (fun _ _ _ h => h.2) (fun _ _ h => h) RRd.ret) ?_
      go_wp2_with fail
      refine sqQ_end (by rfl) ?_
      go_wp2_with fail
      go_ret2
      exact ⟨rfl, k3.trans hd⟩
  · have e1 : rd = ⟨#[]⟩ := by rw [← HRD.out, if_pos rfl]
    have e2 : hs = false := by rw [← HHS.out]; rfl
    subst e1 e2
    obtain ⟨y, hy⟩ : ∃ y, isL fs s = y := ⟨_, rfl⟩
    go_enter Try.func20, Try.ntmps20
    go_wp2_with fail
    refine (at_any s w h1 (by show fs.length ≤ 1000000; omega)).mono ?_
    rintro e w3 ⟨rfl, k3⟩
    have c2 := (h1.kp k3 (by simp) (by simp)).blk.cell 2
    rw [show posL (RS.fs ⟨fs, left, true, count⟩) s = i from hi, show isL (RS.fs ⟨fs, left, true, count⟩) s = y from hy]
    clear hi hy HRD HHS
    go_wp2_with fail
    go_ret2
    exact ⟨rfl, k3⟩
end Go.Proofs.Ytnmogfjbbibeiaa
