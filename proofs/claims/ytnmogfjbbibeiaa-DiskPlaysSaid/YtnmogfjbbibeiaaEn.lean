/- The document's drive: Flip. -/
import Derived.Test.YtnmogfjbbibeiaaEl
namespace Go.Proofs.Ytnmogfjbbibeiaa
set_option maxRecDepth 100000
open Go.RowKit
set_option linter.unusedVariables false

def crF (f : DF) (ks : List Int) : DF := if f.wait.size = 0 then f else ⟨f.name, f.last ++ f.wait.extract 0 (cropK ks f.wait.size), ⟨#[]⟩, f.sure || decide (0 < cropK ks f.wait.size)⟩
def crT (f : DF) (ks : List Int) : List Int := if f.wait.size = 0 then ks else ks.tail
def crR : List DF → List Int → List DF
  | [], _ => []
  | f :: fs, ks => (if (crF f ks).sure = true then [crF f ks] else []) ++ crR fs (crT f ks)
def RS.crash (R : RS) (ks : List Int) : RS := ⟨crR R.fs ks, -1, false, R.count⟩
def CrR2 (w wr : World) (fs : List DF) (ks : List Int) (gk : Nat) (s4 s5 s6 : Value) : Prop :=
  ∃ (i k : Nat) (L : List DF), fs.length - i ≤ gk ∧ s6 = .int .i64 i ∧ s5 = .int .i64 k ∧ i ≤ fs.length ∧ k ≤ i ∧ FO w.heap.size wr s4 L ∧ L ++ crR (fs.drop i) (ks.drop k) = crR fs ks ∧ L.length ≤ i ∧ Kp [] w wr
theorem CrR2.next {w wr' : World} {fs : List DF} {ks : List Int} {gk i k k' : Nat} {L L' : List DF} {s4 : Value} {f : DF} (hf : fs[i]? = some f) (hgk : fs.length - (i + 1) ≤ gk) (hk : k ≤ i) (hall : L ++ crR (fs.drop i) (ks.drop k) = crR fs ks) (hl : L.length ≤ i)
    (hk' : ks.drop k' = crT f (ks.drop k)) (hkk : k' ≤ i + 1) (hL : L' = L ++ (if (crF f (ks.drop k)).sure = true then [crF f (ks.drop k)] else [])) (ho : FO w.heap.size wr' s4 L') (hkp : Kp [] w wr') : CrR2 w wr' fs ks gk s4 (.int .i64 k') (.int .i64 ((i + 1 : Nat) : Int)) := by
  have hlt : i < fs.length := (List.getElem?_eq_some_iff.1 hf).1
  have hdr : fs.drop i = f :: fs.drop (i + 1) := by
    rw [List.drop_eq_getElem_cons hlt]
    congr 1
    rw [List.getElem?_eq_getElem hlt] at hf
    injection hf
  refine ⟨i + 1, k', L', hgk, rfl, rfl, hlt, hkk, ho, ?_, ?_, hkp⟩
  · rw [hk', hL, List.append_assoc, ← hall, hdr, crR]
  · rw [hL, List.length_append]
    split <;> simp <;> omega
theorem empty_of {s : ByteArray} (h : s.size = 0) : s = ⟨#[]⟩ := ByteArray.ext (Array.eq_empty_of_size_eq_zero h)
def RCr (w : World) (g : Nat) (R : RS) (P : Nat → Prop) (e : Ending) (w' : World) : Prop := e = .returned (.tuple #[]) ∧ RLeft w g R P w'
theorem RCr.ret {w : World} {g : Nat} {R : RS} {P : Nat → Prop} (e : Ending) (w' : World) (h : RCr w g R P e w') : ∃ v, e = .returned v := ⟨_, h.1⟩
set_option maxHeartbeats 8000000 in
theorem rcrash_any (B0 : Option Addr) (n c : Nat) (ks : List Int) {w : World} {g : Nat} {R : RS} {P : Nat → Prop} (h : RDrv w g R P) (hW : WR R.fs) (hn : R.fs.length ≤ 1000) (hL : Ls w B0 n (ks.map (Value.int .i64))) (hnm : n ≤ maxLen) :
    Calls Try.prog 35 #[.pointer (some ⟨g, 0, none⟩), .slice B0 n c] w (RCr w g (R.crash ks) P) := by
  obtain ⟨v, h1, h2, h3⟩ := h
  obtain ⟨fs, left, off, count⟩ := R
  have hn : fs.length ≤ 1000 := hn
  obtain ⟨A, c', rfl, hnc, hcm, -⟩ := h1.row.slice
  have hlen : ks.length = n := by simpa using hL.1
  have HLEN := Lib.hid hlen
  clear hlen
  unfold maxLen at hnm
  go_enter Try.func35, Try.ntmps35
  go_wp2_with fail
  go_loopg [4, 5, 6] fs.length (fun gk s4 s5 s6 wr => CrR2 w wr fs ks gk s4 s5 s6)
  case atStart => exact ⟨0, 0, [], by omega, rfl, rfl, Nat.zero_le _, Nat.le_refl _, ⟨rfl, .inl ⟨rfl, rfl⟩⟩, by simp, by simp, Kp.rfl_ _ _⟩
  case round =>
    obtain ⟨i, k, L, hgk, rfl, rfl, hi, hki, ho, hall, hll, hkr⟩ := hrel
    have hr := h1.kp hkr (by simp) (by simp)
    have c0 := hr.blk.cell 0
    have HALL := Lib.hid hall
    clear hall
    by_cases hlt : i < fs.length
    · obtain ⟨f, hf⟩ : ∃ f, fs[i]? = some f := ⟨_, List.getElem?_eq_getElem hlt⟩
      obtain ⟨gk2, hA, r0, r1, r2, r3, -⟩ := hr.row.at_ hf
      subst hA
      have b2 : (i : Int) < (fs.length : Int) := by omega
      have hby := hW f (List.mem_of_getElem? hf)
      have HNX : ∀ (wr' : World) (s4 : Value) (L' : List DF) (k' : Nat), ks.drop k' = crT f (ks.drop k) → k' ≤ i + 1 → L' = L ++ (if (crF f (ks.drop k)).sure = true then [crF f (ks.drop k)] else []) → FO w.heap.size wr' s4 L' → Kp [] w wr' → CrR2 w wr' fs ks (fs.length - (i + 1)) s4 (.int .i64 k') (.int .i64 ((i + 1 : Nat) : Int)) :=
        fun wr' s4 L' k' a b c d e => CrR2.next hf (Nat.le_refl _) hki HALL.out hll a b c d e
      have HN := Lib.hid HNX
      have k1 : Kp [] wr (wr.alloc (.cells #[.string f.name, .string f.last, .string f.wait, .bool f.sure] 64)) := (Kp.rfl_ [] wr).alloc _
      have a1 : At (wr.alloc (.cells #[.string f.name, .string f.last, .string f.wait, .bool f.sure] 64)) wr.heap.size 64 #[.string f.name, .string f.last, .string f.wait, .bool f.sure] := At.new wr _ _
      have hkw := hkr.trans k1
      have ho1 := ho.kp k1 (by simp)
      have hL1 := hL.kp hkw (by simp)
      have hob : ∀ x, u4.ownBlock = some x → x < wr.heap.size := fun x hx => ho.row.lt hx
      obtain ⟨fn, fl, fw, fs'⟩ := f
      clear HNX hf
      go_upto_region 6 with fail
      have b1 := a1
      generalize wr.alloc (.cells #[.string fn, .string fl, .string fw, .bool fs'] 64) = w1 at *
      obtain ⟨gb, hgb⟩ : ∃ gb, wr.heap.size = gb := ⟨_, rfl⟩
      have HGB : Hid (w.heap.size ≤ gb) := Lib.hid (by rw [← hgb]; exact hkr.size)
      have hobn : ∀ x, u4.ownBlock = some x → x ≠ gb := fun x hx => by have := hob x hx; omega
      rw [hgb] at b1
      rw [hgb]
      clear a1 hgb hob k1 r0 r1 r2 r3 hr ho
      have hfb : fl.size + fw.size ≤ 1048576 := hby
      by_cases hz : fw.size = 0
      · obtain rfl := empty_of hz
        have HC : Hid (∀ q, crF ⟨fn, fl, ⟨#[]⟩, fs'⟩ q = ⟨fn, fl, ⟨#[]⟩, fs'⟩ ∧ crT ⟨fn, fl, ⟨#[]⟩, fs'⟩ q = q) := Lib.hid fun q => ⟨by unfold crF; exact if_pos rfl, by unfold crT; exact if_pos rfl⟩
        have q2 := b1.cell 2
        have q3 := b1.cell 3
        cases fs'
        · go_wp2_with fail
          go_roundg (fs.length - (i + 1))
          case measure => omega
          case rel => exact HN.out w1 u4 L k (HC.out _).2.symm (by omega) (by rw [(HC.out _).1, if_neg (by simp), List.append_nil]) ho1 hkw
        · clear q2 q3
          have kb := (Kp.rfl_ [] w1).alloc (.cells #[.string fn, .string (fl), .string (⟨#[]⟩), .bool true] 64)
          have ab : At (w1.alloc (.cells #[.string fn, .string (fl), .string (⟨#[]⟩), .bool true] 64)) w1.heap.size 64 #[.string fn, .string (fl), .string (⟨#[]⟩), .bool true] := At.new _ _ _
          have hsrc : FSrc (w1.alloc (.cells #[.string fn, .string (fl), .string (⟨#[]⟩), .bool true] 64)) (some ⟨w1.heap.size, 0, none⟩) [⟨fn, fl, ⟨#[]⟩, true⟩] := fun _ => ⟨_, rfl, fun j u hu => by
            rw [addr0, ab.cell j]
            have e : fcs [(⟨fn, fl, ⟨#[]⟩, true⟩ : DF)] = [.string fn, .string (fl), .string (⟨#[]⟩), .bool true] := rfl
            rw [e] at hu
            simpa using hu⟩
          have hob2 := ho1.kp kb (by simp)
          have q0 := b1.cell 0
          have q1 := b1.cell 1
          have q2 := b1.cell 2
          have q3 := b1.cell 3
          have hsz2 : w.heap.size ≤ (w1.alloc (.cells #[.string fn, .string (fl), .string (⟨#[]⟩), .bool true] 64)).heap.size := Nat.le_trans hkw.size kb.size
          go_wp2_with (at_builtin; go_must (refine wpl_fapp w.heap.size rfl _ _ rfl rfl u4 L hob2 rfl (some ⟨w1.heap.size, 0, none⟩) 1 1 [⟨fn, fl, ⟨#[]⟩, true⟩] rfl rfl hsrc (by simp; omega) hsz2 ?_); intro v8 w8 ho8 hk8 hv8; have hk9 : Kp [] w w8 := (hkw.trans kb).then hk8 (fun z hz hlt => by have := hob2.base (x := z) (by simpa using hz); omega))
          go_roundg (fs.length - (i + 1))
          case measure => omega
          case rel =>
            have := HN.out w8 v8 _ (k) ((HC.out _).2.symm) (by omega) (by rw [(HC.out _).1, if_pos rfl]) ho8 hk9
            simpa using this
      · have HZ := Lib.hid hz
        have hne : fw.toList.isEmpty = false := by rw [empty_list]; exact beq_eq_false_iff_ne.2 hz
        have hne2 : (fw.toList == []) = false := by cases hh : fw.toList with
          | nil => rw [hh] at hne; cases hne
          | cons a b => rfl
        have p0 := b1.cell 2
        have hkI : k < 1000 := by omega
        by_cases hkn : k < n
        · have hkn2 : (k : Int) < (n : Int) := by omega
          obtain ⟨ad, z, hB, hz0, hc0⟩ := hL1.int_at hkn
          obtain ⟨m, hm⟩ : ∃ m, min z.toNat fw.size = m := ⟨_, rfl⟩
          have HM : Hid (cropK (ks.drop k) fw.size = m) := Lib.hid (by
            rw [← hm]
            have hlt2 : k < ks.length := (List.getElem?_eq_some_iff.1 hz0).1
            rw [List.drop_eq_getElem_cons hlt2]
            rw [List.getElem?_eq_getElem hlt2] at hz0
            injection hz0 with hz0
            rw [hz0]
            rfl)
          have HMLE : Hid (m ≤ fw.size) := Lib.hid (by omega)
          have hmm : min (max z 0) (fw.size : Int) = (m : Int) := by omega
          have hc1 : w1.drew.cell? (ad.add k) = some (.int .i64 z) := hc0
          have p02 : w1.drew.cell? ⟨gb, 2, none⟩ = some (.string fw) := p0
          have b2 : At w1.drew gb 64 #[.string fn, .string fl, .string fw, .bool fs'] := b1
          have hdd : Kp [] w1 w1.drew := (Kp.rfl_ [] w1).drew
          have ho2 := ho1.kp hdd (by simp)
          have hk2 := hkw.trans hdd
          subst hB
          clear hz0 hm hz
          go_wp2_with fail
          refine region_plan [.row [0, 1, 2, 3, 5, 6, 7], .kept 4, .kept 8, .row [9]] (by kernel_rfl) (by kernel_rfl) (calm_of (fun _ _ _ h => h.2) (fun _ _ h => h) RCr.ret) ?_
          simp only [wpPlan, pickL, List.filterMap_cons, List.filterMap_nil, List.getElem?_cons_zero, List.getElem?_cons_succ]
          go_wp2_with fail
          refine ⟨KeptT.rfl_ _ _, ?_⟩
          go_wp2_with fail
          refine ⟨KeptT.rfl_ _ _, ?_⟩
          go_wp2_with fail
          refine sqQ_end (by rfl) ?_
          clear hc0 hc1 p0 p02 hmm b1 ho1 hkw hdd hL1
          generalize w1.drew = w2 at *
          have hd2 : Kp [] w2 w2.drew := (Kp.rfl_ [] w2).drew
          have hmle : m ≤ fw.size := HMLE.out
          have hmi : (m : Int) ≤ (fw.size : Int) := by omega
          have p1 : w2.drew.cell? ⟨gb, 1, none⟩ = some (.string fl) := b2.cell 1
          have p2 : w2.drew.cell? ⟨gb, 2, none⟩ = some (.string fw) := b2.cell 2
          have pf1 : w2.drew.frozen? ⟨gb, 1, none⟩ = false := b2.frozen 1
          have b3 : At ((w2.setCell ⟨gb, 1, none⟩ (.string (fl ++ fw.extract 0 m))).drew) gb 64 #[.string fn, .string (fl ++ fw.extract 0 m), .string fw, .bool fs'] := b2.set 1 _
          have p3 := b3.cell 2
          have pf3 := b3.frozen 2
          have b4 : At (((w2.setCell ⟨gb, 1, none⟩ (.string (fl ++ fw.extract 0 m))).setCell ⟨gb, 2, none⟩ (.string ⟨#[]⟩)).drew) gb 64 #[.string fn, .string (fl ++ fw.extract 0 m), .string ⟨#[]⟩, .bool fs'] := b3.set 2 _
          have p4 := b4.cell 3
          have pf4 := b4.frozen 3
          have b5 : At ((((w2.setCell ⟨gb, 1, none⟩ (.string (fl ++ fw.extract 0 m))).setCell ⟨gb, 2, none⟩ (.string ⟨#[]⟩)).setCell ⟨gb, 3, none⟩ (.bool (fs' || decide (0 < m)))).drew) gb 64 #[.string fn, .string (fl ++ fw.extract 0 m), .string ⟨#[]⟩, .bool (fs' || decide (0 < m))] := b4.set 3 _
          have k25 : Kp [gb] w2 ((((w2.setCell ⟨gb, 1, none⟩ (.string (fl ++ fw.extract 0 m))).setCell ⟨gb, 2, none⟩ (.string ⟨#[]⟩)).setCell ⟨gb, 3, none⟩ (.bool (fs' || decide (0 < m)))).drew) := ((((Kp.rfl_ [gb] w2).set (by simp) _).set (by simp) _).set (by simp) _).drew
          have ho5 := ho2.kp k25 (fun x hx => by simpa using hobn x hx)
          have hk5 := hk2.then k25 (fun z hz hlt => by simp at hz; have := HGB.out; omega)
          have hgb3 : fl.size + m ≤ 1048576 := by omega
          have hext : (fw.extract 0 m).size = m := by rw [ByteArray.size_extract]; omega
          have HEXT := Lib.hid hext
          have HC : Hid (crF ⟨fn, fl, fw, fs'⟩ (ks.drop k) = ⟨fn, fl ++ fw.extract 0 m, ⟨#[]⟩, fs' || decide (0 < m)⟩) := Lib.hid (by
            unfold crF
            rw [if_neg (show ¬ fw.size = 0 from HZ.out)]
            show DF.mk fn (fl ++ fw.extract 0 (cropK (ks.drop k) fw.size)) _ (fs' || decide (0 < cropK (ks.drop k) fw.size)) = _
            rw [HM.out])
          have HT : Hid (ks.drop (k + 1) = crT ⟨fn, fl, fw, fs'⟩ (ks.drop k)) := Lib.hid (by
            unfold crT
            rw [if_neg (show ¬ fw.size = 0 from HZ.out), List.tail_drop])
          clear hext hd2 b3 b4 ho2 hk2 k25
          cases fs'
          · by_cases hm0 : 0 < m
            · have hd5 : decide (0 < (m : Int)) = true := decide_eq_true (by omega)
              rw [show (false || decide (0 < m)) = true by rw [decide_eq_true hm0]; rfl] at b5 ho5 hk5
              rw [show (false || decide (0 < m)) = true by rw [decide_eq_true hm0]; rfl] at HC
              go_wp2_with fail
              refine region_sq_l (by kernel_rfl) (by kernel_rfl) (calm_of (fun _ _ _ h => h.2) (fun _ _ h => h) RCr.ret) ?_
              go_wp2_with fail
              refine sqQ_end (by rfl) ?_
              go_upto_region 14 with fail
              generalize ((((w2.setCell ⟨gb, 1, none⟩ (.string (fl ++ fw.extract 0 m))).setCell ⟨gb, 2, none⟩ (.string ⟨#[]⟩)).setCell ⟨gb, 3, none⟩ (.bool true)).drew) = w5 at *
              clear b2 p1 p2 p3 p4 pf1 pf3 pf4
              have kb := (Kp.rfl_ [] w5).alloc (.cells #[.string fn, .string (fl ++ fw.extract 0 m), .string (⟨#[]⟩), .bool true] 64)
              have ab : At (w5.alloc (.cells #[.string fn, .string (fl ++ fw.extract 0 m), .string (⟨#[]⟩), .bool true] 64)) w5.heap.size 64 #[.string fn, .string (fl ++ fw.extract 0 m), .string (⟨#[]⟩), .bool true] := At.new _ _ _
              have hsrc : FSrc (w5.alloc (.cells #[.string fn, .string (fl ++ fw.extract 0 m), .string (⟨#[]⟩), .bool true] 64)) (some ⟨w5.heap.size, 0, none⟩) [⟨fn, fl ++ fw.extract 0 m, ⟨#[]⟩, true⟩] := fun _ => ⟨_, rfl, fun j u hu => by
                rw [addr0, ab.cell j]
                have e : fcs [(⟨fn, fl ++ fw.extract 0 m, ⟨#[]⟩, true⟩ : DF)] = [.string fn, .string (fl ++ fw.extract 0 m), .string (⟨#[]⟩), .bool true] := rfl
                rw [e] at hu
                simpa using hu⟩
              have hob2 := ho5.kp kb (by simp)
              have q0 := b5.cell 0
              have q1 := b5.cell 1
              have q2 := b5.cell 2
              have q3 := b5.cell 3
              have hsz2 : w.heap.size ≤ (w5.alloc (.cells #[.string fn, .string (fl ++ fw.extract 0 m), .string (⟨#[]⟩), .bool true] 64)).heap.size := Nat.le_trans hk5.size kb.size
              go_wp2_with (at_builtin; go_must (refine wpl_fapp w.heap.size rfl _ _ rfl rfl u4 L hob2 rfl (some ⟨w5.heap.size, 0, none⟩) 1 1 [⟨fn, fl ++ fw.extract 0 m, ⟨#[]⟩, true⟩] rfl rfl hsrc (by simp; omega) hsz2 ?_); intro v8 w8 ho8 hk8 hv8; have hk9 : Kp [] w w8 := (hk5.trans kb).then hk8 (fun z hz hlt => by have := hob2.base (x := z) (by simpa using hz); omega))
              go_roundg (fs.length - (i + 1))
              case measure => omega
              case rel =>
                have := HN.out w8 v8 _ (k + 1) (HT.out) (by omega) (by rw [HC.out, if_pos rfl]) ho8 hk9
                simpa using this
            · have hd5 : decide (0 < (m : Int)) = false := decide_eq_false (by omega)
              rw [show (false || decide (0 < m)) = false by rw [decide_eq_false hm0]; rfl] at b5 ho5 hk5
              rw [show (false || decide (0 < m)) = false by rw [decide_eq_false hm0]; rfl] at HC
              have p5 := b5.cell 3
              go_wp2_with fail
              refine region_sq_l (by kernel_rfl) (by kernel_rfl) (calm_of (fun _ _ _ h => h.2) (fun _ _ h => h) RCr.ret) ?_
              go_wp2_with fail
              refine sqQ_end (by rfl) ?_
              go_wp2_with fail
              go_roundg (fs.length - (i + 1))
              case measure => omega
              case rel => exact HN.out _ u4 L (k + 1) HT.out (by omega) (by rw [HC.out, if_neg (by simp), List.append_nil]) ho5 hk5
          · rw [show (true || decide (0 < m)) = true from rfl] at b5 ho5 hk5
            rw [show (true || decide (0 < m)) = true from rfl] at HC
            go_wp2_with fail
            refine region_sq_l (by kernel_rfl) (by kernel_rfl) (calm_of (fun _ _ _ h => h.2) (fun _ _ h => h) RCr.ret) ?_
            go_wp2_with fail
            refine sqQ_end (by rfl) ?_
            go_upto_region 14 with fail
            generalize ((((w2.setCell ⟨gb, 1, none⟩ (.string (fl ++ fw.extract 0 m))).setCell ⟨gb, 2, none⟩ (.string ⟨#[]⟩)).setCell ⟨gb, 3, none⟩ (.bool true)).drew) = w5 at *
            clear b2 p1 p2 p3 p4 pf1 pf3 pf4
            have kb := (Kp.rfl_ [] w5).alloc (.cells #[.string fn, .string (fl ++ fw.extract 0 m), .string (⟨#[]⟩), .bool true] 64)
            have ab : At (w5.alloc (.cells #[.string fn, .string (fl ++ fw.extract 0 m), .string (⟨#[]⟩), .bool true] 64)) w5.heap.size 64 #[.string fn, .string (fl ++ fw.extract 0 m), .string (⟨#[]⟩), .bool true] := At.new _ _ _
            have hsrc : FSrc (w5.alloc (.cells #[.string fn, .string (fl ++ fw.extract 0 m), .string (⟨#[]⟩), .bool true] 64)) (some ⟨w5.heap.size, 0, none⟩) [⟨fn, fl ++ fw.extract 0 m, ⟨#[]⟩, true⟩] := fun _ => ⟨_, rfl, fun j u hu => by
              rw [addr0, ab.cell j]
              have e : fcs [(⟨fn, fl ++ fw.extract 0 m, ⟨#[]⟩, true⟩ : DF)] = [.string fn, .string (fl ++ fw.extract 0 m), .string (⟨#[]⟩), .bool true] := rfl
              rw [e] at hu
              simpa using hu⟩
            have hob2 := ho5.kp kb (by simp)
            have q0 := b5.cell 0
            have q1 := b5.cell 1
            have q2 := b5.cell 2
            have q3 := b5.cell 3
            have hsz2 : w.heap.size ≤ (w5.alloc (.cells #[.string fn, .string (fl ++ fw.extract 0 m), .string (⟨#[]⟩), .bool true] 64)).heap.size := Nat.le_trans hk5.size kb.size
            go_wp2_with (at_builtin; go_must (refine wpl_fapp w.heap.size rfl _ _ rfl rfl u4 L hob2 rfl (some ⟨w5.heap.size, 0, none⟩) 1 1 [⟨fn, fl ++ fw.extract 0 m, ⟨#[]⟩, true⟩] rfl rfl hsrc (by simp; omega) hsz2 ?_); intro v8 w8 ho8 hk8 hv8; have hk9 : Kp [] w w8 := (hk5.trans kb).then hk8 (fun z hz hlt => by have := hob2.base (x := z) (by simpa using hz); omega))
            go_roundg (fs.length - (i + 1))
            case measure => omega
            case rel =>
              have := HN.out w8 v8 _ (k + 1) (HT.out) (by omega) (by rw [HC.out, if_pos rfl]) ho8 hk9
              simpa using this
        · have hkn2 : ¬ (k : Int) < (n : Int) := by omega
          obtain ⟨m, hm⟩ : ∃ m, m = 0 := ⟨0, rfl⟩
          have HM : Hid (cropK (ks.drop k) fw.size = m) := Lib.hid (by
            rw [List.drop_eq_nil_of_le (by rw [HLEN.out]; omega), hm]
            rfl)
          have HMLE : Hid (m ≤ fw.size) := Lib.hid (by omega)
          have b2 := b1
          have ho2 := ho1
          have hk2 := hkw
          have H0M : Hid (Value.int .i64 0 = Value.int .i64 (m : Int)) := Lib.hid (by rw [hm]; rfl)
          clear hz hm
          go_upto_region 10 with fail
          rw [H0M.out]
          clear H0M
          have hd2 : Kp [] w1 w1.drew := (Kp.rfl_ [] w1).drew
          have hmle : m ≤ fw.size := HMLE.out
          have hmi : (m : Int) ≤ (fw.size : Int) := by omega
          have p1 : w1.drew.cell? ⟨gb, 1, none⟩ = some (.string fl) := b2.cell 1
          have p2 : w1.drew.cell? ⟨gb, 2, none⟩ = some (.string fw) := b2.cell 2
          have pf1 : w1.drew.frozen? ⟨gb, 1, none⟩ = false := b2.frozen 1
          have b3 : At ((w1.setCell ⟨gb, 1, none⟩ (.string (fl ++ fw.extract 0 m))).drew) gb 64 #[.string fn, .string (fl ++ fw.extract 0 m), .string fw, .bool fs'] := b2.set 1 _
          have p3 := b3.cell 2
          have pf3 := b3.frozen 2
          have b4 : At (((w1.setCell ⟨gb, 1, none⟩ (.string (fl ++ fw.extract 0 m))).setCell ⟨gb, 2, none⟩ (.string ⟨#[]⟩)).drew) gb 64 #[.string fn, .string (fl ++ fw.extract 0 m), .string ⟨#[]⟩, .bool fs'] := b3.set 2 _
          have p4 := b4.cell 3
          have pf4 := b4.frozen 3
          have b5 : At ((((w1.setCell ⟨gb, 1, none⟩ (.string (fl ++ fw.extract 0 m))).setCell ⟨gb, 2, none⟩ (.string ⟨#[]⟩)).setCell ⟨gb, 3, none⟩ (.bool (fs' || decide (0 < m)))).drew) gb 64 #[.string fn, .string (fl ++ fw.extract 0 m), .string ⟨#[]⟩, .bool (fs' || decide (0 < m))] := b4.set 3 _
          have k15 : Kp [gb] w1 ((((w1.setCell ⟨gb, 1, none⟩ (.string (fl ++ fw.extract 0 m))).setCell ⟨gb, 2, none⟩ (.string ⟨#[]⟩)).setCell ⟨gb, 3, none⟩ (.bool (fs' || decide (0 < m)))).drew) := ((((Kp.rfl_ [gb] w1).set (by simp) _).set (by simp) _).set (by simp) _).drew
          have ho5 := ho2.kp k15 (fun x hx => by simpa using hobn x hx)
          have hk5 := hk2.then k15 (fun z hz hlt => by simp at hz; have := HGB.out; omega)
          have hgb3 : fl.size + m ≤ 1048576 := by omega
          have hext : (fw.extract 0 m).size = m := by rw [ByteArray.size_extract]; omega
          have HEXT := Lib.hid hext
          have HC : Hid (crF ⟨fn, fl, fw, fs'⟩ (ks.drop k) = ⟨fn, fl ++ fw.extract 0 m, ⟨#[]⟩, fs' || decide (0 < m)⟩) := Lib.hid (by
            unfold crF
            rw [if_neg (show ¬ fw.size = 0 from HZ.out)]
            show DF.mk fn (fl ++ fw.extract 0 (cropK (ks.drop k) fw.size)) _ (fs' || decide (0 < cropK (ks.drop k) fw.size)) = _
            rw [HM.out])
          have HT : Hid (ks.drop (k + 1) = crT ⟨fn, fl, fw, fs'⟩ (ks.drop k)) := Lib.hid (by
            unfold crT
            rw [if_neg (show ¬ fw.size = 0 from HZ.out), List.tail_drop])
          clear hext hd2 b3 b4 ho2 hk2 k15
          cases fs'
          · by_cases hm0 : 0 < m
            · have hd5 : decide (0 < (m : Int)) = true := decide_eq_true (by omega)
              rw [show (false || decide (0 < m)) = true by rw [decide_eq_true hm0]; rfl] at b5 ho5 hk5
              rw [show (false || decide (0 < m)) = true by rw [decide_eq_true hm0]; rfl] at HC
              go_wp2_with fail
              refine region_sq_l (by kernel_rfl) (by kernel_rfl) (calm_of (fun _ _ _ h => h.2) (fun _ _ h => h) RCr.ret) ?_
              go_wp2_with fail
              refine sqQ_end (by rfl) ?_
              go_upto_region 14 with fail
              generalize ((((w1.setCell ⟨gb, 1, none⟩ (.string (fl ++ fw.extract 0 m))).setCell ⟨gb, 2, none⟩ (.string ⟨#[]⟩)).setCell ⟨gb, 3, none⟩ (.bool true)).drew) = w5 at *
              clear b2 p1 p2 p3 p4 pf1 pf3 pf4
              have kb := (Kp.rfl_ [] w5).alloc (.cells #[.string fn, .string (fl ++ fw.extract 0 m), .string (⟨#[]⟩), .bool true] 64)
              have ab : At (w5.alloc (.cells #[.string fn, .string (fl ++ fw.extract 0 m), .string (⟨#[]⟩), .bool true] 64)) w5.heap.size 64 #[.string fn, .string (fl ++ fw.extract 0 m), .string (⟨#[]⟩), .bool true] := At.new _ _ _
              have hsrc : FSrc (w5.alloc (.cells #[.string fn, .string (fl ++ fw.extract 0 m), .string (⟨#[]⟩), .bool true] 64)) (some ⟨w5.heap.size, 0, none⟩) [⟨fn, fl ++ fw.extract 0 m, ⟨#[]⟩, true⟩] := fun _ => ⟨_, rfl, fun j u hu => by
                rw [addr0, ab.cell j]
                have e : fcs [(⟨fn, fl ++ fw.extract 0 m, ⟨#[]⟩, true⟩ : DF)] = [.string fn, .string (fl ++ fw.extract 0 m), .string (⟨#[]⟩), .bool true] := rfl
                rw [e] at hu
                simpa using hu⟩
              have hob2 := ho5.kp kb (by simp)
              have q0 := b5.cell 0
              have q1 := b5.cell 1
              have q2 := b5.cell 2
              have q3 := b5.cell 3
              have hsz2 : w.heap.size ≤ (w5.alloc (.cells #[.string fn, .string (fl ++ fw.extract 0 m), .string (⟨#[]⟩), .bool true] 64)).heap.size := Nat.le_trans hk5.size kb.size
              go_wp2_with (at_builtin; go_must (refine wpl_fapp w.heap.size rfl _ _ rfl rfl u4 L hob2 rfl (some ⟨w5.heap.size, 0, none⟩) 1 1 [⟨fn, fl ++ fw.extract 0 m, ⟨#[]⟩, true⟩] rfl rfl hsrc (by simp; omega) hsz2 ?_); intro v8 w8 ho8 hk8 hv8; have hk9 : Kp [] w w8 := (hk5.trans kb).then hk8 (fun z hz hlt => by have := hob2.base (x := z) (by simpa using hz); omega))
              go_roundg (fs.length - (i + 1))
              case measure => omega
              case rel =>
                have := HN.out w8 v8 _ (k + 1) (HT.out) (by omega) (by rw [HC.out, if_pos rfl]) ho8 hk9
                simpa using this
            · have hd5 : decide (0 < (m : Int)) = false := decide_eq_false (by omega)
              rw [show (false || decide (0 < m)) = false by rw [decide_eq_false hm0]; rfl] at b5 ho5 hk5
              rw [show (false || decide (0 < m)) = false by rw [decide_eq_false hm0]; rfl] at HC
              have p5 := b5.cell 3
              go_wp2_with fail
              refine region_sq_l (by kernel_rfl) (by kernel_rfl) (calm_of (fun _ _ _ h => h.2) (fun _ _ h => h) RCr.ret) ?_
              go_wp2_with fail
              refine sqQ_end (by rfl) ?_
              go_wp2_with fail
              go_roundg (fs.length - (i + 1))
              case measure => omega
              case rel => exact HN.out _ u4 L (k + 1) HT.out (by omega) (by rw [HC.out, if_neg (by simp), List.append_nil]) ho5 hk5
          · rw [show (true || decide (0 < m)) = true from rfl] at b5 ho5 hk5
            rw [show (true || decide (0 < m)) = true from rfl] at HC
            go_wp2_with fail
            refine region_sq_l (by kernel_rfl) (by kernel_rfl) (calm_of (fun _ _ _ h => h.2) (fun _ _ h => h) RCr.ret) ?_
            go_wp2_with fail
            refine sqQ_end (by rfl) ?_
            go_upto_region 14 with fail
            generalize ((((w1.setCell ⟨gb, 1, none⟩ (.string (fl ++ fw.extract 0 m))).setCell ⟨gb, 2, none⟩ (.string ⟨#[]⟩)).setCell ⟨gb, 3, none⟩ (.bool true)).drew) = w5 at *
            clear b2 p1 p2 p3 p4 pf1 pf3 pf4
            have kb := (Kp.rfl_ [] w5).alloc (.cells #[.string fn, .string (fl ++ fw.extract 0 m), .string (⟨#[]⟩), .bool true] 64)
            have ab : At (w5.alloc (.cells #[.string fn, .string (fl ++ fw.extract 0 m), .string (⟨#[]⟩), .bool true] 64)) w5.heap.size 64 #[.string fn, .string (fl ++ fw.extract 0 m), .string (⟨#[]⟩), .bool true] := At.new _ _ _
            have hsrc : FSrc (w5.alloc (.cells #[.string fn, .string (fl ++ fw.extract 0 m), .string (⟨#[]⟩), .bool true] 64)) (some ⟨w5.heap.size, 0, none⟩) [⟨fn, fl ++ fw.extract 0 m, ⟨#[]⟩, true⟩] := fun _ => ⟨_, rfl, fun j u hu => by
              rw [addr0, ab.cell j]
              have e : fcs [(⟨fn, fl ++ fw.extract 0 m, ⟨#[]⟩, true⟩ : DF)] = [.string fn, .string (fl ++ fw.extract 0 m), .string (⟨#[]⟩), .bool true] := rfl
              rw [e] at hu
              simpa using hu⟩
            have hob2 := ho5.kp kb (by simp)
            have q0 := b5.cell 0
            have q1 := b5.cell 1
            have q2 := b5.cell 2
            have q3 := b5.cell 3
            have hsz2 : w.heap.size ≤ (w5.alloc (.cells #[.string fn, .string (fl ++ fw.extract 0 m), .string (⟨#[]⟩), .bool true] 64)).heap.size := Nat.le_trans hk5.size kb.size
            go_wp2_with (at_builtin; go_must (refine wpl_fapp w.heap.size rfl _ _ rfl rfl u4 L hob2 rfl (some ⟨w5.heap.size, 0, none⟩) 1 1 [⟨fn, fl ++ fw.extract 0 m, ⟨#[]⟩, true⟩] rfl rfl hsrc (by simp; omega) hsz2 ?_); intro v8 w8 ho8 hk8 hv8; have hk9 : Kp [] w w8 := (hk5.trans kb).then hk8 (fun z hz hlt => by have := hob2.base (x := z) (by simpa using hz); omega))
            go_roundg (fs.length - (i + 1))
            case measure => omega
            case rel =>
              have := HN.out w8 v8 _ (k + 1) (HT.out) (by omega) (by rw [HC.out, if_pos rfl]) ho8 hk9
              simpa using this
    · obtain rfl : i = fs.length := by omega
      have hcr := HALL.out
      rw [List.drop_length] at hcr
      have hcr : L = crR fs ks := by simpa [crR] using hcr
      subst hcr
      obtain ⟨A8, c8, rfl, -⟩ := ho.row.slice
      have f0 := hr.blk.frozen 0
      have f1 := hr.blk.frozen 1
      have f2 := hr.blk.frozen 2
      have c1 := hr.blk.cell 1
      have c2 := hr.blk.cell 2
      have a3 := ((hr.blk.set 0 (.slice A8 (crR fs ks).length c8)).set 1 (.int .i64 (-1))).set 2 (.bool false)
      have k3 : Kp [g] wr (((wr.setCell ⟨g, 0, none⟩ (.slice A8 (crR fs ks).length c8)).setCell ⟨g, 1, none⟩ (.int .i64 (-1))).setCell ⟨g, 2, none⟩ (.bool false)) := (((Kp.rfl_ [g] wr).set (by simp) _).set (by simp) _).set (by simp) _
      have hgl := h1.blk.lt
      have hne : ∀ x, (Value.slice A8 (crR fs ks).length c8).ownBlock = some x → w.heap.size ≤ x := fun x hx => ho.base hx
      have h9 : FSt (((wr.setCell ⟨g, 0, none⟩ (.slice A8 (crR fs ks).length c8)).setCell ⟨g, 1, none⟩ (.int .i64 (-1))).setCell ⟨g, 2, none⟩ (.bool false)) g (.slice A8 (crR fs ks).length c8) (crR fs ks) (-1) false count :=
        ⟨a3, ho.row.kp k3 (fun x hx => by have := hne x hx; simp; omega), fun e => by have := hne _ e; omega⟩
      have H9 := Lib.hid h9
      clear a3 h9
      go_wp2_with fail
      go_end0
      exact ⟨rfl, rleft_mk H9.out h2 (fun x hx => .inr (hne x hx)) ((KX.of (P := P) hkr (by simp)).then (kx_one (P := P) k3 h2) (fun y hy _ => hy))⟩
end Go.Proofs.Ytnmogfjbbibeiaa
namespace Go.Proofs.Ytnmogfjbbibeiaa
set_option maxRecDepth 100000
open Go.RowKit
set_option linter.unusedVariables false

def flipF (f : DF) (n : Nat) : DF := ⟨f.name, bs ((tbit (f.last ++ f.wait) (n / 8) (n % 8)).data.toList.take f.last.size), bs ((tbit (f.last ++ f.wait) (n / 8) (n % 8)).data.toList.drop f.last.size), f.sure⟩
def RS.flip (R : RS) (s : ByteArray) (n : Int) : Int × RS := match curL R.fs s with
  | none => (51, R)
  | some f => if n < 0 ∨ ((f.last.size + f.wait.size : Nat) : Int) ≤ n / 8 then (1, R) else (0, { R with fs := R.fs.set (posL R.fs s) (flipF f n.toNat) })
theorem size_u8 (w : World) : (sizeOf 5).run Try.prog w = .ok 1 w := by kernel_rfl
theorem elem_u8 : Try.prog.elem 49 = 5 := by kernel_rfl
theorem front_u8 (A : Option Addr) (n c k : Nat) (h : k ≤ c) (w : World) : (Instr.sliceAt 49 (.slice A n c) none (some (.int .i64 (k : Int))) none).run Try.prog w = .ok (.slice A k c) w := by
  have he : Try.prog.underlying 49 = some (.slice (Try.prog.elem 49)) := by rw [elem_u8]; exact Try.underlying49
  rw [run_sliceAt_slice (h := he), run_slice_h (ht := he) (kh := .i64) (h0 := by omega) (h2 := by omega), elem_u8, size_u8]
  unfold sliced
  cases A <;> simp [Result.andThen, addr_add_zero]
theorem Buf.take_ {w : World} {g : Nat} {l : List UInt8} (h : Buf w g l) (k : Nat) : Buf w g (l.take k) := by
  obtain ⟨cs, fr, h1, h2, h3, h4⟩ := h
  have hl : (l.take k).length ≤ l.length := by simp; omega
  refine ⟨cs, fr, h1, ?_, by omega, by omega⟩
  rw [show cs.toList.take (l.take k).length = (cs.toList.take l.length).take (l.take k).length by rw [List.take_take]; congr 1; omega, h2]
  unfold Lib.byteCells
  rw [← List.map_take]
  congr 1
  rw [List.length_take, List.take_eq_take_iff]
  omega
theorem back_u8 {g n c k : Nat} {l : List UInt8} (hn : l.length = n) (hk : k ≤ n) (hc : n ≤ c) :
    ∃ B, (∀ w, (Instr.sliceAt 49 (.slice (some ⟨g, 0, none⟩) n c) (some (.int .i64 (k : Int))) none none).run Try.prog w = .ok (.slice B (n - k) (c - k)) w) ∧
      ∀ w, Buf w g l → (convert 49 9 (.slice B (n - k) (c - k))).run Try.prog w = .ok (.string (bs (l.drop k))) w := by
  have he : Try.prog.underlying 49 = some (.slice (Try.prog.elem 49)) := by rw [elem_u8]; exact Try.underlying49
  refine ⟨if c = k then some ⟨g, 0, none⟩ else some ⟨g, k, none⟩, fun w => ?_, fun w hb => ?_⟩
  · rw [run_sliceAt_slice (h := he), run_slice_l (ht := he) (kl := .i64) (h0 := by omega) (h1 := by omega), elem_u8, size_u8]
    simp [Result.andThen, sliced, addr0]
  · have hl : (l.drop k).length = n - k := by simp; omega
    by_cases e : c = k
    · rw [if_pos e]
      have h0 : l.drop k = [] := List.eq_nil_of_length_eq_zero (by omega)
      have := run_convert_bytes_back (P := Try.prog) w 49 9 5 ⟨g, 0, none⟩ (c - k) (l.drop k) Try.underlying49 Try.underlying5 Try.underlying9 fun j hj => by omega
      rw [hl] at this
      exact this
    · rw [if_neg e]
      have := run_convert_bytes_back (P := Try.prog) w 49 9 5 ⟨g, k, none⟩ (c - k) (l.drop k) Try.underlying49 Try.underlying5 Try.underlying9 fun j hj => by
        have hj2 : k + j < l.length := by rw [hl] at hj; omega
        have := hb.cell (j := k + j) (b := l[k + j]) (List.getElem?_eq_getElem hj2)
        rw [show (⟨g, k, none⟩ : Addr).add j = ⟨g, k + j, none⟩ by unfold Addr.add; split <;> simp_all, this]
        simp
      rw [hl] at this
      exact this
theorem front_conv {w : World} {g k c : Nat} {l : List UInt8} (h : Buf w g l) (hk : k ≤ l.length) : (convert 49 9 (.slice (some ⟨g, 0, none⟩) k c)).run Try.prog w = .ok (.string (bs (l.take k))) w :=
  (h.take_ k).back c k (by simp; omega)
theorem run_bytes_ge (w : World) (s : ByteArray) : ∃ c w', (convert 9 49 (.string s)).run Try.prog w = .ok (.slice (some ⟨w.heap.size, 0, none⟩) s.size c) w' ∧ Bytes w s w' c ∧ s.size ≤ c :=
  ⟨_, _, Lib.run_convert_string_bytes w 9 49 5 s Try.underlying9 Try.underlying49 Try.underlying5, ⟨bytesWorld_buf w s, bytesWorld_kp w s, by rw [Lib.bytesWorld_size]; omega⟩, grownCap_ge _ _ _ _⟩
set_option maxHeartbeats 8000000 in
theorem rflip_any (s : ByteArray) (n : Int) {w : World} {g : Nat} {R : RS} {P : Nat → Prop} (h : RDrv w g R P) (hW : WR R.fs) (hn : R.fs.length ≤ 1000) (hn1 : -9223372036854775808 ≤ n) (hn2 : n ≤ 9223372036854775807) :
    Calls Try.prog 36 #[.pointer (some ⟨g, 0, none⟩), .string s, .int .i64 n] w (RAns w g P (R.flip s n)) := by
  have h0 := h
  obtain ⟨v, h1, h2, h3⟩ := h
  obtain ⟨rr, hrr⟩ : ∃ rr, R.flip s n = rr := ⟨_, rfl⟩
  have HRR := Lib.hid hrr
  rw [hrr]
  clear hrr
  unfold RS.flip at HRR
  obtain ⟨fs, left, off, count⟩ := R
  have hn : fs.length ≤ 1000 := hn
  obtain ⟨i, hi⟩ : ∃ i, posL fs s = i := ⟨_, rfl⟩
  have HI := Lib.hid hi
  go_enter Try.func36, Try.ntmps36
  go_wp2_with fail
  refine (at_any s w h1 (by show fs.length ≤ 1000000; omega)).mono ?_
  rintro e w3 ⟨rfl, k3⟩
  have hw3 := h1.kp k3 (by simp) (by simp)
  obtain ⟨A, c, rfl, hnc, hcm, -⟩ := hw3.row.slice
  rw [show posL (RS.fs ⟨fs, left, off, count⟩) s = i from hi]
  cases hcur : curL fs s with
  | none =>
    have hno := curL_none hcur
    have HR := Lib.hid HRR.out
    rw [show curL (RS.fs ⟨fs, left, off, count⟩) s = none from hcur] at HR
    rw [show isL (RS.fs ⟨fs, left, off, count⟩) s = false from hno]
    clear hi hcur hno HRR
    go_wp2_with fail
    go_ret
    exact ⟨by rw [← HR.out]; rfl, by rw [← HR.out]; exact rleft_kp h0 k3⟩
  | some f =>
    obtain ⟨hyes, hf, hfn⟩ := curL_some hcur
    rw [hi] at hf
    have HR2 := Lib.hid HRR.out
    rw [show curL (RS.fs ⟨fs, left, off, count⟩) s = some f from hcur] at HR2
    simp only [] at HR2
    have HF := Lib.hid hf
    have hby := hW f (List.mem_of_getElem? hf)
    rw [show isL (RS.fs ⟨fs, left, off, count⟩) s = true from hyes]
    have hilt : i < fs.length := (List.getElem?_eq_some_iff.1 hf).1
    have b1 : (i : Int) < (fs.length : Int) := by omega
    obtain ⟨gk, hA, r0, r1, r2, r3, z1, z2, z3⟩ := hw3.row.at_ hf
    subst hA
    have hne : gk ≠ g := fun e => hw3.ne (by rw [e]; rfl)
    have d0 := hw3.blk.cell 0
    have ka : Kp [] w3 (w3.alloc (.cells #[.string f.name, .string f.last, .string f.wait, .bool f.sure] 64)) := (Kp.rfl_ [] w3).alloc _
    have ba : At (w3.alloc (.cells #[.string f.name, .string f.last, .string f.wait, .bool f.sure] 64)) w3.heap.size 64 #[.string f.name, .string f.last, .string f.wait, .bool f.sure] := At.new w3 _ _
    clear hi hcur hyes hf hfn HRR
    obtain ⟨fn, fl, fw, sr⟩ := f
    have hby : fl.size + fw.size ≤ 1048576 := hby
    go_upto_region 5 with fail
    have hw4 := hw3.kp ka (by simp) (by simp)
    generalize w3.alloc (.cells #[.string fn, .string fl, .string fw, .bool sr] 64) = w4 at *
    have hk4 := k3.trans ka
    obtain ⟨gb, hgb⟩ : ∃ gb, w3.heap.size = gb := ⟨_, rfl⟩
    have HGB : Hid (w.heap.size ≤ gb) := Lib.hid (by rw [← hgb]; exact k3.size)
    have hgkb : gk ≠ gb := by have := hw3.row.lt (x := gk) rfl; omega
    rw [hgb] at ba
    rw [hgb]
    have q1 := ba.cell 1
    have q2 := ba.cell 2
    clear hgb ka r0 r1 r2 r3 z1 z2 z3 d0
    by_cases hn0 : n < 0
    · have HR := Lib.hid HR2.out
      rw [if_pos (.inl hn0)] at HR
      go_wp2_with fail
      go_ret
      exact ⟨by rw [← HR.out]; rfl, by rw [← HR.out]; exact rleft_kp h0 hk4⟩
    · obtain ⟨m, hm⟩ : ∃ m : Nat, n = m := ⟨n.toNat, by omega⟩
      subst hm
      obtain ⟨q, hq⟩ : ∃ q, m / 8 = q := ⟨_, rfl⟩
      obtain ⟨r, hr⟩ : ∃ r, m % 8 = r := ⟨_, rfl⟩
      obtain ⟨t1, t2, t3, t4⟩ := div8 (n := m) (q := q) (r := r) (by omega) (by omega)
      have HQ := Lib.hid hq
      have HRm := Lib.hid hr
      have hr8 : r < 8 := by omega
      clear hq hr
      by_cases hbig : (fl.size : Int) + (fw.size : Int) ≤ (q : Int)
      · have HR := Lib.hid HR2.out
        rw [if_pos (.inr (by show ((fl.size + fw.size : Nat) : Int) ≤ (m : Int) / 8; rw [t2]; omega))] at HR
        go_wp2_with fail
        go_ret
        exact ⟨by rw [← HR.out]; rfl, by rw [← HR.out]; exact rleft_kp h0 hk4⟩
      · have HR := Lib.hid HR2.out
        rw [if_neg (by
          show ¬ ((m : Int) < 0 ∨ ((fl.size + fw.size : Nat) : Int) ≤ (m : Int) / 8)
          rw [t2]
          omega)] at HR
        obtain ⟨sz, hsz⟩ : ∃ sz, fl.size + fw.size = sz := ⟨_, rfl⟩
        have hcat : (fl ++ fw).size = sz := by rw [ByteArray.size_append]; exact hsz
        have HSZ := Lib.hid hsz
        obtain ⟨x, hx⟩ : ∃ x, (fl ++ fw).data.toList[q]? = some x := ⟨_, List.getElem?_eq_getElem (by simp; omega)⟩
        have hxb := xor_u8 x hr8
        have HXB := Lib.hid hxb
        have HX := Lib.hid hx
        obtain ⟨c3, w5, hconv, ⟨hbuf, hk5, hsz5⟩, hc30⟩ := run_bytes_ge w4 (fl ++ fw)
        obtain ⟨gc, hgc⟩ : ∃ gc, w4.heap.size = gc := ⟨_, rfl⟩
        have HGC : Hid (w4.heap.size = gc) := Lib.hid hgc
        rw [hcat] at hconv hc30
        have HC3 := Lib.hid hc30
        clear hc30
        clear hxb hx
        go_upto_region 8 with fail
        simp only [HGC.out] at hbuf
        have hqlt : q < (fl ++ fw).data.toList.length := (List.getElem?_eq_some_iff.1 HX.out).1
        have hc := hbuf.cell HX.out
        have hfz := hbuf.free hqlt
        have hbuf2 := hbuf.set (j := q) (x ^^^ UInt8.ofNat (2 ^ r))
        rw [← HXB.out] at hbuf2
        have hkp2 : Kp [gc] w5 (w5.setCell ⟨gc, q, none⟩ (.int .u8 (bits .xor .u8 ((x.toNat : Nat) : Int) (2 ^ r % 256)))) := (Kp.rfl_ [gc] w5).set (by simp) _
        have hj2 : (q : Int) < (sz : Int) := by omega
        have hw5 := hw4.kp hk5 (by simp) (by simp)
        have ba5 := ba.kp hk5 (by simp)
        have hk45 := hk4.trans hk5
        have hgcl := HGC.out
        have hgw4 := hk4.size
        have hgl := hw4.blk.lt
        have hgkl := hw4.row.lt (x := gk) rfl
        have hgbl := ba.lt
        clear hbuf hconv hgc q1 q2 hqlt hsz
        go_wp2_with fail
        go_region
        clear hc hfz
        have hbuf3 : Buf (w5.setCell ⟨gc, q, none⟩ (.int .u8 (bits .xor .u8 ((x.toNat : Nat) : Int) (2 ^ r % 256)))).drew gc ((fl ++ fw).data.toList.set q (x ^^^ UInt8.ofNat (2 ^ r))) := hbuf2
        have hkp3 := hkp2.drew
        have hw6 := hw5.kp hkp3 (by simp; omega) (fun y hy => by
          have e : gk = y := by simpa [Value.ownBlock] using hy
          simp; omega)
        have ba6 := ba5.kp hkp3 (by simp; omega)
        generalize (w5.setCell ⟨gc, q, none⟩ (.int .u8 (bits .xor .u8 ((x.toNat : Nat) : Int) (2 ^ r % 256)))).drew = w6 at *
        obtain ⟨l, hl⟩ : ∃ l, (fl ++ fw).data.toList.set q (x ^^^ UInt8.ofNat (2 ^ r)) = l := ⟨_, rfl⟩
        have hll : l.length = sz := by rw [← hl, List.length_set]; simpa using hcat
        have hlt : l = (tbit (fl ++ fw) q r).data.toList := by
          rw [← hl]
          unfold tbit
          rw [bs_list]
          apply List.ext_getElem?
          intro j
          rw [List.getElem?_modify, List.getElem?_set]
          by_cases e : q = j
          · subst e
            rw [HX.out, if_pos rfl, if_pos (List.getElem?_eq_some_iff.1 HX.out).1]
            simp
          · simp [e]
        rw [hl] at hbuf3
        have HLT := Lib.hid hlt
        have HLL := Lib.hid hll
        clear hl hlt hll hbuf2 hkp2
        have hflsz : fl.size ≤ sz := by have := HSZ.out; omega
        -- the first half
        have hd6 : Kp [] w6 w6.drew := (Kp.rfl_ [] w6).drew
        have hw7 := hw6.kp hd6 (by simp) (by simp)
        have e0 : w6.drew.cell? ⟨g, 0, none⟩ = some (.slice (some ⟨gk, 0, none⟩) fs.length c) := hw7.blk.cell 0
        have e1 : w6.drew.cell? ⟨gb, 1, none⟩ = some (.string fl) := (ba6.kp hd6 (by simp)).cell 1
        obtain ⟨gk1, hA1, y0, y1, y2, y3, x1, x2, x3⟩ := hw7.row.at_ HF.out
        have eA := hA1
        injection eA with eA
        injection eA with eA
        subst eA
        have hc3 : sz ≤ c3 := HC3.out
        have hsl1 := fun w => front_u8 (some ⟨gc, 0, none⟩) sz c3 fl.size (by omega) w
        have hb7 : Buf w6.drew gc l := hbuf3
        have hcv1 := front_conv (c := c3) hb7 (k := fl.size) (by rw [HLL.out]; exact hflsz)
        go_wp2_with fail
        refine region_plan [.row [0, 1, 2, 3, 4, 5, 6, 7, 8, 9], .kept 10, .row [11, 12, 13]] (by kernel_rfl) (by kernel_rfl) (calm_of (fun _ _ _ h => h.2) (fun _ _ h => h) RAns.ret) ?_
        simp only [wpPlan, pickL, List.filterMap_cons, List.filterMap_nil, List.getElem?_cons_zero, List.getElem?_cons_succ]
        go_wp2_with fail
        refine ⟨KeptT.rfl_ _ _, ?_⟩
        go_wp2_with fail
        refine sqQ_end (by rfl) ?_
        have F1 : (fs.set i ⟨fn, bs (l.take fl.size), fw, sr⟩)[i]? = some ⟨fn, bs (l.take fl.size), fw, sr⟩ := by rw [List.getElem?_set_self hilt]
        have q8 : Kp [gk] w6 ((w6.setCell ⟨gk, i * 4 + 1, none⟩ (.string (bs (l.take fl.size)))).drew) := ((Kp.rfl_ [gk] w6).set (by simp) _).drew
        have hw8 : FSt ((w6.setCell ⟨gk, i * 4 + 1, none⟩ (.string (bs (l.take fl.size)))).drew) g (.slice (some ⟨gk, 0, none⟩) fs.length c) (fs.set i ⟨fn, bs (l.take fl.size), fw, sr⟩) left off count :=
          ⟨hw6.blk.kp q8 (by simpa using fun e => hne e.symm), hw7.row.set HF.out (by omega) rfl, hw6.ne⟩
        have ba8 := ba6.kp q8 (by simpa using fun e => hgkb e.symm)
        have hb8 : Buf ((w6.setCell ⟨gk, i * 4 + 1, none⟩ (.string (bs (l.take fl.size)))).drew) gc l := hbuf3.kp q8 (by simp; omega)
        clear e0 e1 y0 y1 y2 y3 x1 x2 x3 hsl1 hb7 hcv1 hw7 hd6 hA1 hbuf3
        generalize ((w6.setCell ⟨gk, i * 4 + 1, none⟩ (.string (bs (l.take fl.size)))).drew) = w8 at *
        -- the second half
        have hd8 : Kp [] w8 w8.drew := (Kp.rfl_ [] w8).drew
        have hw9 := hw8.kp hd8 (by simp) (by simp)
        have e0 : w8.drew.cell? ⟨g, 0, none⟩ = some (.slice (some ⟨gk, 0, none⟩) fs.length c) := hw9.blk.cell 0
        have e1 : w8.drew.cell? ⟨gb, 1, none⟩ = some (.string fl) := (ba8.kp hd8 (by simp)).cell 1
        obtain ⟨gk1, hA1, y0, y1, y2, y3, x1, x2, x3⟩ := hw9.row.at_ F1
        have eA := hA1
        injection eA with eA
        injection eA with eA
        subst eA
        obtain ⟨B, hsl2, hcvB⟩ := back_u8 (g := gc) (c := c3) (k := fl.size) HLL.out hflsz hc3
        have hcv2 := hcvB w8.drew hb8
        go_wp2_with fail
        refine region_plan [.row [0, 1, 2, 3, 4, 5, 6, 7, 8, 9], .kept 10, .row [11, 12, 13]] (by kernel_rfl) (by kernel_rfl) (calm_of (fun _ _ _ h => h.2) (fun _ _ h => h) RAns.ret) ?_
        simp only [wpPlan, pickL, List.filterMap_cons, List.filterMap_nil, List.getElem?_cons_zero, List.getElem?_cons_succ]
        go_wp2_with fail
        refine ⟨KeptT.rfl_ _ _, ?_⟩
        go_wp2_with fail
        refine sqQ_end (by rfl) ?_
        have q9 : Kp [gk] w8 ((w8.setCell ⟨gk, i * 4 + 2, none⟩ (.string (bs (l.drop fl.size)))).drew) := ((Kp.rfl_ [gk] w8).set (by simp) _).drew
        have hwA : FSt ((w8.setCell ⟨gk, i * 4 + 2, none⟩ (.string (bs (l.drop fl.size)))).drew) g (.slice (some ⟨gk, 0, none⟩) fs.length c) ((fs.set i ⟨fn, bs (l.take fl.size), fw, sr⟩).set i ⟨fn, bs (l.take fl.size), bs (l.drop fl.size), sr⟩) left off count :=
          ⟨hw8.blk.kp q9 (by simpa using fun e => hne e.symm), hw9.row.set F1 (by omega) rfl, hw8.ne⟩
        rw [List.set_set] at hwA
        have HWA := Lib.hid hwA
        clear hwA
        go_wp2_with fail
        go_ret
        refine ⟨by rw [← HR.out]; rfl, ?_⟩
        rw [← HR.out]
        have e9 : flipF ⟨fn, fl, fw, sr⟩ m = ⟨fn, bs (l.take fl.size), bs (l.drop fl.size), sr⟩ := by
          unfold flipF
          show DF.mk fn (bs ((tbit (fl ++ fw) (m / 8) (m % 8)).data.toList.take fl.size)) (bs ((tbit (fl ++ fw) (m / 8) (m % 8)).data.toList.drop fl.size)) sr = _
          rw [HQ.out, HRm.out, ← HLT.out]
        rw [show posL (RS.fs ⟨fs, left, off, count⟩) s = i from HI.out, show ((m : Int).toNat) = m from by simp, e9]
        have kA : KX P w4 ((w8.setCell ⟨gk, i * 4 + 2, none⟩ (.string (bs (l.drop fl.size)))).drew) := by
          have a1 : KX P w4 w5 := KX.of hk5 (by simp)
          have a2 := a1.then (KX.of (P := fun y => y = gc) hkp3 (by simp)) (fun y hy hlt => by omega)
          have a3 := a2.then (kx_one (P := P) q8 (h3 gk rfl)) (fun y hy _ => hy)
          exact a3.then (kx_one (P := P) q9 (h3 gk rfl)) (fun y hy _ => hy)
        exact RLeft.before (rleft_mk HWA.out h2 (fun y hy => .inl (h3 y hy)) kA) hk4
end Go.Proofs.Ytnmogfjbbibeiaa
