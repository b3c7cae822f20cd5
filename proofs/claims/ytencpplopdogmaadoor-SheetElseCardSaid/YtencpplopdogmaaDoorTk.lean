/- A block taken. -/
import Derived.Test.YtencpplopdogmaaDoorSp
import Derived.Deep.WholeRow
namespace Go.Proofs.YtencpplopdogmaaDoor
set_option maxRecDepth 100000
open Go.RowKit
set_option linter.unusedVariables false

/-- The roots lie where the program lays them. -/
def Tbk (w : World) : Prop := 0 < w.heap.size ∧ ∀ j, j < 64 → w.cell? ⟨0, j, none⟩ = some (.int .u32 ((kW.getD j 0 : Nat) : Int))
theorem Tbk.kp {w w' : World} {S : List Nat} (h : Tbk w) (k : Kp S w w') (hS : 0 ∉ S) : Tbk w' := ⟨Nat.lt_of_lt_of_le h.1 k.size, fun j hj => (k.cell (p := ⟨0, j, none⟩) h.1 hS).trans (h.2 j hj)⟩
def rndW (H S : List Nat) (t : Nat) : List Nat := ((List.zip kW S).take t).foldl (fun v p => roundW v p.1 p.2) H
theorem rndW_succ {H S : List Nat} {t k x : Nat} (hk : kW[t]? = some k) (hx : S[t]? = some x) : rndW H S (t + 1) = roundW (rndW H S t) k x := by
  unfold rndW
  have hz : (List.zip kW S)[t]? = some (k, x) := by rw [List.zip_eq_zipWith, List.getElem?_zipWith, hk, hx]
  rw [List.take_add_one, hz, List.foldl_append]
  rfl
theorem rndW_all {H S : List Nat} (h : S.length = 64) : rndW H S 64 = roundsW H S := by
  unfold rndW roundsW
  rw [List.take_of_length_le (by rw [List.length_zip, h]; exact Nat.min_le_right _ _)]
theorem kW_lt : ∀ x ∈ kW, x < 4294967296 := by decide
theorem xor_nat {a b : Nat} (ha : a < 4294967296) (hb : b < 4294967296) : ∃ y : Nat, bits .xor .u32 (a : Int) (b : Int) = (y : Int) ∧ y < 4294967296 ∧ a ^^^ b = y := ⟨_, u32_xor_nat a b ha hb, xor_lt32 ha hb, rfl⟩
theorem and_nat {a b : Nat} (ha : a < 4294967296) (hb : b < 4294967296) : ∃ y : Nat, bits .and .u32 (a : Int) (b : Int) = (y : Int) ∧ y < 4294967296 ∧ a &&& b = y := ⟨_, u32_and_nat a b ha hb, Nat.lt_of_le_of_lt Nat.and_le_left ha, rfl⟩
theorem not_nat {a : Nat} (ha : a < 4294967296) : ∃ y : Nat, bits .xor .u32 IntKind.u32.max (a : Int) = (y : Int) ∧ y < 4294967296 ∧ 4294967295 ^^^ a = y := ⟨_, u32_xor_nat 4294967295 a (show 4294967295 < 4294967296 by decide) ha, xor_lt32 (by decide) ha, rfl⟩
theorem not_nat2 {a : Nat} (ha : a < 4294967296) : ∃ y : Nat, bits .xor .u32 (if IntKind.u32.signed = true then -1 else IntKind.u32.max) (a : Int) = (y : Int) ∧ y < 4294967296 ∧ 4294967295 ^^^ a = y := not_nat ha
theorem rot_nat {x n : Nat} (hx : x < 4294967296) (h1 : 1 ≤ n) (h2 : n ≤ 31) : ∃ y, (∀ w', Calls Tryd.prog 67 #[.int .u32 x, .int .i64 n] w' fun e w'' => e = .returned (.int .u32 (y : Nat)) ∧ w'' = w') ∧ y < 4294967296 ∧ rotn x n = y := ⟨_, fun w' => (rot_any x n w' hx h1 h2).mono (fun _ _ h => ⟨h.1, h.2.symm⟩), rotn_lt x n hx, rfl⟩
/-- One round's two sums. -/
theorem round_nat {a b c d e f g h k x : Nat} : roundW [a, b, c, d, e, f, g, h] k x = [add32 ((h + (rotn e 6 ^^^ rotn e 11 ^^^ rotn e 25) + ((e &&& f) ^^^ ((4294967295 ^^^ e) &&& g)) + k + x) % 4294967296) (((rotn a 2 ^^^ rotn a 13 ^^^ rotn a 22) + ((a &&& b) ^^^ (a &&& c) ^^^ (b &&& c))) % 4294967296), a, b, c, add32 d ((h + (rotn e 6 ^^^ rotn e 11 ^^^ rotn e 25) + ((e &&& f) ^^^ ((4294967295 ^^^ e) &&& g)) + k + x) % 4294967296), e, f, g] := rfl
theorem idx64 (CS : Array Value) (t : Nat) (x : Value) (ht : t < 64) (h : CS[t]? = some x) (w : World) : (Instr.index 77 (.agg CS) (.int .i64 (t : Int))).run Tryd.prog w = .ok x w := by
  have har : Tryd.prog.arrayLen 77 = 64 := by kernel_rfl
  have hel : Tryd.prog.elem 77 = 66 := by kernel_rfl
  have hsz : (sizeOf 66).run Tryd.prog w = .ok 1 w := by kernel_rfl
  have hu : Tryd.prog.underlying 77 = some (.array (Tryd.prog.arrayLen 77) (Tryd.prog.elem 77)) := by kernel_rfl
  rw [har, hel] at hu
  have hb : (0 : Int) ≤ (t : Int) ∧ (t : Int) < ((64 : Nat) : Int) := by omega
  simp [Instr.index, run_underlying hu, asIntOf, go_sem, hb, hsz, part, h]
  omega
set_option maxHeartbeats 3000000 in
theorem take_any (w : World) (g gb : Nat) (H : List Nat) (b : List UInt8) (ht : Tbk w) (hw : WB w g H) (h8 : H.length = 8) (h32 : ∀ x ∈ H, x < 4294967296) (hb : Blk w gb b) (hl : b.length = 64) (hg : g ≠ 0) :
    Calls Tryd.prog 46 #[.pointer (some ⟨g, 0, none⟩), .pointer (some ⟨gb, 0, none⟩)] w fun e w' => e = .returned (.tuple #[]) ∧ WB w' g (takeW H b) ∧ Kp [g] w w' := by
  obtain ⟨CS, hCS⟩ : ∃ CS, (wordCells (sched b 64)).toArray = CS := ⟨_, rfl⟩
  have hsp := spread_any w gb b hb hl
  rw [hCS] at hsp
  have HSP := Lib.hid hsp
  have HCS := Lib.hid hCS
  clear hCS hsp
  obtain ⟨h0, h1, h2, h3, h4, h5, h6, h7, rfl⟩ : ∃ h0 h1 h2 h3 h4 h5 h6 h7, H = [h0, h1, h2, h3, h4, h5, h6, h7] := by
    match H, h8 with
    | [a, b, c, d, e, f, g, h], _ => exact ⟨a, b, c, d, e, f, g, h, rfl⟩
  clear h8
  have hsz : CS.size = 64 := by rw [← HCS.out]; simp [wordCells, sched_len]
  have hinf : (Tryd.prog.info? 77).map (·.size) = some CS.size := by rw [hsz]; kernel_rfl
  have hone : CS.all (·.oneCell') = true := by
    rw [← HCS.out]
    simp only [List.all_toArray, wordCells, List.all_map, List.all_eq_true]
    intro x _
    rfl
  have hold : ∀ z : Value, (#[z, z, z, z, z, z, z, z, z, z, z, z, z, z, z, z, z, z, z, z, z, z, z, z, z, z, z, z, z, z, z, z, z, z, z, z, z, z, z, z, z, z, z, z, z, z, z, z, z, z, z, z, z, z, z, z, z, z, z, z, z, z, z, z] : Array Value).size = CS.size := fun z => by rw [hsz]; rfl
  go_enter Tryd.func46, Tryd.ntmps46
  go_wp2_with fail
  refine HSP.out.mono ?_
  rintro e w1 ⟨rfl, k1⟩
  clear HSP hb hl
  go_wp2_with (refine wpList_store_row rfl 77 _ _ rfl w1.heap.size CS rfl rfl 77 _ (heap_alloc_new _ _) hinf (hold _) hone ?_)
  rw [World.setRow_alloc_new]
  have hgx := heap_alloc_new w1 (.cells CS 77)
  have k2 : Kp [] w (w1.alloc (.cells CS 77)) := k1.alloc _
  obtain ⟨g2, hg2⟩ : ∃ g2, w1.heap.size = g2 := ⟨_, rfl⟩
  simp only [hg2] at hgx ⊢
  clear hg2 k1 hold hinf
  generalize w1.alloc (.cells CS 77) = w2 at *
  have hw2 := hw.kp k2 (by simp)
  have ht2 := ht.kp k2 (by simp)
  have c0 := hw2.cell (j := 0) rfl
  have c1 := hw2.cell (j := 1) rfl
  have c2 := hw2.cell (j := 2) rfl
  have c3 := hw2.cell (j := 3) rfl
  have c4 := hw2.cell (j := 4) rfl
  have c5 := hw2.cell (j := 5) rfl
  have c6 := hw2.cell (j := 6) rfl
  have c7 := hw2.cell (j := 7) rfl
  clear hw ht
  go_wp2_with fail
  go_quiet (fail)
  have hw3 : WB (w2.drewN nq) g [h0, h1, h2, h3, h4, h5, h6, h7] := hw2
  have ht3 : Tbk (w2.drewN nq) := ht2
  have hgx3 : (w2.drewN nq).heap[g2]? = some (.cells CS 77) := hgx
  have k3 : Kp [] w (w2.drewN nq) := k2.drewN nq
  have hinf : (Tryd.prog.info? 77).map (·.size) = some CS.size := by rw [hsz]; kernel_rfl
  clear hw2 ht2 hgx k2 c0 c1 c2 c3 c4 c5 c6 c7
  generalize (w2.drewN nq) = w3 at *
  go_wp2_with (refine wpList_load_row rfl 77 _ rfl g2 rfl 77 _ (0, 0) _ hgx3 Tryd.underlying77 rfl hinf ?_)
  have hS : (sched b 64).length = 64 := sched_len b 64
  have hS32 := sched_lt b 64
  have H0 : rndW [h0, h1, h2, h3, h4, h5, h6, h7] (sched b 64) 0 = [h0, h1, h2, h3, h4, h5, h6, h7] := rfl
  have HFIN : Hid (rndW [h0, h1, h2, h3, h4, h5, h6, h7] (sched b 64) 64 = roundsW [h0, h1, h2, h3, h4, h5, h6, h7] (sched b 64)) := Lib.hid (rndW_all hS)
  have HL := Lib.hid hS
  have HSZ := Lib.hid hsz
  clear hone hinf hS hsz
  go_loopg [5, 6, 7, 8, 9, 10, 11, 12, 52] 64 (fun gk va vb vc vd ve vf vg vh i wr => ∃ t a b' c d e f g' h : Nat, 64 - t ≤ gk ∧ i = .int .i64 t ∧ t ≤ 64 ∧ va = .int .u32 a ∧ vb = .int .u32 b' ∧ vc = .int .u32 c ∧ vd = .int .u32 d ∧ ve = .int .u32 e ∧ vf = .int .u32 f ∧ vg = .int .u32 g' ∧ vh = .int .u32 h ∧ (a < 4294967296 ∧ b' < 4294967296 ∧ c < 4294967296 ∧ d < 4294967296 ∧ e < 4294967296 ∧ f < 4294967296 ∧ g' < 4294967296 ∧ h < 4294967296) ∧ rndW [h0, h1, h2, h3, h4, h5, h6, h7] (sched b 64) t = [a, b', c, d, e, f, g', h] ∧ Kp [] w wr ∧ WB wr g [h0, h1, h2, h3, h4, h5, h6, h7] ∧ Tbk wr)
  case atStart => exact ⟨0, h0, h1, h2, h3, h4, h5, h6, h7, by omega, rfl, Nat.zero_le _, rfl, rfl, rfl, rfl, rfl, rfl, rfl, rfl, by simpa using h32, H0, k3, hw3, ht3⟩
  case round =>
    clear k3 hw3 ht3 H0 hgx3
    obtain ⟨t, a, b', c, d, e, f, g', h, hgk, rfl, ht, rfl, rfl, rfl, rfl, rfl, rfl, rfl, rfl, ⟨ba, bb, bc, bd, be, bf, bg, bh⟩, hrn, hkp, hwb, htb⟩ := hrel
    by_cases hlt : t < 64
    · obtain ⟨k, hk⟩ : ∃ k, kW[t]? = some k := ⟨_, List.getElem?_eq_getElem (by rw [kW_len]; exact hlt)⟩
      obtain ⟨x, hx⟩ : ∃ x, (sched b 64)[t]? = some x := ⟨_, List.getElem?_eq_getElem (by rw [HL.out]; exact hlt)⟩
      have hxl := hS32 x (List.mem_of_getElem? hx)
      have hkl := kW_lt k (List.mem_of_getElem? hk)
      have hct := htb.2 t hlt
      have hkd : kW.getD t 0 = k := by rw [List.getD_eq_getElem?_getD, hk]; rfl
      rw [hkd] at hct
      have hcs : CS[t]? = some (.int .u32 (x : Int)) := by rw [← HCS.out]; simp [wordCells, hx]
      have hnext := rndW_succ (H := [h0, h1, h2, h3, h4, h5, h6, h7]) hk hx
      rw [hrn, round_nat] at hnext
      have htI : (t : Int) < 64 := by omega
      obtain ⟨r6, HR6, b6, e6⟩ := rot_nat (x := e) (n := 6) be (by omega) (by omega)
      obtain ⟨r11, HR11, b11, e11⟩ := rot_nat (x := e) (n := 11) be (by omega) (by omega)
      obtain ⟨r25, HR25, b25, e25⟩ := rot_nat (x := e) (n := 25) be (by omega) (by omega)
      obtain ⟨r2, HR2, b2, e2⟩ := rot_nat (x := a) (n := 2) ba (by omega) (by omega)
      obtain ⟨r13, HR13, b13, e13⟩ := rot_nat (x := a) (n := 13) ba (by omega) (by omega)
      obtain ⟨r22, HR22, b22, e22⟩ := rot_nat (x := a) (n := 22) ba (by omega) (by omega)
      obtain ⟨y1, X1, l1, f1⟩ := xor_nat b6 b11
      obtain ⟨y2, X2, l2, f2⟩ := xor_nat l1 b25
      obtain ⟨y3, X3, l3, f3⟩ := and_nat be bf
      obtain ⟨y4, X4, l4, f4⟩ := not_nat2 be
      obtain ⟨y5, X5, l5, f5⟩ := and_nat l4 bg
      obtain ⟨y6, X6, l6, f6⟩ := xor_nat l3 l5
      obtain ⟨z1, Z1, m1, g1⟩ := xor_nat b2 b13
      obtain ⟨z2, Z2, m2, gg2⟩ := xor_nat m1 b22
      obtain ⟨z3, Z3, m3, g3⟩ := and_nat ba bb
      obtain ⟨z4, Z4, m4, g4⟩ := and_nat ba bc
      obtain ⟨z5, Z5, m5, g5⟩ := and_nat bb bc
      obtain ⟨z6, Z6, m6, g6⟩ := xor_nat m3 m4
      obtain ⟨z7, Z7, m7, g7⟩ := xor_nat m6 m5
      rw [e6, e11, e25, e2, e13, e22, f1, f2, f3, f4, f5, f6, g1, gg2, g3, g4, g5, g6, g7] at hnext
      have HNEXT := Lib.hid hnext
      clear e6 e11 e25 e2 e13 e22 f1 f2 f3 f4 f5 f6 g1 gg2 g3 g4 g5 g6 g7 b6 b11 b25 b2 b13 b22 l1 l2 l3 l4 l5 l6 m1 m2 m3 m4 m5 m6 m7 hnext hrn hk hx hkd
      have hidx := idx64 CS t _ hlt hcs
      clear hcs HCS
      go_wp2_with fail
      go_quiet ((go_at_call 67; first | with_reducible exact Calls.quiet_of_same (HR6 _) | with_reducible exact Calls.quiet_of_same (HR11 _) | with_reducible exact Calls.quiet_of_same (HR25 _)))
      obtain ⟨t1, ht1⟩ : ∃ t1, (h + y2 + y6 + k + x) % 4294967296 = t1 := ⟨_, rfl⟩
      have hv1 : ((((h : Int) + (y2 : Int) + (y6 : Int) + (k : Int)) % 4294967296 + (x : Int)) % 4294967296) = ((t1 : Nat) : Int) := by omega
      have bt1 : t1 < 4294967296 := by omega
      rw [hv1]
      have hwb := hwb.kp ((Kp.rfl_ [] wr).drewN nq) (by simp)
      have htb := htb.kp ((Kp.rfl_ [] wr).drewN nq) (by simp)
      have hkp := hkp.drewN nq
      have HT1 := Lib.hid ht1
      clear X1 X2 X3 X4 X5 X6 HR6 HR11 HR25 hidx hct ht1 hv1
      generalize wr.drewN nq = wq at *
      have HWB := Lib.hid hwb
      have HTB := Lib.hid htb
      have HKP := Lib.hid hkp
      clear hwb htb hkp
      go_wp2_with fail
      refine (HR2 _).mono ?_
      rintro e w8 ⟨rfl, rfl⟩
      go_wp2_with fail
      refine (HR13 _).mono ?_
      rintro e w8 ⟨rfl, rfl⟩
      go_wp2_with fail
      refine (HR22 _).mono ?_
      rintro e w8 ⟨rfl, rfl⟩
      go_wp2_with fail
      go_roundg (64 - (t + 1))
      case measure => omega
      case rel =>
        have hn := HNEXT.out
        rw [HT1.out] at hn
        refine ⟨t + 1, add32 t1 ((z2 + z7) % 4294967296), a, b', c, add32 d t1, e, f, g', by omega, by go_num, by omega, congrArg (Value.int .u32) (by unfold add32; omega), rfl, rfl, rfl, congrArg (Value.int .u32) (by unfold add32; omega), rfl, rfl, rfl, ⟨?_, ba, bb, bc, ?_, be, bf, bg⟩, hn, HKP.out, HWB.out, HTB.out⟩
        · unfold add32; omega
        · unfold add32; omega
    · obtain rfl : t = 64 := by omega
      have hfin := HFIN.out
      rw [hrn] at hfin
      have HF2 := Lib.hid hfin
      have HWB := Lib.hid hwb
      have HKP := Lib.hid hkp
      clear hfin hrn HFIN hwb hkp htb HCS hS32 HL
      go_wp2_with fail
      have hL : Ls (wr.alloc (.cells #[.int .u32 (a : Int), .int .u32 (b' : Int), .int .u32 (c : Int), .int .u32 (d : Int), .int .u32 (e : Int), .int .u32 (f : Int), .int .u32 (g' : Int), .int .u32 (h : Int)] 66)) (some ⟨wr.heap.size, 0, none⟩) 8 (wordCells [a, b', c, d, e, f, g', h]) :=
        Ls.of_at (At.new wr 66 #[.int .u32 (a : Int), .int .u32 (b' : Int), .int .u32 (c : Int), .int .u32 (d : Int), .int .u32 (e : Int), .int .u32 (f : Int), .int .u32 (g' : Int), .int .u32 (h : Int)])
      have hlt := HWB.out.lt
      refine (add_any g [h0, h1, h2, h3, h4, h5, h6, h7] [a, b', c, d, e, f, g', h] _ 8 _ rfl rfl (HWB.out.kp ((Kp.rfl_ [] wr).alloc _) (by simp)) hL (by rintro ad ⟨⟩; simp; omega)).mono ?_
      rintro e9 w9 ⟨rfl, hw9, k9⟩
      rw [HF2.out] at hw9
      go_wp2_with fail
      go_end0
      exact ⟨rfl, hw9, ((HKP.out.alloc _).mono (by simp)).trans k9⟩
end Go.Proofs.YtencpplopdogmaaDoor
