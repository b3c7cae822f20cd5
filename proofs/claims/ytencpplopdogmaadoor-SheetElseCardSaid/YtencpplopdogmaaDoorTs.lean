/- sha.Sum. -/
import Derived.Test.YtencpplopdogmaaDoorTf
namespace Go.Proofs.YtencpplopdogmaaDoor
set_option maxRecDepth 100000
open Go.RowKit
set_option linter.unusedVariables false

theorem str_at_ {w : World} {A : Option Addr} {n k : Nat} {zs : List ByteArray} (h : Ls w A n (zs.map Value.string)) (hk : k < n) : ∃ ad z, A = some ad ∧ zs[k]? = some z ∧ w.cell? (ad.add k) = some (Value.string z) := by
  obtain ⟨ad, u, e, _, hu, hc⟩ := h.at_ hk
  have hl : k < zs.length := by have := h.1; simp at this; omega
  rw [List.getElem?_map, List.getElem?_eq_getElem hl] at hu
  injection hu with hu
  subst hu
  exact ⟨ad, _, e, List.getElem?_eq_getElem hl, hc⟩
theorem flat_parts (ss : List ByteArray) (k : Nat) : flat (ss.take k) ++ flat (ss.drop k) = flat ss := by
  unfold flat
  rw [← List.flatMap_append, List.take_append_drop]
theorem ofNat_mod (x j : Nat) (hj : j ≤ 56) : UInt8.ofNat (x % 18446744073709551616 / 2 ^ j) = UInt8.ofNat (x / 2 ^ j) := by
  apply UInt8.toNat_inj.1
  simp only [UInt8.toNat_ofNat']
  have h : (18446744073709551616 : Nat) = 2 ^ j * 2 ^ (64 - j) := by rw [← Nat.pow_add, show j + (64 - j) = 64 by omega]
  have h2 : 2 ^ (64 - j) = 2 ^ 8 * 2 ^ (56 - j) := by rw [← Nat.pow_add, show 8 + (56 - j) = 64 - j by omega]
  rw [h, Nat.mod_mul_right_div_self, h2, Nat.mod_mul_right_mod]
theorem len8_mod (x : Nat) : len8 (x % 18446744073709551616) = len8 x := by
  unfold len8
  apply List.map_congr_left
  intro i hi
  exact ofNat_mod x _ (by omega)
theorem finW_mod (H : List Nat) (r : List UInt8) (x : Nat) : finW H r (x % 18446744073709551616) = finW H r x := by
  unfold finW
  rw [len8_mod]
/-- The state and the block behind the bytes P. -/
def Sta (w : World) (g gb : Nat) (P l : List UInt8) : Prop := WB w g (blocksW (P.length / 64) beginW P) ∧ BB w gb l ∧ l.length = 64 ∧ l.take (P.length % 64) = P.drop (64 * (P.length / 64))
theorem Sta.kp {w w' : World} {g gb : Nat} {P l : List UInt8} {S : List Nat} (h : Sta w g gb P l) (k : Kp S w w') (h1 : g ∉ S) (h2 : gb ∉ S) : Sta w' g gb P l := ⟨h.1.kp k h1, h.2.1.kp k h2, h.2.2⟩
/-- The block behind m more bytes. -/
def putB (l : List UInt8) (f m : Nat) (p : List UInt8) : List UInt8 := l.take f ++ (p.take m ++ l.drop (f + m))
theorem WB.drew_ {w : World} {g : Nat} {l : List Nat} (h : WB w g l) : WB w.drew g l := h
theorem BB.drew_ {w : World} {g : Nat} {l : List UInt8} (h : BB w g l) : BB w.drew g l := h
theorem putB_len {l p : List UInt8} {f m : Nat} (hl : l.length = 64) (hm : m ≤ p.length) (hf : f + m ≤ 64) : (putB l f m p).length = 64 := by
  unfold putB
  simp
  omega
theorem putB_part {P l p : List UInt8} {m : Nat} (hl : l.length = 64) (hp : l.take (P.length % 64) = P.drop (64 * (P.length / 64))) (hm : m ≤ p.length) (hf : P.length % 64 + m ≤ 64) :
    (putB l (P.length % 64) m p).take (P.length % 64 + m) = (P ++ p.take m).drop (64 * (P.length / 64)) := by
  have h1 : (l.take (P.length % 64)).length = P.length % 64 := by rw [List.length_take]; omega
  have h2 : (p.take m).length = m := by rw [List.length_take]; omega
  unfold putB
  rw [List.drop_append_of_le_length (by omega), ← hp, List.take_append, h1, List.take_of_length_le (i := P.length % 64 + m) (l := l.take (P.length % 64)) (by omega), show P.length % 64 + m - P.length % 64 = m by omega,
    List.take_append_of_le_length (by omega), List.take_take, Nat.min_self]
theorem step_part {P p : List UInt8} {m : Nat} (hm : m ≤ p.length) (hf : P.length % 64 + m < 64) : (P ++ p.take m).length % 64 = P.length % 64 + m ∧ (P ++ p.take m).length / 64 = P.length / 64 ∧ ∀ H, blocksW ((P ++ p.take m).length / 64) H (P ++ p.take m) = blocksW (P.length / 64) H P := by
  have h : (P ++ p.take m).length = P.length + m := by rw [List.length_append, List.length_take]; omega
  have h2 : (P.length + m) / 64 = P.length / 64 := by omega
  refine ⟨by omega, by omega, fun H => ?_⟩
  rw [h, h2, blocksW_pre _ _ _ _ (by omega)]
theorem step_full {P l p : List UInt8} {m : Nat} (hl : l.length = 64) (hp : l.take (P.length % 64) = P.drop (64 * (P.length / 64))) (hm : m ≤ p.length) (hf : P.length % 64 + m = 64) :
    (P ++ p.take m).length % 64 = 0 ∧ (P ++ p.take m).drop (64 * ((P ++ p.take m).length / 64)) = [] ∧ ∀ H, blocksW ((P ++ p.take m).length / 64) H (P ++ p.take m) = takeW (blocksW (P.length / 64) H P) (putB l (P.length % 64) m p) := by
  have h : (P ++ p.take m).length = P.length + m := by rw [List.length_append, List.length_take]; omega
  have h2 : (P.length + m) / 64 = P.length / 64 + 1 := by omega
  refine ⟨by omega, List.drop_of_length_le (by rw [h, h2]; omega), fun H => ?_⟩
  have h3 := putB_part hl hp hm (by omega)
  rw [hf, List.take_of_length_le (by rw [putB_len hl hm (by omega)]; omega)] at h3
  rw [h, h2, blocksW_snoc, blocksW_pre _ _ _ _ (by omega), h3, List.take_of_length_le]
  rw [← h3, putB_len hl hm (by omega)]
  omega
set_option maxHeartbeats 1000000 in
theorem sum_any (A : Option Addr) (n c : Nat) (ss : List ByteArray) (w : World) (ht : Tbk w) (hL : Ls w A n (ss.map Value.string)) (hz : ∀ z ∈ ss, z.size ≤ maxLen) (hn : (flat ss).length ≤ maxLen) (hn2 : n ≤ maxLen) :
    Calls Tryd.prog 25 #[.slice A n c] w fun e w' => e = .returned (.string (bs (shaW (flat ss)))) ∧ Kp [] w w' := by
  obtain ⟨CS, hCS⟩ : ∃ CS, (wordCells begW).toArray = CS := ⟨_, rfl⟩
  have hbg := begin_any w
  rw [hCS] at hbg
  have HBG := Lib.hid hbg
  have HCS := Lib.hid hCS
  clear hCS hbg
  have hsz : CS.size = 8 := by rw [← HCS.out]; simp [wordCells]; rfl
  have hinf : (Tryd.prog.info? 68).map (·.size) = some CS.size := by rw [hsz]; kernel_rfl
  have hone : CS.all (·.oneCell') = true := by
    rw [← HCS.out]
    simp only [List.all_toArray, wordCells, List.all_map, List.all_eq_true]
    intro x _
    rfl
  have hold : ∀ z : Value, (#[z, z, z, z, z, z, z, z] : Array Value).size = CS.size := fun z => by rw [hsz]; rfl
  go_enter Tryd.func25, Tryd.ntmps25
  go_wp2_with fail
  refine HBG.out.mono ?_
  rintro e w1 ⟨rfl, k1⟩
  clear HBG
  go_wp2_with (refine wpList_store_row rfl 68 _ _ rfl w1.heap.size CS rfl rfl 68 _ (heap_alloc_new _ _) hinf (hold _) hone ?_)
  rw [World.setRow_alloc_new]
  have hA1 : At (w1.alloc (.cells CS 68)) w1.heap.size 68 CS := At.new _ _ _
  have hg1 : (w1.alloc (.cells CS 68)).heap.size = w1.heap.size + 1 := by simp
  have k2 : Kp [] w (w1.alloc (.cells CS 68)) := k1.alloc _
  have hgw : w.heap.size ≤ w1.heap.size := k1.size
  have hwg := ht.1
  obtain ⟨g, hg⟩ : ∃ g, w1.heap.size = g := ⟨_, rfl⟩
  simp only [hg] at hA1 hg1 hgw ⊢
  clear hg
  generalize w1.alloc (.cells CS 68) = w2 at *
  have hZ : (#[.int .u8 0, .int .u8 0, .int .u8 0, .int .u8 0, .int .u8 0, .int .u8 0, .int .u8 0, .int .u8 0, .int .u8 0, .int .u8 0, .int .u8 0, .int .u8 0, .int .u8 0, .int .u8 0, .int .u8 0, .int .u8 0, .int .u8 0, .int .u8 0, .int .u8 0, .int .u8 0, .int .u8 0, .int .u8 0, .int .u8 0, .int .u8 0, .int .u8 0, .int .u8 0, .int .u8 0, .int .u8 0, .int .u8 0, .int .u8 0, .int .u8 0, .int .u8 0, .int .u8 0, .int .u8 0, .int .u8 0, .int .u8 0, .int .u8 0, .int .u8 0, .int .u8 0, .int .u8 0, .int .u8 0, .int .u8 0, .int .u8 0, .int .u8 0, .int .u8 0, .int .u8 0, .int .u8 0, .int .u8 0, .int .u8 0, .int .u8 0, .int .u8 0, .int .u8 0, .int .u8 0, .int .u8 0, .int .u8 0, .int .u8 0, .int .u8 0, .int .u8 0, .int .u8 0, .int .u8 0, .int .u8 0, .int .u8 0, .int .u8 0, .int .u8 0] : Array Value) = (Lib.byteCells (List.replicate 64 0)).toArray := rfl
  obtain ⟨w3, hw3⟩ : ∃ w3, w2.alloc (.cells #[.int .u8 0, .int .u8 0, .int .u8 0, .int .u8 0, .int .u8 0, .int .u8 0, .int .u8 0, .int .u8 0, .int .u8 0, .int .u8 0, .int .u8 0, .int .u8 0, .int .u8 0, .int .u8 0, .int .u8 0, .int .u8 0, .int .u8 0, .int .u8 0, .int .u8 0, .int .u8 0, .int .u8 0, .int .u8 0, .int .u8 0, .int .u8 0, .int .u8 0, .int .u8 0, .int .u8 0, .int .u8 0, .int .u8 0, .int .u8 0, .int .u8 0, .int .u8 0, .int .u8 0, .int .u8 0, .int .u8 0, .int .u8 0, .int .u8 0, .int .u8 0, .int .u8 0, .int .u8 0, .int .u8 0, .int .u8 0, .int .u8 0, .int .u8 0, .int .u8 0, .int .u8 0, .int .u8 0, .int .u8 0, .int .u8 0, .int .u8 0, .int .u8 0, .int .u8 0, .int .u8 0, .int .u8 0, .int .u8 0, .int .u8 0, .int .u8 0, .int .u8 0, .int .u8 0, .int .u8 0, .int .u8 0, .int .u8 0, .int .u8 0, .int .u8 0] 70) = w3 := ⟨_, rfl⟩
  have hA2 : At w3 (g + 1) 70 (Lib.byteCells (List.replicate 64 0)).toArray := by rw [← hw3, ← hg1, ← hZ]; exact At.new _ _ _
  have hA1' : At w3 g 68 CS := by rw [← hw3]; exact hA1.alloc _
  have k3 : Kp [] w w3 := by rw [← hw3]; exact k2.alloc _
  rw [hw3]
  have hs0 : Sta w3 g (g + 1) [] (List.replicate 64 0) := by
    refine ⟨⟨CS, _, (0, 0), hA1', ?_, ?_, .inr rfl⟩, ⟨_, hA2⟩, by simp, rfl⟩
    · rw [← HCS.out]; rfl
    · rw [hsz]; exact Nat.le_refl _
  have k3g : Kp [g, g + 1] w w3 := k3.mono (by simp)
  have HL := Lib.hid hL
  have hgt : g ≠ 0 := by omega
  have hgt2 : g + 1 ≠ 0 := by omega
  have hsl : ss.length = n := by simpa using hL.1
  have HSL := Lib.hid hsl
  have HT := Lib.hid ht
  have hoff : 0 < n → ∀ ad, A = some ad → ad.block ∉ [g, g + 1] := by
    intro h0 ad e
    have := hL.off h0 ad e
    simp
    omega
  have HOFF := Lib.hid hoff
  have hLt := hL
  clear hL ht hsl hoff hA1 hA1' hA2 hw3 hZ hinf hone hold hsz k1 k2 k3 hg1 HCS
  unfold maxLen at hn hn2
  go_loopg [5, 6, 13] n (fun gk f len i wr => ∃ (k : Nat) (l : List UInt8), n - k ≤ gk ∧ i = .int .i64 k ∧ k ≤ n ∧ f = .int .i64 ((flat (ss.take k)).length % 64 : Nat) ∧ len = .int .u64 ((flat (ss.take k)).length : Nat) ∧ Sta wr g (g + 1) (flat (ss.take k)) l ∧ Kp [g, g + 1] w wr)
  case atStart => exact ⟨0, _, by omega, rfl, Nat.zero_le _, rfl, rfl, hs0, k3g⟩
  case round =>
    clear hs0 k3g
    obtain ⟨k, l, hgk, rfl, hk, rfl, rfl, hst, hkp⟩ := hrel
    by_cases hlt : k < n
    · obtain ⟨ad, z, rfl, hzk, hc⟩ := str_at_ (HL.out.kp hkp HOFF.out) hlt
      have hzs := hz z (List.mem_of_getElem? hzk)
      unfold maxLen at hzs
      have hfl := flat_succ hzk
      have hfle : (flat (ss.take (k + 1))).length ≤ (flat ss).length := by
        have := congrArg List.length (flat_parts ss (k + 1))
        rw [List.length_append] at this
        omega
      obtain ⟨P0, hP0⟩ : ∃ P0, flat (ss.take k) = P0 := ⟨_, rfl⟩
      obtain ⟨T, hT⟩ : ∃ T, flat (ss.take (k + 1)) = T := ⟨_, rfl⟩
      rw [hP0] at hst hfl ⊢
      rw [hT] at hfl hfle
      have hfl2 : T.length = P0.length + z.size := by rw [hfl]; simp
      have hkI : (k : Int) < (n : Int) := by omega
      have HT2 := Lib.hid hT
      have HFL := Lib.hid hfl
      clear hT hP0 hzk hfl
      go_wp2_with fail
      go_loopg [5, 8] z.size (fun gk f pt wr => ∃ (P l : List UInt8) (p : ByteArray), p.size ≤ gk ∧ P ++ p.data.toList = T ∧ f = .int .i64 (P.length % 64 : Nat) ∧ pt = .string p ∧ Sta wr g (g + 1) P l ∧ Kp [g, g + 1] w wr)
      case atStart => exact ⟨P0, l, z, Nat.le_refl _, HFL.out.symm, rfl, rfl, hst, hkp⟩
      case round =>
        clear hst hkp hc
        obtain ⟨P, l, p, hgp, hPT, rfl, rfl, hst, hkp⟩ := hrel
        have hPl : P.length + p.size = T.length := by rw [← hPT]; simp
        by_cases hp0 : 0 < p.size
        · have hp0I : (0 : Int) < (p.size : Int) := by omega
          obtain ⟨f, hf⟩ : ∃ f, P.length % 64 = f := ⟨_, rfl⟩
          have hf64 : f < 64 := by omega
          obtain ⟨hwb, hbb, hl64, hlp⟩ := hst
          have hsl := slice64u (g + 1) f (by omega)
          rw [if_neg (by omega)] at hsl
          obtain ⟨m, hm⟩ : ∃ m, Nat.min p.size (64 - f) = m := ⟨_, rfl⟩
          have hm1 : m ≤ p.size := by rw [← hm]; exact Nat.min_le_left _ _
          have hm2 : m ≤ 64 - f := by rw [← hm]; exact Nat.min_le_right _ _
          have hmp : 0 < m := by rw [← hm]; exact Nat.lt_min.2 ⟨hp0, by omega⟩
          have hps : p.data.toList.length = p.size := by simp
          have hcp := fun c ty => hbb.copy (P := Tryd.prog) (o := f) (dLen := 64 - f) (dCap := c) (n := m) (s := p) hm (by omega) 47 9 ty 5 Tryd.underlying47 (by kernel_rfl)
          have hput : l.take f ++ (p.data.toList.take m ++ l.drop (f + m)) = putB l (P.length % 64) m p.data.toList := by rw [hf]; rfl
          have hbb2 := hbb.row (putB l (P.length % 64) m p.data.toList)
          have kp2 : Kp [g, g + 1] w (wr.setRow (g + 1) (Lib.byteCells (putB l (P.length % 64) m p.data.toList)).toArray) := hkp.row (by simp) _
          have kp1 : Kp [g + 1] wr (wr.setRow (g + 1) (Lib.byteCells (putB l (P.length % 64) m p.data.toList)).toArray) := (Kp.rfl_ [g + 1] wr).row (by simp) _
          have hwb2 := hwb.kp kp1 (by simp)
          have hlen2 := putB_len (l := l) (p := p.data.toList) (f := P.length % 64) (m := m) hl64 (by omega) (by omega)
          rw [hput] at hcp
          obtain ⟨l2, hl2⟩ : ∃ l2, putB l (P.length % 64) m p.data.toList = l2 := ⟨_, rfl⟩
          have hex : (p.extract m p.size).data.toList = p.data.toList.drop m := by simp [ByteArray.data_extract, List.take_of_length_le]
          have hexs : (p.extract m p.size).size = p.size - m := by simp
          have hPm : (P ++ p.data.toList.take m) ++ (p.extract m p.size).data.toList = T := by rw [hex, List.append_assoc, List.take_append_drop, hPT]
          have i1 : (m : Int) ≤ (p.size : Int) := by omega
          have i2 : IntKind.i64.wrap ((f : Int) + (m : Int)) = (f : Int) + (m : Int) := IntWalk.i64_in _ (by omega)
          rw [hf]
          by_cases hfull : f + m = 64
          · have hcond : (((f : Int) + (m : Int)) == 64) = true := by rw [beq_iff_eq]; omega
            obtain ⟨hs1, hs2, hs3⟩ := step_full hl64 hlp (p := p.data.toList) (m := m) (by omega) (by omega)
            have hs3' := hs3 beginW
            rw [hl2] at hcp hbb2 kp2 hwb2 hlen2 hs3'
            have HS1 := Lib.hid hs1
            have HS2 := Lib.hid hs2
            have HS3 := Lib.hid hs3'
            have HPM := Lib.hid hPm
            clear hs1 hs2 hs3 hs3' hPm hput hl2 hPT hbb hwb kp1 hlp hm hex hPl
            go_wp2_with fail
            generalize wr.setRow (g + 1) (Lib.byteCells l2).toArray = w4 at *
            go_region
            have HW4 := Lib.hid hwb2.drew_
            have HB4 := Lib.hid hbb2.drew_
            have k4 := kp2.drew
            generalize w4.drew = w5 at *
            clear hwb2 hbb2 kp2
            go_wp2_with fail
            refine (take_any w5 g (g + 1) (blocksW (P.length / 64) beginW P) l2 (HT.out.kp k4 (by simp; omega)) HW4.out (blocksW_len _ _ _) (blocksW_lt _ _ _ (by decide)) HB4.out.blk hlen2 hgt).mono ?_
            rintro e9 w9 ⟨rfl, hw9, k9⟩
            have hb9 := HB4.out.kp k9 (by simp)
            have hk9 : Kp [g, g + 1] w w9 := k4.trans (k9.mono (by intro x _ hx; simp at hx; simp [hx]))
            rw [← HS3.out] at hw9
            clear HW4 HB4 k4 k9
            go_wp2_with fail
            go_roundg (p.size - m)
            case measure => omega
            case rel =>
              refine ⟨P ++ p.data.toList.take m, l2, p.extract m p.size, by omega, HPM.out, by rw [HS1.out]; rfl, rfl, ⟨hw9, hb9, hlen2, ?_⟩, hk9⟩
              rw [HS1.out, HS2.out]
              rfl
          · have hcond : (((f : Int) + (m : Int)) == 64) = false := by rw [beq_eq_false_iff_ne]; omega
            obtain ⟨hs1, hs2, hs3⟩ := step_part (P := P) (p := p.data.toList) (m := m) (by omega) (by omega)
            have hs4 := putB_part hl64 hlp (p := p.data.toList) (m := m) (by omega) (by omega)
            have hs3' := hs3 beginW
            rw [hl2] at hcp hbb2 kp2 hwb2 hlen2 hs4
            have HS1 := Lib.hid hs1
            have HS2 := Lib.hid hs2
            have HS3 := Lib.hid hs3'
            have HS4 := Lib.hid hs4
            have HPM := Lib.hid hPm
            have HF := Lib.hid hf
            clear hs1 hs2 hs3 hs3' hs4 hPm hput hl2 hPT hbb hwb kp1 hlp hm hex hPl hf
            go_wp2_with fail
            generalize wr.setRow (g + 1) (Lib.byteCells l2).toArray = w4 at *
            go_region
            have hw9 := hwb2.drew_
            have hb9 := hbb2.drew_
            have hk9 := kp2.drew
            generalize w4.drew = w9 at *
            clear hwb2 hbb2 kp2
            rw [← HS3.out] at hw9
            go_wp2_with fail
            go_roundg (p.size - m)
            case measure => omega
            case rel =>
              refine ⟨P ++ p.data.toList.take m, l2, p.extract m p.size, by omega, HPM.out, by rw [HS1.out, HF.out]; congr 1, rfl, ⟨hw9, hb9, hlen2, ?_⟩, hk9⟩
              rw [HS1.out, HS2.out]
              exact HS4.out
        · have hp0I : ¬ (0 : Int) < (p.size : Int) := by omega
          have hpn : p.data.toList = [] := by
            apply List.eq_nil_of_length_eq_zero
            have : p.data.toList.length = p.size := by simp
            omega
          rw [hpn, List.append_nil] at hPT
          subst hPT
          have hst2 := Lib.hid hst
          clear hst
          go_wp2_with fail
          go_roundg (n - (k + 1))
          case measure => omega
          case rel => exact ⟨k + 1, l, by omega, by go_num, by omega, by rw [HT2.out]; exact congrArg (Value.int .i64) (by omega), by rw [HT2.out, hfl2]; rfl, by rw [HT2.out]; exact hst2.out, hkp⟩
    · obtain rfl : k = n := by omega
      have hall : ss.take k = ss := List.take_of_length_le (by have := HSL.out; omega)
      rw [hall] at hst ⊢
      obtain ⟨T, hT⟩ : ∃ T, flat ss = T := ⟨_, rfl⟩
      rw [hT] at hst hn ⊢
      obtain ⟨hwb, hbb, hl64, hlp⟩ := hst
      have hrl : (T.drop (64 * (T.length / 64))).length = T.length % 64 := by rw [List.length_drop]; omega
      have hkI : ¬ (k : Int) < (k : Int) := by omega
      have hm8 : IntKind.u64.wrap (8 * (T.length : Int)) = ((8 * T.length % 18446744073709551616 : Nat) : Int) := by simp [IntKind.wrap, IntKind.signed, IntKind.bits]
      have hW := Lib.hid hwb
      have hB := Lib.hid hbb
      have hTk := Lib.hid (HT.out.kp hkp (by simp; omega))
      clear hwb hbb
      go_wp2_with fail
      have e1 : (T.length : Int) % 64 = (((T.drop (64 * (T.length / 64))).length : Nat) : Int) := by rw [hrl]; rfl
      have e2 : 8 * (T.length : Int) % 18446744073709551616 = ((8 * T.length % 18446744073709551616 : Nat) : Int) := by omega
      simp only [e1, e2]
      refine (finish_any wr g (g + 1) (blocksW (T.length / 64) beginW T) l (T.drop (64 * (T.length / 64))) (8 * T.length % 18446744073709551616) hTk.out hW.out (blocksW_len _ _ _) (blocksW_lt _ _ _ (by decide)) hB.out hl64 (by rw [hrl]; exact hlp) (by omega) hgt hgt2 (by omega) (by omega)).mono ?_
      rintro e9 w9 ⟨rfl, hw9, k9⟩
      rw [finW_mod, fin_sha] at hw9
      have hk9 : Kp [] w w9 := (hkp.trans k9).mono (by intro x hx hm; simp at hm; omega)
      have hsha : beW (blocksW ((T.length + 72) / 64) beginW (T ++ padW T.length)) = shaW T := rfl
      have hlen8 : (blocksW ((T.length + 72) / 64) beginW (T ++ padW T.length)).length = 8 := blocksW_len _ _ _
      have hlt8 := blocksW_lt ((T.length + 72) / 64) beginW (T ++ padW T.length) (by decide)
      have HSHA := Lib.hid hsha
      have HTT := Lib.hid hT
      clear hsha e1 e2 hm8 hlp hrl hT hall hW hB hTk hkp k9
      generalize blocksW ((T.length + 72) / 64) beginW (T ++ padW T.length) = Hf at *
      have hwords := hw9.words hlt8
      clear hw9
      go_wp2_with fail
      refine (text_any' g Hf _ hlen8 hwords).mono ?_
      rintro e8 w8 ⟨rfl, k8⟩
      rw [HSHA.out]
      have hk8 := hk9.trans k8
      clear hk9 k8 hwords
      go_wp2_with fail
      go_ret
      exact ⟨by rw [HTT.out]; rfl, hk8⟩
end Go.Proofs.YtencpplopdogmaaDoor
