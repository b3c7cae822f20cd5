/- finish: what stands behind the message. -/
import Derived.Test.YtencpplopdogmaaDoorTl
namespace Go.Proofs.YtencpplopdogmaaDoor
set_option maxRecDepth 100000
open Go.RowKit
set_option linter.unusedVariables false

theorem slice64u (g t : Nat) (ht : t ≤ 64) (w : World) : (Instr.sliceAt 70 (.pointer (some ⟨g, 0, none⟩)) (some (.int .i64 (t : Int))) none none).run Tryd.prog w = .ok (.slice (some ⟨g, if t = 64 then 0 else t, none⟩) (64 - t) (64 - t)) w := by
  have har : Tryd.prog.arrayLen 70 = 64 := by kernel_rfl
  have hel : Tryd.prog.elem 70 = 5 := by kernel_rfl
  have hsz : (sizeOf 5).run Tryd.prog w = .ok 1 w := by kernel_rfl
  have hu : Tryd.prog.underlying 70 = some (.array (Tryd.prog.arrayLen 70) (Tryd.prog.elem 70)) := by kernel_rfl
  have e1 : (t : Int).toNat = t := by omega
  rw [run_sliceAt_array_l (ht := hu) (h0 := by omega) (h1 := by rw [har]; omega), hel, hsz, har, e1]
  simp only [Result.andThen_ok, slicedAt]
  by_cases h : t = 64
  · subst h
    rfl
  · rw [if_neg (by omega), if_neg h]
    simp [Addr.add]
    omega
theorem fin_l1 {l r : List UInt8} {fi : Nat} (hl : l.length = 64) (hr : l.take fi = r) (hf : fi < 64) (oo nn : Nat) (hoo : (if fi + 1 = 64 then 0 else fi + 1) = oo) (hnn : 64 - (fi + 1) = nn) :
    (l.set fi 128).take oo ++ (List.replicate nn 0 ++ (l.set fi 128).drop (oo + nn)) = r ++ 128 :: List.replicate (63 - fi) 0 := by
  have hs : l.set fi 128 = r ++ 128 :: l.drop (fi + 1) := by
    rw [List.set_eq_take_append_cons_drop, if_pos (by omega), hr]
  have hrl : r.length = fi := by rw [← hr, List.length_take]; omega
  rw [hs]
  by_cases h : fi + 1 = 64
  · rw [if_pos h] at hoo
    subst hoo
    rw [show nn = 0 by omega, List.drop_of_length_le (show l.length ≤ fi + 1 by omega), show 63 - fi = 0 by omega]
    simp
  · rw [if_neg h] at hoo
    subst hoo
    rw [show fi + 1 + nn = 64 by omega, show nn = 63 - fi by omega, List.take_append, List.drop_append, hrl, List.take_of_length_le (show r.length ≤ fi + 1 by omega), List.drop_of_length_le (show r.length ≤ 64 by omega), show fi + 1 - fi = 1 by omega, show 64 - fi = (63 - fi) + 1 by omega]
    simp [hl]
    omega
/-- The last k bytes are the length's. -/
def lenK (l : List UInt8) (n k : Nat) : List UInt8 := l.take (64 - k) ++ (len8 n).drop (8 - k)
theorem byte_shr (n k : Nat) : (n : Int) / 2 ^ (8 * k) % 256 = ((UInt8.ofNat (n / 2 ^ (8 * k))).toNat : Int) := by
  rw [shr_nat]
  simp
theorem len8_len (n : Nat) : (len8 n).length = 8 := by simp [len8]
theorem lenK_len {l : List UInt8} (hl : l.length = 64) (n : Nat) {k : Nat} (hk : k ≤ 8) : (lenK l n k).length = 64 := by
  unfold lenK
  rw [List.length_append, List.length_take, List.length_drop, len8_len, hl]
  omega
theorem lenK_set {l : List UInt8} (hl : l.length = 64) (n k : Nat) (hk : k < 8) : (lenK l n k).set (63 - k) (UInt8.ofNat (n / 2 ^ (8 * k))) = lenK l n (k + 1) := by
  unfold lenK
  have h1 : (l.take (64 - k)).length = 64 - k := by rw [List.length_take, hl]; omega
  have h2 : (len8 n).drop (8 - (k + 1)) = UInt8.ofNat (n / 2 ^ (8 * k)) :: (len8 n).drop (8 - k) := by
    rw [List.drop_eq_getElem_cons (by rw [len8_len]; omega), show 8 - (k + 1) + 1 = 8 - k by omega]
    congr 1
    simp [len8]
    congr 3
    omega
  rw [h2, List.set_append, if_pos (by omega), List.set_eq_take_append_cons_drop, h1, if_pos (by omega), List.take_take, show min (63 - k) (64 - k) = 64 - (k + 1) by omega,
    List.drop_of_length_le (by omega)]
  simp
set_option maxHeartbeats 1000000 in
theorem finish_any (w : World) (g gb : Nat) (H : List Nat) (l r : List UInt8) (n : Nat) (ht : Tbk w) (hw : WB w g H) (h8 : H.length = 8) (h32 : ∀ x ∈ H, x < 4294967296) (hb : BB w gb l) (hl : l.length = 64) (hr : l.take r.length = r) (hr64 : r.length < 64)
    (hg : g ≠ 0) (hgb : gb ≠ 0) (hne : g ≠ gb) (hn : n < 18446744073709551616) :
    Calls Tryd.prog 47 #[.pointer (some ⟨g, 0, none⟩), .pointer (some ⟨gb, 0, none⟩), .int .i64 (r.length : Int), .int .u64 (n : Int)] w fun e w' => e = .returned (.tuple #[]) ∧ WB w' g (finW H r n) ∧ Kp [g, gb] w w' := by
  obtain ⟨fi, hfi⟩ : ∃ fi, r.length = fi := ⟨_, rfl⟩
  have HF := Lib.hid hfi
  rw [hfi] at hr hr64 ⊢
  clear hfi
  obtain ⟨x0, hx0⟩ : ∃ x, l[fi]? = some x := ⟨_, List.getElem?_eq_getElem (by omega)⟩
  have c0 := hb.cell hx0
  have f0 := hb.free fi
  have hi1 : (fi : Int) < 64 := by omega
  have hb1 := hb.set fi 128
  have hb1' : BB (w.setCell ⟨gb, fi, none⟩ (.int .u8 128)) gb (l.set fi 128) := hb1
  have hsl := slice64u gb (fi + 1) (by omega)
  rw [show ((fi + 1 : Nat) : Int) = (fi : Int) + 1 by omega] at hsl
  obtain ⟨oo, hoo⟩ : ∃ oo, (if fi + 1 = 64 then 0 else fi + 1) = oo := ⟨_, rfl⟩
  obtain ⟨nn, hnn⟩ : ∃ nn, 64 - (fi + 1) = nn := ⟨_, rfl⟩
  rw [hoo, hnn] at hsl
  have hclr := fun c ty => hb1'.clear (P := Tryd.prog) (o := oo) (n := nn) (c := c) (by rw [List.length_set, hl, ← hoo, ← hnn]; split <;> omega) 47 5 ty Tryd.underlying47 (fun w => by kernel_rfl)
  rw [fin_l1 hl hr hr64 oo nn hoo hnn] at hclr
  have hb2 := hb1'.row (r ++ 128 :: List.replicate (63 - fi) 0)
  have k2 : Kp [g, gb] w ((w.setCell ⟨gb, fi, none⟩ (.int .u8 128)).setRow gb (Lib.byteCells (r ++ 128 :: List.replicate (63 - fi) 0)).toArray) := ((Kp.rfl_ [g, gb] w).set (by simp) _).row (by simp) _
  have k2' : Kp [gb] w ((w.setCell ⟨gb, fi, none⟩ (.int .u8 128)).setRow gb (Lib.byteCells (r ++ 128 :: List.replicate (63 - fi) 0)).toArray) := ((Kp.rfl_ [gb] w).set (by simp) _).row (by simp) _
  have hw2 := hw.kp k2' (by simpa using hne)
  have ht2 := ht.kp k2' (by simpa using hgb.symm)
  have HW2 := Lib.hid hw2
  have HT2 := Lib.hid ht2
  have HB2 := Lib.hid hb2
  have HK2 := Lib.hid k2
  clear hb1 hb1' hb hw ht hx0 hoo hnn hr hb2 k2 k2' hw2 ht2
  go_enter Tryd.func47, Tryd.ntmps47
  by_cases h56 : 56 < fi + 1
  · have hI : (56 : Int) < (fi : Int) + 1 := by omega
    go_wp2_with fail
    clear hsl hclr c0 f0
    generalize hW : (w.setCell ⟨gb, fi, none⟩ (.int .u8 128)).setRow gb (Lib.byteCells (r ++ 128 :: List.replicate (63 - fi) 0)).toArray = w4 at *
    obtain ⟨l1, hl1e⟩ : ∃ l1, r ++ 128 :: List.replicate (63 - fi) 0 = l1 := ⟨_, rfl⟩
    rw [hl1e] at HB2
    have hl1 : l1.length = 64 := by rw [← hl1e]; simp [HF.out]; omega
    refine (take_any w4 g gb H l1 HT2.out HW2.out h8 h32 HB2.out.blk hl1 hg).mono ?_
    rintro e5 w5 ⟨rfl, hw5, k5⟩
    have hb5 := HB2.out.kp k5 (by simpa using hne.symm)
    have ht5 := HT2.out.kp k5 (by simpa using hg.symm)
    have hclr := fun c ty => hb5.clear (P := Tryd.prog) (o := 0) (n := 64) (c := c) (by omega) 47 5 ty Tryd.underlying47 (fun w => by kernel_rfl)
    have e0 : l1.take 0 ++ (List.replicate 64 0 ++ l1.drop (0 + 64)) = List.replicate 64 0 := by rw [List.drop_of_length_le (by omega)]; rfl
    rw [e0] at hclr
    have k6 : Kp [gb] w5 (w5.setRow gb (Lib.byteCells (List.replicate 64 0)).toArray) := (Kp.rfl_ [gb] w5).row (by simp) _
    have HBq := Lib.hid (hb5.row (List.replicate 64 0))
    have HWq := Lib.hid (hw5.kp k6 (by simpa using hne))
    have HTq := Lib.hid (ht5.kp k6 (by simpa using hgb.symm))
    have HKq := Lib.hid ((HK2.out.trans (k5.mono (T := [g, gb]) (by intro x _ hx; simp at hx; simp [hx]))).trans (k6.mono (T := [g, gb]) (by intro x _ hx; simp at hx; simp [hx])))
    have hfin : Hid (takeW (takeW H l1) ((List.replicate 64 0).take 56 ++ len8 n) = finW H r n) := Lib.hid (by
      unfold finW
      rw [HF.out, if_pos (by omega), hl1e]
      rfl)
    have h82 : (takeW H l1).length = 8 := by rw [takeW_len, h8]
    have h322 := takeW_lt H l1
    have hl2 : (List.replicate 64 (0 : UInt8)).length = 64 := List.length_replicate
    clear hW hl1e HB2 HW2 HT2 HK2 HF hI hw5 k5 hb5 ht5 k6 e0
    generalize List.replicate 64 (0 : UInt8) = l2 at *
    generalize takeW H l1 = H2 at *
    go_wp2_with fail
    clear hclr
    generalize w5.setRow gb (Lib.byteCells l2).toArray = wq at *
    go_loopg [27] 8 (fun gk i wr => ∃ k : Nat, 8 - k ≤ gk ∧ i = .int .i64 k ∧ k ≤ 8 ∧ BB wr gb (lenK l2 n k) ∧ Kp [gb] wq wr)
    case atStart => exact ⟨0, by omega, rfl, Nat.zero_le _, by rw [show lenK l2 n 0 = l2 by unfold lenK; rw [List.take_of_length_le (by omega), List.drop_of_length_le (by rw [len8_len]; omega), List.append_nil]]; exact HBq.out, Kp.rfl_ _ _⟩
    case round =>
      obtain ⟨k, hgk, rfl, hk, hbk, hkk⟩ := hrel
      by_cases hlt : k < 8
      · obtain ⟨y, hy⟩ : ∃ y, (lenK l2 n k)[63 - k]? = some y := ⟨_, List.getElem?_eq_getElem (by rw [lenK_len hl2 n hk]; omega)⟩
        have cy := hbk.cell hy
        have fy := hbk.free (63 - k)
        have hs := hbk.set (63 - k) (UInt8.ofNat (n / 2 ^ (8 * k)))
        rw [lenK_set hl2 n k hlt] at hs
        have hki : (k : Int) < 8 := by omega
        have i1 : IntKind.i64.wrap (63 - (k : Int)) = 63 - (k : Int) := IntWalk.i64_in _ (by omega)
        have i2 : (63 - (k : Int)).toNat = 63 - k := by omega
        have i3 : (0 : Int) ≤ 63 - (k : Int) := by omega
        have i4 : 63 - (k : Int) < 64 := by omega
        have i5 : (0 : Int) ≤ 8 * (k : Int) := by omega
        have i6 : (8 * (k : Int)).toNat = 8 * k := by omega
        have i7 : IntKind.i64.wrap (8 * (k : Int)) = 8 * (k : Int) := IntWalk.i64_in _ (by omega)
        have HS := Lib.hid hs
        clear hs hy hbk
        go_wp2_with fail
        go_region
        have HB3 := HS.out
        rw [← byte_shr] at HB3
        clear HS cy fy
        generalize (n : Int) / 2 ^ (8 * k) % 256 = z at *
        have hb3 : BB (wr.setCell ⟨gb, 63 - k, none⟩ (.int .u8 z)).drew gb (lenK l2 n (k + 1)) := HB3
        have hk3 : Kp [gb] wq (wr.setCell ⟨gb, 63 - k, none⟩ (.int .u8 z)).drew := (hkk.set (by simp) _).drew
        clear HB3 hkk
        generalize (wr.setCell ⟨gb, 63 - k, none⟩ (.int .u8 z)).drew = wz at *
        go_wp2_with fail
        go_roundg (8 - (k + 1))
        case measure => omega
        case rel => exact ⟨k + 1, by omega, by go_num, by omega, hb3, hk3⟩
      · obtain rfl : k = 8 := by omega
        have hl8 : lenK l2 n 8 = l2.take 56 ++ len8 n := rfl
        go_wp2_with fail
        refine (take_any wr g gb H2 (lenK l2 n 8) (HTq.out.kp hkk (by simpa using hgb.symm)) (HWq.out.kp hkk (by simpa using hne)) h82 h322 hbk.blk (lenK_len hl2 n hk) hg).mono ?_
        rintro e9 w9 ⟨rfl, hw9, k9⟩
        rw [hl8, hfin.out] at hw9
        have hkz : Kp [g, gb] w w9 := (HKq.out.trans (hkk.mono (by intro x _ hx; simp at hx; simp [hx]))).trans (k9.mono (by intro x _ hx; simp at hx; simp [hx]))
        clear hbk hkk k9
        go_wp2_with fail
        go_end0
        exact ⟨rfl, hw9, hkz⟩
  · have hI : ¬ (56 : Int) < (fi : Int) + 1 := by omega
    go_wp2_with fail
    clear hsl hclr c0 f0
    generalize hW : (w.setCell ⟨gb, fi, none⟩ (.int .u8 128)).setRow gb (Lib.byteCells (r ++ 128 :: List.replicate (63 - fi) 0)).toArray = wq at *
    have HBq := HB2
    have HWq := HW2
    have HTq := HT2
    have HKq := HK2
    obtain ⟨l2, hl2e⟩ : ∃ l2, r ++ 128 :: List.replicate (63 - fi) 0 = l2 := ⟨_, rfl⟩
    rw [hl2e] at HBq
    have hl2 : l2.length = 64 := by rw [← hl2e]; simp [HF.out]; omega
    have hfin : Hid (takeW H (l2.take 56 ++ len8 n) = finW H r n) := Lib.hid (by
      have e : l2.take 56 = r ++ 128 :: List.replicate (55 - fi) 0 := by
        rw [← hl2e, List.take_append, List.take_of_length_le (by rw [HF.out]; omega), HF.out, show 56 - fi = (55 - fi) + 1 by omega, List.take_succ_cons, List.take_replicate, show min (55 - fi) (63 - fi) = 55 - fi by omega]
      rw [e]
      unfold finW
      rw [HF.out, if_neg (by omega)]
      simp)
    have h82 := h8
    have h322 := h32
    clear hW hl2e HB2 HW2 HT2 HK2 HF hI
    obtain ⟨H2, hH2⟩ : ∃ H2, H = H2 := ⟨_, rfl⟩
    rw [hH2] at hfin HWq h82 h322
    go_loopg [27] 8 (fun gk i wr => ∃ k : Nat, 8 - k ≤ gk ∧ i = .int .i64 k ∧ k ≤ 8 ∧ BB wr gb (lenK l2 n k) ∧ Kp [gb] wq wr)
    case atStart => exact ⟨0, by omega, rfl, Nat.zero_le _, by rw [show lenK l2 n 0 = l2 by unfold lenK; rw [List.take_of_length_le (by omega), List.drop_of_length_le (by rw [len8_len]; omega), List.append_nil]]; exact HBq.out, Kp.rfl_ _ _⟩
    case round =>
      obtain ⟨k, hgk, rfl, hk, hbk, hkk⟩ := hrel
      by_cases hlt : k < 8
      · obtain ⟨y, hy⟩ : ∃ y, (lenK l2 n k)[63 - k]? = some y := ⟨_, List.getElem?_eq_getElem (by rw [lenK_len hl2 n hk]; omega)⟩
        have cy := hbk.cell hy
        have fy := hbk.free (63 - k)
        have hs := hbk.set (63 - k) (UInt8.ofNat (n / 2 ^ (8 * k)))
        rw [lenK_set hl2 n k hlt] at hs
        have hki : (k : Int) < 8 := by omega
        have i1 : IntKind.i64.wrap (63 - (k : Int)) = 63 - (k : Int) := IntWalk.i64_in _ (by omega)
        have i2 : (63 - (k : Int)).toNat = 63 - k := by omega
        have i3 : (0 : Int) ≤ 63 - (k : Int) := by omega
        have i4 : 63 - (k : Int) < 64 := by omega
        have i5 : (0 : Int) ≤ 8 * (k : Int) := by omega
        have i6 : (8 * (k : Int)).toNat = 8 * k := by omega
        have i7 : IntKind.i64.wrap (8 * (k : Int)) = 8 * (k : Int) := IntWalk.i64_in _ (by omega)
        have HS := Lib.hid hs
        clear hs hy hbk
        go_wp2_with fail
        go_region
        have HB3 := HS.out
        rw [← byte_shr] at HB3
        clear HS cy fy
        generalize (n : Int) / 2 ^ (8 * k) % 256 = z at *
        have hb3 : BB (wr.setCell ⟨gb, 63 - k, none⟩ (.int .u8 z)).drew gb (lenK l2 n (k + 1)) := HB3
        have hk3 : Kp [gb] wq (wr.setCell ⟨gb, 63 - k, none⟩ (.int .u8 z)).drew := (hkk.set (by simp) _).drew
        clear HB3 hkk
        generalize (wr.setCell ⟨gb, 63 - k, none⟩ (.int .u8 z)).drew = wz at *
        go_wp2_with fail
        go_roundg (8 - (k + 1))
        case measure => omega
        case rel => exact ⟨k + 1, by omega, by go_num, by omega, hb3, hk3⟩
      · obtain rfl : k = 8 := by omega
        have hl8 : lenK l2 n 8 = l2.take 56 ++ len8 n := rfl
        go_wp2_with fail
        refine (take_any wr g gb H2 (lenK l2 n 8) (HTq.out.kp hkk (by simpa using hgb.symm)) (HWq.out.kp hkk (by simpa using hne)) h82 h322 hbk.blk (lenK_len hl2 n hk) hg).mono ?_
        rintro e9 w9 ⟨rfl, hw9, k9⟩
        rw [hl8, hfin.out, ← hH2] at hw9
        have hkz : Kp [g, gb] w w9 := (HKq.out.trans (hkk.mono (by intro x _ hx; simp at hx; simp [hx]))).trans (k9.mono (by intro x _ hx; simp at hx; simp [hx]))
        clear hbk hkk k9
        go_wp2_with fail
        go_end0
        exact ⟨rfl, hw9, hkz⟩
end Go.Proofs.YtencpplopdogmaaDoor
