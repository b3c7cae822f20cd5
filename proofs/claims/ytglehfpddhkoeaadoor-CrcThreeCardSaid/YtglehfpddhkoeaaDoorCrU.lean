/- CrcThree. -/
import Derived.Test.YtglehfpddhkoeaaDoorCrT
import Derived.Test.YtglehfpddhkoeaaDoorRg
import Derived.Deep.RegionWith
namespace Go.Proofs.YtglehfpddhkoeaaDoor
set_option maxRecDepth 100000
open Go.RowKit
set_option linter.unusedVariables false

/-- The bytes of three texts, turned together. -/
def zip3 (a b c : List UInt8) : List UInt8 := List.zipWith (· ^^^ ·) (List.zipWith (· ^^^ ·) a b) c
theorem zip3_at {a b c : List UInt8} {i : Nat} {x y z : UInt8} (ha : a[i]? = some x) (hb : b[i]? = some y) (hc : c[i]? = some z) : (zip3 a b c)[i]? = some (x ^^^ y ^^^ z) := by
  unfold zip3
  simp [List.getElem?_zipWith, ha, hb, hc]
theorem zip3_len {a b c : List UInt8} {n : Nat} (ha : a.length = n) (hb : b.length = n) (hc : c.length = n) : (zip3 a b c).length = n := by
  unfold zip3
  simp
  omega
theorem set_front {d : List UInt8} {i n : Nat} {v : UInt8} (h : d[i]? = some v) (hi : i < n) : (d.take i ++ List.replicate (n - i) 0).set i v = d.take (i + 1) ++ List.replicate (n - (i + 1)) 0 := by
  have hl : (d.take i).length = i := by rw [List.length_take]; have := (List.getElem?_eq_some_iff.1 h).1; omega
  rw [List.set_append, if_neg (by omega), hl, Nat.sub_self, show n - i = (n - (i + 1)) + 1 by omega, List.replicate_succ, List.set_cons_zero, List.take_add_one, h]
  simp
theorem xor_u8 (x y : UInt8) : bits .xor .u8 (x.toNat : Int) (y.toNat : Int) = (((x ^^^ y).toNat : Nat) : Int) := by
  rw [u8_xor_nat _ _ x.toNat_lt y.toNat_lt, UInt8.toNat_xor]
theorem byte_front {s : ByteArray} {i n : Nat} (hi : i < n) (hn : n ≤ s.size) : ∃ b : UInt8, s[i] = b ∧ (s.data.toList.take n)[i]? = some b := by
  obtain ⟨b, h1, h2⟩ := byte_at (s := s) (k := i) (by omega)
  exact ⟨b, h1, by rw [List.getElem?_take, if_pos hi]; exact h2⟩
theorem Small (s : ByteArray) (n : Nat) (h : s.size ≤ n) (hn : n ≤ maxLen) : ∀ z ∈ [s], z.size ≤ maxLen := fun z hz => by
  obtain rfl : z = s := by simpa using hz
  omega

set_option maxRecDepth 100000 in
set_option maxHeartbeats 8000000 in
theorem cthree (a b c : ByteArray) (n : Nat) (w : World) (ht : Tab w) (ha : n ≤ a.size) (hb : n ≤ b.size) (hc : n ≤ c.size) (hn : n ≤ 4096) (ha2 : a.size ≤ maxLen) (hb2 : b.size ≤ maxLen) (hc2 : c.size ≤ maxLen) (he : a.size = n ∨ b.size = n ∨ c.size = n) :
    Calls Tryd.prog 6 #[.string a, .string b, .string c] w (Yes w) := by
  unfold maxLen at ha2 hb2 hc2
  have hmin : (if ((c.size : Int) < if b.size < a.size then (b.size : Int) else (a.size : Int)) then (c.size : Int) else if b.size < a.size then (b.size : Int) else (a.size : Int)) = (n : Int) := by
    split <;> split at * <;> omega
  clear he
  obtain ⟨i0, hi0, hz0, hz1, hz2⟩ := info_parts info_u8
  go_enter Tryd.func6, Tryd.ntmps6
  go_wp2_with fail
  clear hmin
  refine (cawake _ ht).mono ?_
  rintro e w2 ⟨rfl, hk2⟩
  go_wp2_with (at_make; go_must (refine wpList_make_full _ rfl _ _ 34 rfl w2.heap.size 5 i0 _ 1 Tryd.underlying34 hi0 hz0 hz1 .i64 .i64 (n : Int) (n : Int) n rfl rfl rfl rfl (by rw [hz2]; omega) (by unfold maxLen; omega) (Nat.le_refl _) ?_); intro w3 hown3 hg3)
  rw [made_bytes] at hown3
  obtain ⟨hbuf, hlen0⟩ := Buf.of_own hown3
  have hg : w.heap.size ≤ w2.heap.size := hk2.size
  have hkp3 := hk2.trans (Kp.of_grown (S := []) hg3 (by simp))
  obtain ⟨g, hgg⟩ : ∃ g, w2.heap.size = g := ⟨_, rfl⟩
  rw [hgg] at hbuf hg ⊢
  clear hown3 hg3 hgg hk2 hlen0
  obtain ⟨d, hd⟩ : ∃ d, zip3 (a.data.toList.take n) (b.data.toList.take n) (c.data.toList.take n) = d := ⟨_, rfl⟩
  have HD := Lib.hid hd
  clear hd
  go_wp2_with fail
  go_loopg [28] n (fun gk iv wr => ∃ i : Nat, n - i ≤ gk ∧ iv = .int .i64 i ∧ i ≤ n ∧ Buf wr g (d.take i ++ List.replicate (n - i) 0) ∧ Kp [] w wr)
  case atStart => exact ⟨0, by omega, rfl, by omega, by simpa using hbuf, hkp3⟩
  case round =>
    clear hbuf hkp3
    obtain ⟨i, hgk, rfl, hi, hbuf, hkp⟩ := hrel
    by_cases hlt : i < n
    · obtain ⟨x, hx, hxl⟩ := byte_front hlt ha
      obtain ⟨y, hy, hyl⟩ := byte_front hlt hb
      obtain ⟨z, hz, hzl⟩ := byte_front hlt hc
      have e1 := xor_u8 x y
      have e2 := xor_u8 (x ^^^ y) z
      have hdl : d[i]? = some (x ^^^ y ^^^ z) := by rw [← HD.out]; exact zip3_at hxl hyl hzl
      have hl : (d.take i ++ List.replicate (n - i) 0).length = n := by
        rw [List.length_append, List.length_take, List.length_replicate]
        have := (List.getElem?_eq_some_iff.1 hdl).1
        omega
      have hf := hbuf.free (j := i) (by omega)
      obtain ⟨u0, hc0⟩ : ∃ u, wr.cell? ⟨g, i, none⟩ = some u := ⟨_, hbuf.cell (j := i) (List.getElem?_eq_getElem (by omega))⟩
      have hbuf2 := hbuf.set (j := i) (x ^^^ y ^^^ z)
      rw [set_front hdl hlt] at hbuf2
      have hkp2 : Kp [] w (wr.setCell ⟨g, i, none⟩ (.int .u8 ((x ^^^ y ^^^ z).toNat : Int))) := hkp.set (by simp; omega) _
      have j1 : (0 : Int) ≤ (i : Int) := by omega
      have j2 : (i : Int) < (n : Int) := by omega
      have j3 : (i : Int) < (a.size : Int) := by omega
      have j4 : (i : Int) < (b.size : Int) := by omega
      have j5 : (i : Int) < (c.size : Int) := by omega
      clear hxl hyl hzl hdl hl hbuf
      generalize (x ^^^ y ^^^ z).toNat = v at *
      generalize (x ^^^ y).toNat = u at *
      go_wp2_with fail
      go_region
      have hbuf3 : Buf (wr.setCell ⟨g, i, none⟩ (.int .u8 (v : Int))).drew g (d.take (i + 1) ++ List.replicate (n - (i + 1)) 0) := hbuf2
      have hkp3 := hkp2.drew
      clear hbuf2 hkp2 hc0 hf e1 e2 hx hy hz
      generalize (wr.setCell ⟨g, i, none⟩ (.int .u8 (v : Int))).drew = wq at *
      go_wp2_with fail
      go_roundg (n - (i + 1))
      case measure => omega
      case rel => exact ⟨i + 1, by omega, by go_num, by omega, hbuf3, hkp3⟩
    · obtain rfl : i = n := by omega
      have la : (a.data.toList.take i).length = i := by rw [List.length_take]; simp; omega
      have lb : (b.data.toList.take i).length = i := by rw [List.length_take]; simp; omega
      have lc : (c.data.toList.take i).length = i := by rw [List.length_take]; simp; omega
      have ld : d.length = i := by rw [← HD.out]; exact zip3_len la lb lc
      have hdd : d.take i ++ List.replicate (i - i) 0 = d := by rw [Nat.sub_self, List.replicate_zero, List.append_nil, List.take_of_length_le (by omega)]
      rw [hdd] at hbuf
      have h3 := Crc.three (a := a.data.toList.take i) (b := b.data.toList.take i) (c := c.data.toList.take i) (by omega) (by omega)
      have hD : List.zipWith (· ^^^ ·) (List.zipWith (· ^^^ ·) (a.data.toList.take i) (b.data.toList.take i)) (c.data.toList.take i) = d := HD.out
      rw [hD] at h3
      obtain ⟨m, hm⟩ : ∃ m, Crc.more 0 (flat [bs d]) = m := ⟨_, rfl⟩
      obtain ⟨ma, hma⟩ : ∃ m, Crc.more 0 (flat [a.extract 0 i]) = m := ⟨_, rfl⟩
      obtain ⟨mb, hmb⟩ : ∃ m, Crc.more 0 (flat [b.extract 0 i]) = m := ⟨_, rfl⟩
      obtain ⟨mc, hmc⟩ : ∃ m, Crc.more 0 (flat [c.extract 0 i]) = m := ⟨_, rfl⟩
      have hfe : ∀ s : ByteArray, flat [s.extract 0 i] = s.data.toList.take i := fun s => by simp [flat, ByteArray.data_extract]
      have hm' : Crc.more 0 d = m := by rw [← hm]; simp [flat, bs_list]
      have hx1 := u32_xor_nat ma mb (by rw [← hma]; exact Crc.more_lt _ _) (by rw [← hmb]; exact Crc.more_lt _ _)
      have hab : ma ^^^ mb < 4294967296 := Crc.xor_lt32 (by rw [← hma]; exact Crc.more_lt _ _) (by rw [← hmb]; exact Crc.more_lt _ _)
      have hx2 := u32_xor_nat (ma ^^^ mb) mc hab (by rw [← hmc]; exact Crc.more_lt _ _)
      have hr : ma ^^^ mb ^^^ mc = m := by rw [← hma, ← hmb, ← hmc, hfe, hfe, hfe, ← h3, hm']
      rw [hr] at hx2
      have HM := Lib.hid hm
      have HMA := Lib.hid hma
      have HMB := Lib.hid hmb
      have HMC := Lib.hid hmc
      have hback := hbuf.back i i ld
      have hbufd : Buf wr.drew g d := hbuf
      have hback2 := hbufd.back i i ld
      clear hbufd
      have zd : Hid (∀ z ∈ [bs d], z.size ≤ maxLen) := fun z h => by
        obtain rfl : z = bs d := by simpa using h
        rw [bs_size, ld]; unfold maxLen; omega
      have ze : ∀ s : ByteArray, ∀ z ∈ [s.extract 0 i], z.size ≤ maxLen := fun s z h => by
        obtain rfl : z = s.extract 0 i := by simpa using h
        rw [ByteArray.size_extract]; unfold maxLen; omega
      have ZE := Lib.hid ze
      have htr := ht.kp hkp
      have hi0' : (0 : Int) ≤ (i : Int) := by omega
      have ia : (i : Int) ≤ (a.size : Int) := by omega
      have ib : (i : Int) ≤ (b.size : Int) := by omega
      have ic : (i : Int) ≤ (c.size : Int) := by omega
      clear hdd h3 hD hfe hm' hr hab hm hma hmb hmc la lb lc ze
      have hcv : ∀ w', Kp [] wr w' → (convert 34 9 (.slice (some ⟨g, 0, none⟩) i i)).run Tryd.prog w' = .ok (.string (bs d)) w' := fun w' hk => (hbuf.kp hk (by simp)).back i i ld
      clear HD
      generalize ma ^^^ mb = u at *
      generalize bs d = t at *
      clear hbuf ld
      have h1m : 1 ≤ maxLen := by decide
      go_wp2_with fail
      refine region_inv' (fun q v w' => match q with
        | 0 => v = .slice (some ⟨g, 0, none⟩) i i
        | 1 => v = .string t
        | 2 => ∃ h, v = .slice (some ⟨h, 0, none⟩) 1 1 ∧ Ls w' (some ⟨h, 0, none⟩) 1 [Value.string t]
        | 3 => v = .int .u32 m
        | 4 => v = .string a
        | 5 => v = .int .i64 i
        | 6 => v = .string (a.extract 0 i)
        | 7 => ∃ h, v = .slice (some ⟨h, 0, none⟩) 1 1 ∧ Ls w' (some ⟨h, 0, none⟩) 1 [Value.string (a.extract 0 i)]
        | 8 => v = .int .u32 ma
        | 9 => v = .string b
        | 10 => v = .int .i64 i
        | 11 => v = .string (b.extract 0 i)
        | 12 => ∃ h, v = .slice (some ⟨h, 0, none⟩) 1 1 ∧ Ls w' (some ⟨h, 0, none⟩) 1 [Value.string (b.extract 0 i)]
        | 13 => v = .int .u32 mb
        | 14 => v = .int .u32 u
        | 15 => v = .string c
        | 16 => v = .int .i64 i
        | 17 => v = .string (c.extract 0 i)
        | 18 => ∃ h, v = .slice (some ⟨h, 0, none⟩) 1 1 ∧ Ls w' (some ⟨h, 0, none⟩) 1 [Value.string (c.extract 0 i)]
        | 19 => v = .int .u32 mc
        | 20 => v = .int .u32 m
        | _ => v = .bool true) (by kernel_rfl) _ rfl (by kernel_rfl) (by kernel_rfl) (by kernel_rfl) ?_ ?_ ?_
      · intro q v w1 w2 hF hK
        rcases q with _|_|_|_|_|_|_|_|_|_|_|_|_|_|_|_|_|_|_|_|_|q
        all_goals first
          | exact hF
          | (obtain ⟨h, e, hl⟩ := hF; exact ⟨h, e, hl.kp hK (by simp)⟩)
      · intro q o ho av wv K hS hk H hK
        have h8 : av.eval (.tmp 8) = .slice (some ⟨g, 0, none⟩) i i := (hS.2.2 8 (nofill (by kernel_rfl))).trans rfl
        have h0 : av.eval (.tmp 0) = .string a := (hS.2.2 0 (nofill (by kernel_rfl))).trans rfl
        have h1 : av.eval (.tmp 1) = .string b := (hS.2.2 1 (nofill (by kernel_rfl))).trans rfl
        have h2 : av.eval (.tmp 2) = .string c := (hS.2.2 2 (nofill (by kernel_rfl))).trans rfl
        have h7 : av.eval (.tmp 7) = .int .i64 i := (hS.2.2 7 (nofill (by kernel_rfl))).trans rfl
        have htv := htr.kp hk
        have hcw := hcv wv hk
        rcases q with _|_|_|_|_|_|_|_|_|_|_|_|_|_|_|_|_|_|_|_|_|_|_|q
        all_goals try (obtain rfl := Option.some.inj ho)
        · exact wpOp_move rfl h8 (hK _ _ (Kp.rfl_ _ _) rfl)
        · have e := gd (H 0 46 (by kernel_rfl) rfl)
          refine wpOp_value rfl rfl (v := .string t) (w' := wv) (by simp [execOp, go_sem, e, hcw]) (hK _ _ (Kp.rfl_ _ _) rfl)
        · have e := gd (H 1 47 (by kernel_rfl) rfl)
          refine wpOp_value rfl rfl (v := .slice (some ⟨wv.heap.size, 0, none⟩) 1 1) (w' := wv.alloc (.cells #[.string t] 9)) (by simp [execOp, go_sem, e]) (hK _ _ ((Kp.rfl_ _ _).alloc _) ⟨_, rfl, Ls.of_at (At.new wv 9 #[.string t])⟩)
        · obtain ⟨h, e, hl⟩ := H 2 48 (by kernel_rfl) rfl
          have e := gd e
          refine wpOp_call rfl rfl (f := 9) (args := #[.slice (some ⟨h, 0, none⟩) 1 1]) (w1 := wv) (by simp [execOp, go_sem, e]) ?_
          refine (sum_to (some ⟨h, 0, none⟩) 1 1 [t] m wv HM.out htv hl zd.out h1m).mono ?_
          rintro e w8 ⟨rfl, rfl⟩
          exact ⟨_, rfl, hK _ _ (Kp.rfl_ _ _) rfl⟩
        · exact wpOp_move rfl h0 (hK _ _ (Kp.rfl_ _ _) rfl)
        · exact wpOp_move rfl h7 (hK _ _ (Kp.rfl_ _ _) rfl)
        · have e1 := gd (H 4 50 (by kernel_rfl) rfl)
          have e2 := gd (H 5 51 (by kernel_rfl) rfl)
          refine wpOp_value rfl rfl (v := .string (a.extract 0 i)) (w' := wv) (by simp [execOp, go_sem, e1, e2, ia, hi0']) (hK _ _ (Kp.rfl_ _ _) rfl)
        · have e := gd (H 6 52 (by kernel_rfl) rfl)
          refine wpOp_value rfl rfl (v := .slice (some ⟨wv.heap.size, 0, none⟩) 1 1) (w' := wv.alloc (.cells #[.string (a.extract 0 i)] 9)) (by simp [execOp, go_sem, e]) (hK _ _ ((Kp.rfl_ _ _).alloc _) ⟨_, rfl, Ls.of_at (At.new wv 9 #[.string (a.extract 0 i)])⟩)
        · obtain ⟨h, e, hl⟩ := H 7 53 (by kernel_rfl) rfl
          have e := gd e
          refine wpOp_call rfl rfl (f := 9) (args := #[.slice (some ⟨h, 0, none⟩) 1 1]) (w1 := wv) (by simp [execOp, go_sem, e]) ?_
          refine (sum_to (some ⟨h, 0, none⟩) 1 1 [a.extract 0 i] ma wv HMA.out htv hl (ZE.out a) h1m).mono ?_
          rintro e w8 ⟨rfl, rfl⟩
          exact ⟨_, rfl, hK _ _ (Kp.rfl_ _ _) rfl⟩
        · exact wpOp_move rfl h1 (hK _ _ (Kp.rfl_ _ _) rfl)
        · exact wpOp_move rfl h7 (hK _ _ (Kp.rfl_ _ _) rfl)
        · have e1 := gd (H 9 55 (by kernel_rfl) rfl)
          have e2 := gd (H 10 56 (by kernel_rfl) rfl)
          refine wpOp_value rfl rfl (v := .string (b.extract 0 i)) (w' := wv) (by simp [execOp, go_sem, e1, e2, ib, hi0']) (hK _ _ (Kp.rfl_ _ _) rfl)
        · have e := gd (H 11 57 (by kernel_rfl) rfl)
          refine wpOp_value rfl rfl (v := .slice (some ⟨wv.heap.size, 0, none⟩) 1 1) (w' := wv.alloc (.cells #[.string (b.extract 0 i)] 9)) (by simp [execOp, go_sem, e]) (hK _ _ ((Kp.rfl_ _ _).alloc _) ⟨_, rfl, Ls.of_at (At.new wv 9 #[.string (b.extract 0 i)])⟩)
        · obtain ⟨h, e, hl⟩ := H 12 58 (by kernel_rfl) rfl
          have e := gd e
          refine wpOp_call rfl rfl (f := 9) (args := #[.slice (some ⟨h, 0, none⟩) 1 1]) (w1 := wv) (by simp [execOp, go_sem, e]) ?_
          refine (sum_to (some ⟨h, 0, none⟩) 1 1 [b.extract 0 i] mb wv HMB.out htv hl (ZE.out b) h1m).mono ?_
          rintro e w8 ⟨rfl, rfl⟩
          exact ⟨_, rfl, hK _ _ (Kp.rfl_ _ _) rfl⟩
        · have e1 := gd (H 8 54 (by kernel_rfl) rfl)
          have e2 := gd (H 13 59 (by kernel_rfl) rfl)
          refine wpOp_value rfl rfl (v := .int .u32 u) (w' := wv) (by simp [execOp, go_sem, e1, e2, hx1]) (hK _ _ (Kp.rfl_ _ _) rfl)
        · exact wpOp_move rfl h2 (hK _ _ (Kp.rfl_ _ _) rfl)
        · exact wpOp_move rfl h7 (hK _ _ (Kp.rfl_ _ _) rfl)
        · have e1 := gd (H 15 61 (by kernel_rfl) rfl)
          have e2 := gd (H 16 62 (by kernel_rfl) rfl)
          refine wpOp_value rfl rfl (v := .string (c.extract 0 i)) (w' := wv) (by simp [execOp, go_sem, e1, e2, ic, hi0']) (hK _ _ (Kp.rfl_ _ _) rfl)
        · have e := gd (H 17 63 (by kernel_rfl) rfl)
          refine wpOp_value rfl rfl (v := .slice (some ⟨wv.heap.size, 0, none⟩) 1 1) (w' := wv.alloc (.cells #[.string (c.extract 0 i)] 9)) (by simp [execOp, go_sem, e]) (hK _ _ ((Kp.rfl_ _ _).alloc _) ⟨_, rfl, Ls.of_at (At.new wv 9 #[.string (c.extract 0 i)])⟩)
        · obtain ⟨h, e, hl⟩ := H 18 64 (by kernel_rfl) rfl
          have e := gd e
          refine wpOp_call rfl rfl (f := 9) (args := #[.slice (some ⟨h, 0, none⟩) 1 1]) (w1 := wv) (by simp [execOp, go_sem, e]) ?_
          refine (sum_to (some ⟨h, 0, none⟩) 1 1 [c.extract 0 i] mc wv HMC.out htv hl (ZE.out c) h1m).mono ?_
          rintro e w8 ⟨rfl, rfl⟩
          exact ⟨_, rfl, hK _ _ (Kp.rfl_ _ _) rfl⟩
        · have e1 := gd (H 14 60 (by kernel_rfl) rfl)
          have e2 := gd (H 19 65 (by kernel_rfl) rfl)
          refine wpOp_value rfl rfl (v := .int .u32 m) (w' := wv) (by simp [execOp, go_sem, e1, e2, hx2]) (hK _ _ (Kp.rfl_ _ _) rfl)
        · have e1 := gd (H 3 49 (by kernel_rfl) rfl)
          have e2 := gd (H 20 66 (by kernel_rfl) rfl)
          refine wpOp_value rfl rfl (v := .bool true) (w' := wv) (by simp [execOp, go_sem, e1, e2]) (hK _ _ (Kp.rfl_ _ _) rfl)
        · have e := gd (H 21 67 (by kernel_rfl) rfl)
          refine wpOp_value rfl rfl (v := .bool true) (w' := wv) (by simp [execOp, go_sem, e]) (hK _ _ (Kp.rfl_ _ _) rfl)
        · simp at ho
      · intro av wv hS hk H
        have h6 : av.eval (.tmp 6) = .bool true := H 22 6 rfl
        go_wp2_with fail
        exact bodyPost_ret (results_tmp rfl _ _ _) (hS.1.trans rfl) ⟨congrArg Ending.returned h6, hkp.trans hk⟩
set_option maxHeartbeats 1000000 in
theorem cthree_not (a b c : ByteArray) (n : Nat) (w : World) (ht : Tab w) (ha : n ≤ a.size) (hb : n ≤ b.size) (hc : n ≤ c.size) (hn : 4096 < n) (ha2 : a.size ≤ maxLen) (hb2 : b.size ≤ maxLen) (hc2 : c.size ≤ maxLen) (he : a.size = n ∨ b.size = n ∨ c.size = n) :
    Calls Tryd.prog 6 #[.string a, .string b, .string c] w (Yes w) := by
  unfold maxLen at ha2 hb2 hc2
  have hmin : (if ((c.size : Int) < if b.size < a.size then (b.size : Int) else (a.size : Int)) then (c.size : Int) else if b.size < a.size then (b.size : Int) else (a.size : Int)) = (n : Int) := by
    split <;> split at * <;> omega
  clear he
  go_enter Tryd.func6, Tryd.ntmps6
  go_wp2_with fail
  clear hmin
  refine (cawake _ ht).mono ?_
  rintro e w2 ⟨rfl, hk2⟩
  go_wp2_with fail
  refine (cawake _ (ht.kp hk2)).mono ?_
  rintro e w3 ⟨rfl, hk3⟩
  go_wp2_with fail
  go_ret
  exact ⟨rfl, hk2.trans hk3⟩
theorem cthree_walk (v0 v1 v2 : Value) (w : World) (hl : LaidCrc w) (i0 : In w 9 v0) (i1 : In w 9 v1) (i2 : In w 9 v2) : Calls Tryd.prog 6 #[v0, v1, v2] w (Yes w) := by
  obtain ⟨a, rfl, ha⟩ := in_string Tryd.underlying9 i0
  obtain ⟨b, rfl, hb⟩ := in_string Tryd.underlying9 i1
  obtain ⟨c, rfl, hc⟩ := in_string Tryd.underlying9 i2
  obtain ⟨n, h1, h2, h3, h4⟩ : ∃ n, n ≤ a.size ∧ n ≤ b.size ∧ n ≤ c.size ∧ (a.size = n ∨ b.size = n ∨ c.size = n) := by
    by_cases h1 : a.size ≤ b.size ∧ a.size ≤ c.size
    · exact ⟨a.size, by omega, by omega, by omega, .inl rfl⟩
    · by_cases h2 : b.size ≤ c.size
      · exact ⟨b.size, by omega, by omega, by omega, .inr (.inl rfl)⟩
      · exact ⟨c.size, by omega, by omega, by omega, .inr (.inr rfl)⟩
  by_cases h : n ≤ 4096
  · exact cthree a b c n w (tab_of hl) h1 h2 h3 h ha hb hc h4
  · exact cthree_not a b c n w (tab_of hl) h1 h2 h3 (by omega) ha hb hc h4
end Go.Proofs.YtglehfpddhkoeaaDoor
