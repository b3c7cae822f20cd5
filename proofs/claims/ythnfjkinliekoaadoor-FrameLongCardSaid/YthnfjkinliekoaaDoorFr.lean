/- Package frame: a sum as bytes, a frame opened. -/
import Derived.Test.YthnfjkinliekoaaDoorFrM
import Derived.Test.YthnfjkinliekoaaDoorCr
import Derived.Test.YthnfjkinliekoaaDoorPkU
import Derived.Test.YthnfjkinliekoaaDoorPkT
import Derived.Test.YthnfjkinliekoaaDoorSame
namespace Go.Proofs.YthnfjkinliekoaaDoor
set_option maxRecDepth 100000
open Go.RowKit
set_option linter.unusedVariables false

theorem of_mod (m : Nat) : ((UInt8.ofNat m).toNat : Int) = (m : Int) % 256 := by simp
theorem conv_at4 {w : World} {g m : Nat} {x0 x1 x2 x3 : Int} (ha : At w g 5 #[.int .u8 x0, .int .u8 x1, .int .u8 x2, .int .u8 x3]) (h0 : x0 = ((UInt8.ofNat m).toNat : Int)) (h1 : x1 = ((UInt8.ofNat (m / 256)).toNat : Int)) (h2 : x2 = ((UInt8.ofNat (m / 65536)).toNat : Int)) (h3 : x3 = ((UInt8.ofNat (m / 16777216)).toNat : Int)) :
    (convert 48 9 (.slice (some ⟨g, 0, none⟩) 4 4)).run Tryd.prog w = .ok (.string (bs (sum4 m))) w := by
  subst h0 h1 h2 h3
  refine run_convert_bytes_back (P := Tryd.prog) _ 48 9 5 ⟨g, 0, none⟩ 4 (sum4 m) Tryd.underlying48 Tryd.underlying5 Tryd.underlying9 fun j hj => ?_
  rw [sum4_len] at hj
  rw [addr0, ha.cell j]
  have : j = 0 ∨ j = 1 ∨ j = 2 ∨ j = 3 := by omega
  rcases this with rfl | rfl | rfl | rfl <;> rfl
theorem conv_four (w : World) (g m : Nat) (hg : w.heap.size = g) (x0 x1 x2 x3 : Int) (h0 : x0 = ((UInt8.ofNat m).toNat : Int)) (h1 : x1 = ((UInt8.ofNat (m / 256)).toNat : Int)) (h2 : x2 = ((UInt8.ofNat (m / 65536)).toNat : Int)) (h3 : x3 = ((UInt8.ofNat (m / 16777216)).toNat : Int)) :
    (convert 48 9 (.slice (some ⟨g, 0, none⟩) 4 4)).run Tryd.prog (w.alloc (.cells #[.int .u8 x0, .int .u8 x1, .int .u8 x2, .int .u8 x3] 5)) = .ok (.string (bs (sum4 m))) (w.alloc (.cells #[.int .u8 x0, .int .u8 x1, .int .u8 x2, .int .u8 x3] 5)) := conv_at4 (At.new_ hg) h0 h1 h2 h3
theorem conv_kp {w w8 : World} {m : Nat} {st : ByteArray} (hs : bs (sum4 m) = st) (hk : Kp [] (w.alloc (.cells #[.int .u8 (IntKind.u8.wrap (m : Int)), .int .u8 (IntKind.u8.wrap ((m : Int) / 256)), .int .u8 (IntKind.u8.wrap ((m : Int) / 65536)), .int .u8 (IntKind.u8.wrap ((m : Int) / 16777216))] 5)).drew w8) :
    (convert 48 9 (.slice (some ⟨w.heap.size, 0, none⟩) 4 4)).run Tryd.prog w8 = .ok (.string st) w8 := by
  rw [← hs]
  exact conv_at4 (((At.new w 5 _).drew).kp hk (by simp)) (by rw [of_mod, IntKind.wrap_u8]) (by rw [of_mod, IntKind.wrap_u8]; rfl) (by rw [of_mod, IntKind.wrap_u8]; rfl) (by rw [of_mod, IntKind.wrap_u8]; rfl)
set_option maxHeartbeats 1000000 in
theorem sumtext_to (p t : ByteArray) (w : World) (ht : Tab w) (hp : p.size ≤ maxLen) (hs : bs (sum4 (Crc.more 0 p.data.toList)) = t) :
    Calls Tryd.prog 42 #[.string p] w fun e w' => e = .returned (.string t) ∧ Kp [] w w' := by
  obtain ⟨m, hm⟩ : ∃ m, Crc.more 0 (flat [p]) = m := ⟨_, rfl⟩
  have hml : m < 4294967296 := by rw [← hm]; exact Crc.more_lt _ _
  have hm' : Crc.more 0 p.data.toList = m := by rw [← hm]; simp [flat]
  rw [hm'] at hs
  have HM := Lib.hid hm
  have HS := Lib.hid hs
  have hz : Hid (∀ z ∈ [p], z.size ≤ maxLen) := fun z h => by
    obtain rfl : z = p := by simpa using h
    exact hp
  clear hm hm' hs
  go_enter Tryd.func42, Tryd.ntmps42
  go_wp2_with fail
  refine (sum_to (some ⟨w.heap.size, 0, none⟩) 1 1 [p] m _ HM.out (ht.kp ((Kp.rfl_ _ _).alloc _)) (Ls.of_at (At.new w 9 #[.string p])) hz.out (by decide)).mono ?_
  rintro e w5 ⟨rfl, rfl⟩
  have hcv := conv_four (w.alloc (.cells #[.string p] 9)) (w.heap.size + 1) m (by simp) ((m : Int) % 256) ((m : Int) / 256 % 256) ((m : Int) / 65536 % 256) ((m : Int) / 16777216) (by rw [of_mod]) (by rw [of_mod]; rfl) (by rw [of_mod]; rfl) (by rw [of_mod]; omega)
  rw [HS.out] at hcv
  go_wp2_with fail
  go_ret
  exact ⟨rfl, ((Kp.rfl_ _ _).alloc _).alloc _⟩

theorem ret_ss {a b a' b' : ByteArray} {x : Value} (h1 : a = a') (h2 : b = b') : Ending.returned (.tuple #[.string a, .string b, x]) = .returned (.tuple #[.string a', .string b', x]) := by rw [h1, h2]
/-- What opening a frame tells. -/
def Opened (s : ByteArray) (w : World) (e : Ending) (w' : World) : Prop := Kp [] w w' ∧
  ((opn s.data.toList = none ∧ e = .returned (.tuple #[.string ⟨#[]⟩, .string ⟨#[]⟩, .int .i64 3])) ∨
   ∃ u n, opn s.data.toList = some (u, n) ∧ e = .returned (.tuple #[.string (bs ((s.data.toList.drop (u + 4)).take n)), .string (bs (s.data.toList.drop (u + 4 + n))), .int .i64 0]))
theorem Opened.no {s : ByteArray} {w w' : World} {e : Ending} (ho : opn s.data.toList = none) (he : e = .returned (.tuple #[.string ⟨#[]⟩, .string ⟨#[]⟩, .int .i64 3])) (hk : Kp [] w w') : Opened s w e w' := ⟨hk, .inl ⟨ho, he⟩⟩
theorem ex_all (s : ByteArray) (i j : Nat) (h : j = s.size) : s.extract i j = bs (s.data.toList.drop i) := by
  subst h
  have hs : bs s.data.toList = s := bs_of s
  have key : ∀ (l : List UInt8) (n : Nat), n = l.length → (bs l).extract i n = bs (l.drop i) := fun l n h => by rw [bs_extract, h, List.take_length]
  have := key s.data.toList s.size (by simp)
  rwa [hs] at this
theorem ex_front (s : ByteArray) (j : Nat) : s.extract 0 j = bs (s.data.toList.take j) := by
  conv => lhs; rw [← bs_of s]
  rw [bs_extract, List.drop_zero]
set_option maxHeartbeats 4000000 in
theorem open_any (s : ByteArray) (w : World) (ht : Tab w) (hs : s.size ≤ 1000000000) :
    Calls Tryd.prog 25 #[.string s] w (Opened s w) := by
  obtain ⟨n, u, hd⟩ : ∃ n u, decN s.data.toList = (n, u) := ⟨_, _, rfl⟩
  have hll : s.data.toList.length = s.size := by simp
  have hul := decN_le hd
  obtain ⟨r, hr⟩ : ∃ r, s.extract u s.size = r := ⟨_, rfl⟩
  have hrs : r.size = s.size - u := by rw [← hr, ByteArray.size_extract]; omega
  have hrl : r.data.toList = s.data.toList.drop u := by rw [← hr, ex_all s u s.size rfl]; rfl
  have HD := Lib.hid hd
  have HR := Lib.hid hr
  have HRL := Lib.hid hrl
  have HLL := Lib.hid hll
  have hrs1 : r.size + u ≤ s.size := by omega
  have hrs2 : s.size ≤ r.size + u := by omega
  clear hd hr hrl hll hrs
  by_cases hbad : u = 0 ∨ n < 0 ∨ (r.size : Int) < n
  · have hno := opn_none HD.out (by have := HLL.out; omega)
    have HNO := Lib.hid hno
    clear hno
    have key : ∀ wr, Rdr wr w.heap.size s false → Calls Tryd.prog 46 #[.pointer (some ⟨w.heap.size, 0, none⟩)] wr (PCount w.heap.size wr) := fun wr hrd => by
      by_cases hu : u = 0
      · have hd := HD.out
        rw [hu] at hd
        have := decN_zero hd
        subst this
        exact count_no0 w.heap.size s wr hrd hd hs
      · exact count_no w.heap.size s r n u wr hrd HD.out (by omega) (by have := HLL.out; omega) HR.out (by omega) hs
    have HK := Lib.hid key
    clear key
    go_enter Tryd.func25, Tryd.ntmps25
    go_wp2_with fail
    refine (read_any _ _).mono ?_
    rintro e w1 ⟨rfl, hr1, hk1⟩
    go_wp2_with fail
    refine (HK.out _ hr1).mono ?_
    rintro e w2 ⟨rfl, ⟨r2, hr2⟩, hk2⟩
    go_wp2_with fail
    refine (good_any w.heap.size _ _ _ hr2).mono ?_
    rintro e w3 ⟨rfl, rfl⟩
    go_wp2_with fail
    go_ret3
    exact .no HNO.out rfl (hk1.then hk2 (by simp))
  · obtain ⟨m, rfl⟩ : ∃ m : Nat, n = (m : Int) := ⟨n.toNat, by omega⟩
    have hu0 : 0 < u := by omega
    have hmr : m ≤ r.size := by omega
    have hus : u ≤ s.size := by have := HLL.out; omega
    clear hbad hul
    by_cases hbig : 1048576 < m
    · have hno := Lib.hid (opn_none HD.out (by omega))
      have hbi : (1048576 : Int) < (m : Int) := by omega
      go_enter Tryd.func25, Tryd.ntmps25
      go_wp2_with fail
      refine (read_any _ _).mono ?_
      rintro e w1 ⟨rfl, hr1, hk1⟩
      go_wp2_with fail
      refine (count_yes w.heap.size s r m u _ hr1 HD.out hu0 hus HR.out hmr hs).mono ?_
      rintro e w2 ⟨rfl, hr2, hk2⟩
      go_wp2_with fail
      refine (good_any w.heap.size _ _ _ hr2).mono ?_
      rintro e w3 ⟨rfl, rfl⟩
      go_wp2_with fail
      go_ret3
      exact .no hno.out rfl (hk1.then hk2 (by simp))
    · have hbi : ¬ (1048576 : Int) < (m : Int) := by omega
      by_cases hsh : r.size < 4 + m
      · have hno := Lib.hid (opn_none HD.out (by have := HLL.out; omega))
        have hsi : (r.size : Int) < 4 + (m : Int) := by omega
        go_enter Tryd.func25, Tryd.ntmps25
        go_wp2_with fail
        refine (read_any _ _).mono ?_
        rintro e w1 ⟨rfl, hr1, hk1⟩
        go_wp2_with fail
        refine (count_yes w.heap.size s r m u _ hr1 HD.out hu0 hus HR.out hmr hs).mono ?_
        rintro e w2 ⟨rfl, hr2, hk2⟩
        go_wp2_with fail
        refine (good_any w.heap.size _ _ _ hr2).mono ?_
        rintro e w3 ⟨rfl, rfl⟩
        go_wp2_with fail
        refine (left_any w.heap.size _ _ _ hr2).mono ?_
        rintro e w3 ⟨rfl, rfl⟩
        go_wp2_with fail
        go_ret3
        exact .no hno.out rfl (hk1.then hk2 (by simp))
      · have hsi : ¬ (r.size : Int) < 4 + (m : Int) := by omega
        have hex : s.extract (s.size - r.size) s.size = r := by rw [show s.size - r.size = u by omega]; exact HR.out
        obtain ⟨q, hq⟩ : ∃ q, r.extract 0 4 = q := ⟨_, rfl⟩
        obtain ⟨b, hb⟩ : ∃ b, r.extract 4 r.size = b := ⟨_, rfl⟩
        have hbs : b.size = r.size - 4 := by rw [← hb, ByteArray.size_extract]; omega
        have hbl : b.data.toList = s.data.toList.drop (u + 4) := by rw [← hb, ex_all r 4 r.size rfl, bs_list, HRL.out, List.drop_drop]
        have hql : q = bs ((s.data.toList.drop u).take 4) := by rw [← hq, ex_front, HRL.out]
        obtain ⟨p, hp⟩ : ∃ p, b.extract 0 m = p := ⟨_, rfl⟩
        obtain ⟨t, hte⟩ : ∃ t, b.extract m b.size = t := ⟨_, rfl⟩
        have hpl : p = bs ((s.data.toList.drop (u + 4)).take m) := by rw [← hp, ex_front, hbl]
        have htl : t = bs (s.data.toList.drop (u + 4 + m)) := by rw [← hte, ex_all b m b.size rfl, hbl, List.drop_drop]
        have hps : p.size ≤ maxLen := by rw [hpl, bs_size, List.length_take]; unfold maxLen; omega
        obtain ⟨st, hst⟩ : ∃ st, bs (sum4 (Crc.more 0 p.data.toList)) = st := ⟨_, rfl⟩
        have hop := opn_sum HD.out hu0 (by omega) (by have := HLL.out; omega)
        have hpd : p.data.toList = (s.data.toList.drop (u + 4)).take m := by rw [hpl]; rfl
        have h4 : (4 : Int) ≤ (r.size : Int) := by omega
        have hm4 : (m : Int) ≤ (b.size : Int) := by omega
        have hr4 : r.size ≤ s.size := by omega
        have hri : (r.size : Int) ≤ (s.size : Int) := by omega
        rw [← hpd] at hop
        have HOP := Lib.hid hop
        have HST := Lib.hid hst
        have HPL := Lib.hid hpl
        have HTL := Lib.hid htl
        have HQL := Lib.hid hql
        have hb4 : b.size ≤ 1000000000 := by omega
        clear hop hst hpl htl hql hpd hbl hbs
        by_cases he : st = q
        · have hyes : opn s.data.toList = some (u, m) := by
            rw [HOP.out]
            refine if_pos ?_
            have := HST.out.trans (he.trans HQL.out)
            exact bs_inj this
          have HY := Lib.hid hyes
          clear hyes
          subst he
          go_enter Tryd.func25, Tryd.ntmps25
          go_wp2_with fail
          refine (read_any _ _).mono ?_
          rintro e w1 ⟨rfl, hr1, hk1⟩
          go_wp2_with fail
          refine (count_yes w.heap.size s r m u _ hr1 HD.out hu0 hus HR.out hmr hs).mono ?_
          rintro e w2 ⟨rfl, hr2, hk2⟩
          have hkp2 : Kp [] w w2 := hk1.then hk2 (by simp)
          go_wp2_with fail
          refine (good_any w.heap.size _ _ _ hr2).mono ?_
          rintro e w3 ⟨rfl, rfl⟩
          go_wp2_with fail
          refine (left_any w.heap.size _ _ _ hr2).mono ?_
          rintro e w3 ⟨rfl, rfl⟩
          go_wp2_with fail
          refine (left_any w.heap.size _ _ _ hr2).mono ?_
          rintro e w3 ⟨rfl, rfl⟩
          clear hr2 hk1 hk2 hr1
          go_wp2_with fail
          go_quiet (fail)
          have hkq := hkp2.drewN nq
          generalize w2.drewN nq = wq at *
          go_wp2_with fail
          refine (sumtext_to p st _ (ht.kp hkq) hps HST.out).mono ?_
          rintro e w4 ⟨rfl, hk4⟩
          go_wp2_with fail
          go_quiet (fail)
          have hkz := (hkq.trans hk4).drewN nq
          go_wp2_with fail
          go_ret3
          exact ⟨hkz, .inr ⟨u, m, HY.out, ret_ss HPL.out HTL.out⟩⟩
        · have hno : opn s.data.toList = none := by
            rw [HOP.out]
            refine if_neg fun h => he ?_
            rw [← HST.out, HQL.out, h]
          have HNO := Lib.hid hno
          have hne := toList_ne he
          clear hno he
          go_enter Tryd.func25, Tryd.ntmps25
          go_wp2_with fail
          refine (read_any _ _).mono ?_
          rintro e w1 ⟨rfl, hr1, hk1⟩
          go_wp2_with fail
          refine (count_yes w.heap.size s r m u _ hr1 HD.out hu0 hus HR.out hmr hs).mono ?_
          rintro e w2 ⟨rfl, hr2, hk2⟩
          have hkp2 : Kp [] w w2 := hk1.then hk2 (by simp)
          go_wp2_with fail
          refine (good_any w.heap.size _ _ _ hr2).mono ?_
          rintro e w3 ⟨rfl, rfl⟩
          go_wp2_with fail
          refine (left_any w.heap.size _ _ _ hr2).mono ?_
          rintro e w3 ⟨rfl, rfl⟩
          go_wp2_with fail
          refine (left_any w.heap.size _ _ _ hr2).mono ?_
          rintro e w3 ⟨rfl, rfl⟩
          clear hr2 hk1 hk2 hr1
          go_wp2_with fail
          go_quiet (fail)
          have hkq := hkp2.drewN nq
          generalize w2.drewN nq = wq at *
          go_wp2_with fail
          refine (sumtext_to p st _ (ht.kp hkq) hps HST.out).mono ?_
          rintro e w4 ⟨rfl, hk4⟩
          go_wp2_with fail
          go_ret3
          exact .no HNO.out rfl (hkq.trans hk4)
end Go.Proofs.YthnfjkinliekoaaDoor
