/- Package frame: frames scanned; the document's own frame of one payload. -/
import Derived.Test.YthnfjkinliekoaaDoorFs
import Derived.Test.YthnfjkinliekoaaDoorPkG
import Derived.Deep.RegionWith
namespace Go.Proofs.YthnfjkinliekoaaDoor
set_option maxRecDepth 100000
open Go.RowKit
set_option linter.unusedVariables false

def Scanned (s : ByteArray) (w : World) (e : Ending) (w' : World) : Prop :=
  ∃ v, e = .returned (.tuple #[v, .int .i64 ((scn s.data.toList).2 : Nat)]) ∧ w'.ownsRow w.heap.size 9 1 v (scn s.data.toList).1.length ((scn s.data.toList).1.map Value.string) ∧ Kp [] w w'
/-- So far: these payloads, and so many bytes. -/
def Far (l : List UInt8) (acc : List ByteArray) (pos : Nat) : Prop := pos ≤ l.length ∧ 5 * acc.length ≤ pos ∧ scn l = (acc ++ (scn (l.drop pos)).1, pos + (scn (l.drop pos)).2)
theorem Far.start (l : List UInt8) : Far l [] 0 := ⟨Nat.zero_le _, Nat.le_refl _, by simp⟩
theorem Far.next {l : List UInt8} {acc : List ByteArray} {pos u n : Nat} (h : Far l acc pos) (ho : opn (l.drop pos) = some (u, n)) : Far l (acc ++ [bs (((l.drop pos).drop (u + 4)).take n)]) (pos + (u + 4 + n)) := by
  obtain ⟨h1, h2, h3⟩ := h
  obtain ⟨-, o2, -, o4, -⟩ := opn_some ho
  rw [List.length_drop] at o2
  refine ⟨by omega, by simp; omega, ?_⟩
  rw [h3, scn_some ho, List.drop_drop]
  simp [Nat.add_assoc]
theorem Far.end_ {l : List UInt8} {acc : List ByteArray} {pos : Nat} (h : Far l acc pos) (ho : opn (l.drop pos) = none) : scn l = (acc, pos) := by
  rw [h.2.2, scn_none ho]
  simp
theorem ret_vi {v : Value} {a b : Int} (h : a = b) : Ending.returned (.tuple #[v, .int .i64 a]) = .returned (.tuple #[v, .int .i64 b]) := by rw [h]
set_option maxHeartbeats 2000000 in
theorem scan_any (s : ByteArray) (w : World) (ht : Tab w) (hs : s.size ≤ 1000000000) :
    Calls Tryd.prog 27 #[.string s] w (Scanned s w) := by
  have hll : s.data.toList.length = s.size := by simp
  have HLL := Lib.hid hll
  clear hll
  go_enter Tryd.func27, Tryd.ntmps27
  go_wp2_with fail
  go_loopg [2, 4] (s.size + 1) (fun gk v rv wr => ∃ (acc : List ByteArray) (pos : Nat) (r : ByteArray), s.size + 1 - pos ≤ gk ∧ rv = .string r ∧ r = bs (s.data.toList.drop pos) ∧ r.size + pos ≤ s.size ∧ s.size ≤ r.size + pos ∧ Far s.data.toList acc pos ∧ wr.ownsRow w.heap.size 9 1 v acc.length (acc.map Value.string) ∧ Below w.heap.size w wr)
  case atStart => exact ⟨[], 0, s, by omega, rfl, by rw [List.drop_zero, bs_of], by omega, by omega, Far.start _, own_none _ _ _, Below.refl _ _⟩
  case round =>
    obtain ⟨acc, pos, r, hgk, rfl, hr, hr1, hr2, hfar, hown, hbel⟩ := hrel
    have hsz := hbel.size
    have htr := ht.kp (Kp.of_below hbel)
    have HR := Lib.hid hr
    have hal : acc.length ≤ 1099511627776 := by have := hfar.1; have := hfar.2.1; have := HLL.out; omega
    clear hr
    go_wp2_with fail
    refine (open_any r _ htr (by omega)).mono ?_
    rintro e w2 ⟨hk2, h⟩
    have hrl : r.data.toList = s.data.toList.drop pos := by rw [HR.out]; rfl
    have hb2 : Below w.heap.size w w2 := hbel.trans (hk2.below hsz (by simp))
    have hown2 := own_kp hown hk2 (by simp)
    have hs2 := hb2.size
    rcases h with ⟨ho, rfl⟩ | ⟨u, n, ho, rfl⟩
    · rw [hrl] at ho
      have hend := hfar.end_ ho
      have HE := Lib.hid hend
      have hb1 : (s.size : Int) - (r.size : Int) = (pos : Int) := by omega
      clear hrl ho hend hfar hown hk2
      go_wp2_with fail
      go_ret2
      exact ⟨_, ret_vi (by rw [HE.out]), by rw [HE.out]; exact hown2, Kp.of_below hb2⟩
    · rw [hrl] at ho ⊢
      have hnx := hfar.next ho
      obtain ⟨-, o2, -, o4, -⟩ := opn_some ho
      obtain ⟨p, hp⟩ : ∃ p, bs (((s.data.toList.drop pos).drop (u + 4)).take n) = p := ⟨_, rfl⟩
      obtain ⟨t, hte⟩ : ∃ t, bs ((s.data.toList.drop pos).drop (u + 4 + n)) = t := ⟨_, rfl⟩
      have hts : t.size = s.size - (pos + (u + 4 + n)) := by rw [← hte, bs_size, List.length_drop, List.length_drop, HLL.out]; omega
      have ht1 : t.size + (pos + (u + 4 + n)) ≤ s.size := by rw [List.length_drop, HLL.out] at o2; omega
      have ht2 : s.size ≤ t.size + (pos + (u + 4 + n)) := by omega
      have htl : t = bs (s.data.toList.drop (pos + (u + 4 + n))) := by rw [← hte, List.drop_drop]
      rw [hp] at hnx ⊢
      rw [hte]
      have HT := Lib.hid htl
      have HN := Lib.hid hnx
      clear hp hte htl hts ho hrl hfar hnx hown hk2 o2
      go_wp2_with (at_builtin; go_must (refine wpl_one_str w2 w.heap.size rfl _ _ rfl _ acc.length _ p hown2 rfl rfl hs2 hal ?_); intro v3 w3 hown3 hbel3 _)
      have hb3 := hb2.trans hbel3
      have ho3 : w3.ownsRow w.heap.size 9 1 v3 (acc ++ [p]).length ((acc ++ [p]).map Value.string) := by rw [List.map_append, List.length_append]; exact hown3
      have HO := Lib.hid ho3
      clear ho3 hown3 hown2
      go_roundg (s.size + 1 - (pos + (u + 4 + n)))
      case measure => omega
      case rel => exact ⟨acc ++ [p], pos + (u + 4 + n), t, by omega, rfl, HT.out, ht1, ht2, HN.out, HO.out, hb3⟩

theorem small_of {z : ByteArray} {l : List UInt8} (h : z.data.toList = l) (hl : l.length ≤ 10) : z.size ≤ 10 := by
  have := congrArg List.length h
  simp at this
  omega
set_option maxHeartbeats 4000000 in
theorem rone_to (p r : ByteArray) (w : World) (hp : p.size ≤ 100000000) (hr : bs (frm p.data.toList) = r) :
    Calls Tryd.prog 44 #[.string p] w fun e w' => e = .returned (.string r) ∧ Kp [] w w' := by
  obtain ⟨m, hm⟩ : ∃ m, Crc.more 0 p.data.toList = m := ⟨_, rfl⟩
  have hml : m < 4294967296 := by rw [← hm]; exact Crc.more_lt _ _
  obtain ⟨st, hst⟩ : ∃ st, bs (sum4 m) = st := ⟨_, rfl⟩
  have hsts : st.size = 4 := by rw [← hst, bs_size, sum4_len]
  have hnb := numB_pos p.size (by omega)
  have hr2 : ∀ z : ByteArray, z.data.toList = numB (p.size : Int) → z ++ st ++ p = r := fun z hz => by
    apply bs_eq
    rw [← hr, ← hst, bs_list]
    unfold frm
    rw [hm]
    simp [hz, bs_list]
  have HR := Lib.hid hr2
  have HM := Lib.hid hm
  have HST := Lib.hid hst
  have hst4 : st.size ≤ 4 := by omega
  clear hm hst hsts hr hr2
  go_enter Tryd.func44, Tryd.ntmps44
  go_wp2_with fail
  refine (rsum_to m p _ HM.out (by unfold maxLen; omega)).mono ?_
  rintro e w1 ⟨rfl, rfl⟩
  go_wp2_with fail
  have hcv : ∀ (w' : World) (g : Nat), w'.heap.size = g → (convert 48 9 (.slice (some ⟨g, 0, none⟩) 4 4)).run Tryd.prog (w'.alloc (.cells #[.int .u8 (IntKind.u8.wrap (m : Int)), .int .u8 (IntKind.u8.wrap ((m : Int) / 256)), .int .u8 (IntKind.u8.wrap ((m : Int) / 65536)), .int .u8 (IntKind.u8.wrap ((m : Int) / 16777216))] 5)) = .ok (.string st) (w'.alloc (.cells #[.int .u8 (IntKind.u8.wrap (m : Int)), .int .u8 (IntKind.u8.wrap ((m : Int) / 256)), .int .u8 (IntKind.u8.wrap ((m : Int) / 65536)), .int .u8 (IntKind.u8.wrap ((m : Int) / 16777216))] 5)) := fun w' g hg => by
    rw [← HST.out]
    exact conv_four w' g m hg _ _ _ _ (by rw [of_mod, IntKind.wrap_u8]) (by rw [of_mod, IntKind.wrap_u8]; rfl) (by rw [of_mod, IntKind.wrap_u8]; rfl) (by rw [of_mod, IntKind.wrap_u8]; rfl)
  have hcd : ∀ (w' : World) (g : Nat), w'.heap.size = g → (convert 48 9 (.slice (some ⟨g, 0, none⟩) 4 4)).run Tryd.prog (w'.alloc (.cells #[.int .u8 (IntKind.u8.wrap (m : Int)), .int .u8 (IntKind.u8.wrap ((m : Int) / 256)), .int .u8 (IntKind.u8.wrap ((m : Int) / 65536)), .int .u8 (IntKind.u8.wrap ((m : Int) / 16777216))] 5)).drew = .ok (.string st) (w'.alloc (.cells #[.int .u8 (IntKind.u8.wrap (m : Int)), .int .u8 (IntKind.u8.wrap ((m : Int) / 256)), .int .u8 (IntKind.u8.wrap ((m : Int) / 65536)), .int .u8 (IntKind.u8.wrap ((m : Int) / 16777216))] 5)).drew := fun w' g hg => hcv w'.drew g hg
  go_region_with (go_at_call 58; refine (rnum_any (p.size : Int) _ (by omega) (by omega)).mono ?_; rintro e w8 ⟨z, rfl, hz, hk8⟩; have hz2 := HR.out z hz; have hzs := small_of hz hnb.2; clear hz; (try have hcw := conv_kp HST.out hk8))
  all_goals
    go_wp2_with fail
    go_ret
    exact ⟨rfl, by repeat first | apply Kp.drew | apply Kp.alloc | exact Kp.rfl_ _ _ | refine Kp.trans ?_ hk8⟩

/-- What the document's own opening tells. -/
def ROpened (s : ByteArray) (w : World) (e : Ending) (w' : World) : Prop := Kp [] w w' ∧
  ((opn s.data.toList = none ∧ e = .returned (.tuple #[.string ⟨#[]⟩, .string ⟨#[]⟩, .bool false])) ∨
   ∃ u n, opn s.data.toList = some (u, n) ∧ e = .returned (.tuple #[.string (bs ((s.data.toList.drop (u + 4)).take n)), .string (bs (s.data.toList.drop (u + 4 + n))), .bool true]))
theorem ROpened.no {s : ByteArray} {w w' : World} {e : Ending} (ho : opn s.data.toList = none) (he : e = .returned (.tuple #[.string ⟨#[]⟩, .string ⟨#[]⟩, .bool false])) (hk : Kp [] w w') : ROpened s w e w' := ⟨hk, .inl ⟨ho, he⟩⟩
theorem opn_take {l : List UInt8} {n u : Nat} (hd : decN l = ((n : Int), u)) (h0 : 0 < u) (hn : n ≤ 1048576) (hl : u + 4 + n ≤ l.length) : opn l = if frm ((l.drop (u + 4)).take n) = l.take (u + 4 + n) then some (u, n) else none := by
  rw [opn_sum hd h0 hn hl]
  have h3 := (decN_some hd h0).1
  have hpl : ((l.drop (u + 4)).take n).length = n := by rw [List.length_take, List.length_drop]; omega
  have hiff : sum4 (Crc.more 0 ((l.drop (u + 4)).take n)) = (l.drop u).take 4 ↔ frm ((l.drop (u + 4)).take n) = l.take (u + 4 + n) := by
    unfold frm
    rw [hpl, ← h3, List.take_add, List.take_add]
    constructor
    · intro h; rw [h]
    · intro h
      have := List.append_cancel_right h
      exact List.append_cancel_left this
  by_cases hs : sum4 (Crc.more 0 ((l.drop (u + 4)).take n)) = (l.drop u).take 4
  · rw [if_pos hs, if_pos (hiff.1 hs)]
  · rw [if_neg hs, if_neg fun h => hs (hiff.2 h)]
set_option maxHeartbeats 4000000 in
theorem ropen_any (s : ByteArray) (w : World) (hs : s.size ≤ 100000000) :
    Calls Tryd.prog 26 #[.string s] w (ROpened s w) := by
  obtain ⟨n, u, hd⟩ : ∃ n u, decN s.data.toList = (n, u) := ⟨_, _, rfl⟩
  have hll : s.data.toList.length = s.size := by simp
  have hul := decN_le hd
  have hbd : -9223372036854775808 ≤ n ∧ n ≤ 9223372036854775807 := by
    by_cases hu : 0 < u
    · exact (decN_some hd hu).2.2
    · obtain rfl : u = 0 := by omega
      have := decN_zero hd
      omega
  have hd0 : decN (s.data.toList.drop 0) = (n, u) := by rw [List.drop_zero]; exact hd
  have hus : u ≤ s.size := by omega
  have HD := Lib.hid hd
  have HD0 := Lib.hid hd0
  have HLL := Lib.hid hll
  clear hd hd0 hll hul
  by_cases hu0 : u = 0
  · have hno := Lib.hid (opn_none HD.out (.inl hu0))
    subst hu0
    go_enter Tryd.func26, Tryd.ntmps26
    go_wp2_with fail
    have hr0 : Rrd (w.alloc (.cells #[.string s, .int .i64 0, .bool false] 79)) w.heap.size s 0 false := At.new _ _ _
    refine (rrnum_to w.heap.size s 0 n 0 _ hr0 HD0.out (Nat.zero_le _) (by omega)).mono ?_
    rintro e w1 ⟨rfl, hr1, hk1⟩
    have hr2 : Rrd w1 w.heap.size s 0 true := hr1
    obtain ⟨c0, c1, c2, f1, f2, hlt⟩ := hr2.cells
    have hkp : Kp [] w w1 := ((Kp.rfl_ [] w).alloc _).then hk1 (by simp)
    clear hr0 hr1 hr2 hk1
    go_wp2_with fail
    go_ret3
    exact .no hno.out rfl hkp
  · have hu1 : 0 < u := by omega
    have hub : (u == 0) = false := by rw [beq_eq_false_iff_ne]; exact hu0
    have num : ∀ wr, Rrd wr w.heap.size s 0 false → Calls Tryd.prog 49 #[.pointer (some ⟨w.heap.size, 0, none⟩)] wr fun e w' => e = .returned (.int .i64 n) ∧ Rrd w' w.heap.size s u false ∧ Kp [w.heap.size] wr w' := fun wr hr => by
      have := rrnum_to w.heap.size s 0 n u wr hr HD0.out (Nat.zero_le _) (by omega)
      rw [Nat.zero_add, hub] at this
      exact this
    have NUM := Lib.hid num
    clear num hub hu0
    by_cases hneg : n < 0 ∨ 1048576 < n ∨ (s.size : Int) - u - 4 < n
    · have hno := Lib.hid (opn_none HD.out (by have := HLL.out; omega))
      have hcase : n < 0 ∨ (¬ n < 0 ∧ 1048576 < n) ∨ (¬ n < 0 ∧ ¬ 1048576 < n ∧ (s.size : Int) - u - 4 < n) := by omega
      clear hneg
      rcases hcase with h1 | ⟨h1, h2⟩ | ⟨h1, h2, h3⟩
      all_goals
        go_enter Tryd.func26, Tryd.ntmps26
        go_wp2_with fail
        have hr0 : Rrd (w.alloc (.cells #[.string s, .int .i64 0, .bool false] 79)) w.heap.size s 0 false := At.new _ _ _
        refine (NUM.out _ hr0).mono ?_
        rintro e w1 ⟨rfl, hr2, hk1⟩
        obtain ⟨c0, c1, c2, f1, f2, hlt⟩ := hr2.cells
        have hkp : Kp [] w w1 := ((Kp.rfl_ [] w).alloc _).then hk1 (by simp)
        clear hr0 hr2 hk1
        go_wp2_with fail
        go_ret3
        exact .no hno.out rfl hkp
    · obtain ⟨m, rfl⟩ : ∃ m : Nat, n = (m : Int) := ⟨n.toNat, by omega⟩
      have hm1 : ¬ (m : Int) < 0 := by omega
      have hm2 : ¬ (1048576 : Int) < (m : Int) := by omega
      have hm3 : ¬ (s.size : Int) - u - 4 < (m : Int) := by omega
      have hop := opn_take HD.out hu1 (by omega) (by have := HLL.out; omega)
      obtain ⟨p, hp⟩ : ∃ p, s.extract (u + 4) (u + 4 + m) = p := ⟨_, rfl⟩
      obtain ⟨fr, hfr⟩ : ∃ fr, s.extract 0 (u + 4 + m) = fr := ⟨_, rfl⟩
      obtain ⟨t, hte⟩ : ∃ t, s.extract (u + 4 + m) s.size = t := ⟨_, rfl⟩
      have hpl : p = bs ((s.data.toList.drop (u + 4)).take m) := by
        rw [← hp]
        conv => lhs; rw [← bs_of s]
        rw [bs_extract, List.drop_take, Nat.add_sub_cancel_left]
      have hfl : fr = bs (s.data.toList.take (u + 4 + m)) := by rw [← hfr, ex_front]
      have htl : t = bs (s.data.toList.drop (u + 4 + m)) := by rw [← hte, ex_all s (u + 4 + m) s.size rfl]
      have hps : p.size ≤ 100000000 := by rw [hpl, bs_size, List.length_take]; omega
      have hpd : p.data.toList = (s.data.toList.drop (u + 4)).take m := by rw [hpl]; rfl
      rw [← hpd] at hop
      obtain ⟨one, hone⟩ : ∃ one, bs (frm p.data.toList) = one := ⟨_, rfl⟩
      have HOP := Lib.hid hop
      have HPL := Lib.hid hpl
      have HTL := Lib.hid htl
      have HFL := Lib.hid hfl
      have HONE := Lib.hid hone
      have hw1 : IntKind.i64.wrap ((u : Int) + 4) = (u : Int) + 4 := IntWalk.i64_in _ (by omega)
      have hw2 : IntKind.i64.wrap ((u : Int) + 4 + (m : Int)) = (u : Int) + 4 + (m : Int) := IntWalk.i64_in _ (by omega)
      have hn1 : ((u : Int) + 4).toNat = u + 4 := by omega
      have hn2 : ((u : Int) + 4 + (m : Int)).toNat = u + 4 + m := by omega
      have hi1 : (0 : Int) ≤ (u : Int) + 4 := by omega
      have hi2 : (u : Int) + 4 ≤ (u : Int) + 4 + (m : Int) := by omega
      have hi3 : (u : Int) + 4 + (m : Int) ≤ (s.size : Int) := by omega
      have hi4 : (0 : Int) ≤ (u : Int) + 4 + (m : Int) := by omega
      have HW1 := Lib.hid hw1
      have HW2 := Lib.hid hw2
      clear hop hpl htl hfl hpd hone hneg hw1 hw2
      by_cases he : one = fr
      · have hyes : opn s.data.toList = some (u, m) := by
          rw [HOP.out]
          refine if_pos ?_
          have := HONE.out.trans (he.trans HFL.out)
          exact bs_inj this
        have HY := Lib.hid hyes
        clear hyes
        subst he
        go_enter Tryd.func26, Tryd.ntmps26
        go_wp2_with fail
        have hr0 : Rrd (w.alloc (.cells #[.string s, .int .i64 0, .bool false] 79)) w.heap.size s 0 false := At.new _ _ _
        refine (NUM.out _ hr0).mono ?_
        rintro e w1 ⟨rfl, hr2, hk1⟩
        obtain ⟨c0, c1, c2, f1, f2, hlt⟩ := hr2.cells
        have hkp : Kp [] w w1 := ((Kp.rfl_ [] w).alloc _).then hk1 (by simp)
        clear hr0 hk1
        go_wp2_with fail
        have hw1 := HW1.out
        have hw2 := HW2.out
        go_quiet (fail)
        have hkq := hkp.drewN nq
        have hr3 : Rrd (w1.drewN nq) w.heap.size s u false := hr2
        clear c0 c1 c2 f1 f2 hlt hr2 hkp hw1 hw2
        generalize w1.drewN nq = wq at *
        obtain ⟨c0, c1, c2, f1, f2, hlt⟩ := hr3.cells
        go_wp2_with fail
        go_region_with (go_at_call 44; refine (rone_to p one _ hps HONE.out).mono ?_; rintro e w8 ⟨rfl, hk8⟩)
        all_goals
          have hk9 := hkq.drew.trans hk8
          go_wp2_with fail
          go_quiet (fail)
          go_wp2_with fail
          go_ret3
          exact ⟨hk9.drewN _, .inr ⟨u, m, HY.out, ret_ss HPL.out HTL.out⟩⟩
      · have hno : opn s.data.toList = none := by
          rw [HOP.out]
          refine if_neg fun h => he ?_
          rw [← HONE.out, HFL.out, h]
        have HNO := Lib.hid hno
        have hne := toList_ne he
        clear hno he
        go_enter Tryd.func26, Tryd.ntmps26
        go_wp2_with fail
        have hr0 : Rrd (w.alloc (.cells #[.string s, .int .i64 0, .bool false] 79)) w.heap.size s 0 false := At.new _ _ _
        refine (NUM.out _ hr0).mono ?_
        rintro e w1 ⟨rfl, hr2, hk1⟩
        obtain ⟨c0, c1, c2, f1, f2, hlt⟩ := hr2.cells
        have hkp : Kp [] w w1 := ((Kp.rfl_ [] w).alloc _).then hk1 (by simp)
        clear hr0 hk1
        go_wp2_with fail
        have hw1 := HW1.out
        have hw2 := HW2.out
        go_quiet (fail)
        have hkq := hkp.drewN nq
        have hr3 : Rrd (w1.drewN nq) w.heap.size s u false := hr2
        clear c0 c1 c2 f1 f2 hlt hr2 hkp hw1 hw2
        generalize w1.drewN nq = wq at *
        obtain ⟨c0, c1, c2, f1, f2, hlt⟩ := hr3.cells
        go_wp2_with fail
        go_region_with (go_at_call 44; refine (rone_to p one _ hps HONE.out).mono ?_; rintro e w8 ⟨rfl, hk8⟩)
        all_goals
          have hk9 := hkq.drew.trans hk8
          go_wp2_with fail
          go_ret3
          exact .no HNO.out rfl hk9
end Go.Proofs.YthnfjkinliekoaaDoor
