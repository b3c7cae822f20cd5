/- The laws of frame: awake; FrameSeals, FrameOpens, FrameLong. -/
import Derived.Test.YthnfjkinliekoaaDoorFu
import Derived.OwnWalk
namespace Go.Proofs.YthnfjkinliekoaaDoor
set_option maxRecDepth 100000
open Go.RowKit
set_option linter.unusedVariables false

theorem seal_to (A : Option Addr) (n c : Nat) (ss : List ByteArray) (r : ByteArray) (w : World) (hr : bs (frms ss) = r) (ht : Tab w) (hL : Ls w A n (ss.map Value.string)) (hs : ∀ z ∈ ss, z.size ≤ 1048576) (hn : n ≤ 100000) (htot : (frms ss).length ≤ 900000000) :
    Calls Tryd.prog 23 #[.slice A n c] w fun e w' => e = .returned (.tuple #[.string r, .int .i64 0]) ∧ Kp [] w w' :=
  (seal_any A n c ss w ht hL (fun z h => by have := hs z h; unfold maxLen; omega) hn fun _ => htot).mono fun e w' ⟨hk, h⟩ => ⟨by
    rcases h with ⟨⟨z, hz, hb⟩, _⟩ | ⟨_, he⟩
    · have := hs z hz; omega
    · rw [he, hr], hk⟩
theorem rseal_to (A : Option Addr) (n c : Nat) (ss : List ByteArray) (r : ByteArray) (w : World) (hr : bs (frms ss) = r) (hL : Ls w A n (ss.map Value.string)) (hs : ∀ z ∈ ss, z.size ≤ 1048576) (hn : n ≤ 100000) (htot : (frms ss).length ≤ 900000000) :
    Calls Tryd.prog 24 #[.slice A n c] w fun e w' => e = .returned (.tuple #[.string r, .int .i64 0]) ∧ Kp [] w w' :=
  (rseal_any A n c ss w hL (fun z h => by have := hs z h; unfold maxLen; omega) hn fun _ => htot).mono fun e w' ⟨hk, h⟩ => ⟨by
    rcases h with ⟨⟨z, hz, hb⟩, _⟩ | ⟨_, he⟩
    · have := hs z hz; omega
    · rw [he, hr], hk⟩
theorem seal_long (A : Option Addr) (n c : Nat) (ss : List ByteArray) (w : World) (ht : Tab w) (hL : Ls w A n (ss.map Value.string)) (hs : ∀ z ∈ ss, z.size ≤ maxLen) (hb : ∃ z ∈ ss, 1048576 < z.size) (hn : n ≤ 100000) :
    Calls Tryd.prog 23 #[.slice A n c] w fun e w' => e = .returned (.tuple #[.string ⟨#[]⟩, .int .i64 4]) ∧ Kp [] w w' := by
  obtain ⟨z, hz, hb⟩ := hb
  refine (seal_any A n c ss w ht hL hs hn fun h => by have := h z hz; omega).mono fun e w' ⟨hk, h⟩ => ⟨?_, hk⟩
  rcases h with ⟨_, he⟩ | ⟨ha, _⟩
  · exact he
  · have := ha z hz; omega
theorem open_frm (s : ByteArray) (p rest r : ByteArray) (w : World) (ht : Tab w) (hs : s.data.toList = frm p.data.toList ++ rest.data.toList) (hp : p.size ≤ 1048576) (hz : s.size ≤ 1000000000) :
    Calls Tryd.prog 25 #[.string s] w fun e w' => e = .returned (.tuple #[.string p, .string rest, .int .i64 0]) ∧ Kp [] w w' := by
  refine (open_any s w ht hz).mono fun e w' ⟨hk, h⟩ => ⟨?_, hk⟩
  have hl : p.data.toList.length = p.size := by simp
  have ho := opn_frm (p := p.data.toList) rest.data.toList (by omega)
  have h1 := scn_frm (s := p) rest.data.toList hp
  rw [scn_some ho] at h1
  rw [hs] at h
  rcases h with ⟨hn, _⟩ | ⟨u, n, hy, he⟩
  · rw [ho] at hn; cases hn
  · rw [ho] at hy
    injection hy with hy
    injection hy with h2 h3
    subst h2 h3
    rw [he]
    injection h1 with h4 h5
    injection h4 with h4 _
    have hfl : (frm p.data.toList).length = (numB (p.data.toList.length : Int)).length + 4 + p.data.toList.length := by unfold frm; simp only [List.length_append, sum4_len]
    rw [h4, ← hfl, List.drop_left' rfl, bs_of]
theorem open_none (s : ByteArray) (w : World) (ht : Tab w) (ho : opn s.data.toList = none) (hz : s.size ≤ 1000000000) :
    Calls Tryd.prog 25 #[.string s] w fun e w' => e = .returned (.tuple #[.string ⟨#[]⟩, .string ⟨#[]⟩, .int .i64 3]) ∧ Kp [] w w' := by
  refine (open_any s w ht hz).mono fun e w' ⟨hk, h⟩ => ⟨?_, hk⟩
  rcases h with ⟨_, he⟩ | ⟨u, n, hy, _⟩
  · exact he
  · rw [ho] at hy; cases hy

theorem s12 : bs (frms [⟨#[97, 98]⟩, ⟨#[]⟩]) = ⟨#[4, 109, 72, 131, 158, 97, 98, 0, 0, 0, 0, 0]⟩ := by decide +kernel
theorem s12f : (ByteArray.mk #[4, 109, 72, 131, 158, 97, 98, 0, 0, 0, 0, 0]).data.toList = frm (ByteArray.mk #[97, 98]).data.toList ++ (ByteArray.mk #[0, 0, 0, 0, 0]).data.toList := by decide +kernel
theorem s12c : (ByteArray.mk #[4, 109, 72, 131, 158, 97, 98, 0, 0, 0, 0, 0]).extract 0 6 = ⟨#[4, 109, 72, 131, 158, 97]⟩ := by decide +kernel
theorem s12n : opn (ByteArray.mk #[4, 109, 72, 131, 158, 97]).data.toList = none := by decide +kernel
theorem scn_bd : ∀ (f : Nat) (l : List UInt8), 5 * (scnF f l).1.length ≤ (scnF f l).2 ∧ (scnF f l).2 ≤ l.length := by
  intro f
  induction f with
  | zero => intro l; simp [scnF]
  | succ f ih =>
    intro l
    rw [scnF]
    cases ho : opn l with
    | none => simp
    | some x =>
      obtain ⟨u, n⟩ := x
      obtain ⟨-, h2, -, h4, -⟩ := opn_some ho
      have := ih (l.drop (u + 4 + n))
      rw [List.length_drop] at this
      simp only [List.length_cons]
      omega
theorem scn_len (s : ByteArray) (h : s.size ≤ 1000000000) : (scn s.data.toList).1.length ≤ 1099511627776 := by
  have := scn_bd (s.data.toList.length + 1) s.data.toList
  have hl : s.data.toList.length = s.size := by simp
  unfold scn
  omega
set_option maxHeartbeats 2000000 in
theorem fawake (w : World) (ht : Tab w) : Calls Tryd.prog 21 #[] w (Yes w) := by
  go_enter Tryd.func21, Tryd.ntmps21
  go_wp2_with fail
  refine (seal_to (some ⟨w.heap.size, 0, none⟩) 2 2 [⟨#[97, 98]⟩, ⟨#[]⟩] ⟨#[4, 109, 72, 131, 158, 97, 98, 0, 0, 0, 0, 0]⟩ _ s12 (ht.kp ((Kp.rfl_ _ _).alloc _)) (Ls.of_at (At.new w 9 #[.string ⟨#[97, 98]⟩, .string ⟨#[]⟩])) (by decide) (by omega) (by decide +kernel)).mono ?_
  rintro e w1 ⟨rfl, hk1⟩
  have hk1' : Kp [] w w1 := ((Kp.rfl_ _ _).alloc _).trans hk1
  clear hk1
  go_wp2_with fail
  refine (open_frm ⟨#[4, 109, 72, 131, 158, 97, 98, 0, 0, 0, 0, 0]⟩ ⟨#[97, 98]⟩ ⟨#[0, 0, 0, 0, 0]⟩ ⟨#[]⟩ _ (ht.kp hk1') s12f (by decide) (by decide)).mono ?_
  rintro e w2 ⟨rfl, hk2⟩
  have hex := s12c
  go_wp2_with fail
  refine (open_none ⟨#[4, 109, 72, 131, 158, 97]⟩ _ (ht.kp (hk1'.trans hk2)) s12n (by decide)).mono ?_
  rintro e w3 ⟨rfl, hk3⟩
  clear hex
  go_wp2_with fail
  go_ret
  exact ⟨rfl, (hk1'.trans hk2).trans hk3⟩

theorem tb_all2 : ∀ j : Fin 16, (([0, 498536548, 997073096, 651767980, 1994146192, 1802195444, 1303535960, 1342533948, 3988292384, 4027552580, 3604390888, 3412177804, 2607071920, 2262029012, 2685067896, 3183342108] : List Int).getD j.val 0) = ((Crc.tb j.val : Nat) : Int) := by decide
/-- What the row says of the listed variable. -/
def LaidCrc (w : World) : Prop := 1 < w.heap.size ∧ ∀ j, j < 16 → w.cell? ⟨1, j, none⟩ = some (.int .u32 (([0, 498536548, 997073096, 651767980, 1994146192, 1802195444, 1303535960, 1342533948, 3988292384, 4027552580, 3604390888, 3412177804, 2607071920, 2262029012, 2685067896, 3183342108] : List Int).getD j 0))
theorem tab_of {w : World} (h : LaidCrc w) : Tab w := ⟨h.1, fun j hj => by rw [h.2 j hj, tb_all2 ⟨j, hj⟩]⟩
theorem size_le {s : ByteArray} (h : s.size ≤ maxLen) : s.size ≤ 9223372036854775807 := by unfold maxLen at h; omega
/-- What is played is short. -/
theorem short_all {ss : List ByteArray} (h : tot ss ≤ 8192) : (∀ z ∈ ss, z.size ≤ 8192) ∧ ss.length ≤ 8192 ∧ (frms ss).length ≤ 114688 := by
  have h1 : ∀ z ∈ ss, z.size ≤ 8192 := fun z hz => by
    obtain ⟨a, b, rfl⟩ := List.append_of_mem hz
    unfold tot at h
    simp at h
    omega
  have h2 := tot_len ss
  have h3 := frms_len ss fun s hs => by have := h1 s hs; omega
  exact ⟨h1, by omega, by omega⟩
set_option maxHeartbeats 2000000 in
theorem fseals (A : Option Addr) (n c : Nat) (ss : List ByteArray) (w : World) (ht : Tab w) (hL : Ls w A n (ss.map Value.string)) (hs : ∀ z ∈ ss, z.size ≤ maxLen) (hnc : n ≤ c) (hc : c ≤ maxLen) :
    Calls Tryd.prog 7 #[.slice A n c] w (Yes w) := by
  have hlen : ss.length = n := by simpa using hL.1
  have H1 := Lib.hid hlen
  have HS := Lib.hid hs
  clear hlen hs
  go_enter Tryd.func7, Tryd.ntmps7
  go_wp2_with fail
  refine (fawake _ ht).mono ?_
  rintro e w1 ⟨rfl, hk1⟩
  have hL1 := hL.kp hk1 (by simp)
  have ht1 := ht.kp hk1
  go_wp2_with fail
  refine (many_any A n c ss _ hL1 HS.out hnc hc).mono ?_
  rintro e w1' ⟨bl, rfl, rfl, hbl⟩
  cases bl
  · obtain ⟨h1, h2, h3⟩ := short_all (hbl rfl)
    have hn : n ≤ 8192 := by have := H1.out; omega
    have hsm := Lib.hid (fun z hz => by have := h1 z hz; omega : ∀ z ∈ ss, z.size ≤ 1048576)
    have HL := Lib.hid h3
    obtain ⟨r, hr⟩ : ∃ r, bs (frms ss) = r := ⟨_, rfl⟩
    have HR := Lib.hid hr
    clear hbl h1 h2 h3 hr
    go_wp2_with (at_builtin; refine wpl_copy_str w1 rfl _ _ rfl A n c ss rfl rfl hL1 (by omega) ?_; intro v2 w2 hown2 hk2; obtain ⟨A2, c2, rfl, hL2, -, -, -⟩ := own_open hown2)
    refine (seal_to A2 n c2 ss r _ HR.out (ht1.kp hk2) hL2 hsm.out (by omega) (by have := HL.out; omega)).mono ?_
    rintro e w3 ⟨rfl, hk3⟩
    have hL3 := (hL1.kp hk2 (by simp)).kp hk3 (by simp)
    go_wp2_with fail
    refine (rseal_to A n c ss r _ HR.out hL3 hsm.out (by omega) (by have := HL.out; omega)).mono ?_
    rintro e w4 ⟨rfl, hk4⟩
    go_wp2_with fail
    go_ret
    exact ⟨ret_bool (by simp), ((hk1.trans hk2).trans hk3).trans hk4⟩
  · go_wp2_with fail
    refine (fawake _ ht1).mono ?_
    rintro e w2 ⟨rfl, hk2⟩
    go_wp2_with fail
    go_ret
    exact ⟨rfl, hk1.trans hk2⟩
theorem fseals_walk (v0 : Value) (w : World) (hl : LaidCrc w) (i0 : In w 22 v0) : Calls Tryd.prog 7 #[v0] w (Yes w) := by
  obtain ⟨A, n, c, zs, rfl, h1, h2, h3, h4⟩ := in_strs i0
  exact fseals A n c zs w (tab_of hl) h3 h4 h1 h2

set_option maxHeartbeats 4000000 in
theorem fopens (s : ByteArray) (w : World) (ht : Tab w) (hs : s.size ≤ 8192) :
    Calls Tryd.prog 8 #[.string s] w (Yes w) := by
  go_enter Tryd.func8, Tryd.ntmps8
  go_wp2_with fail
  refine (fawake _ ht).mono ?_
  rintro e w1 ⟨rfl, hk1⟩
  have ht1 := ht.kp hk1
  go_wp2_with fail
  refine (open_any s _ ht1 (by omega)).mono ?_
  rintro e w2 ⟨hk2, h⟩
  have ht2 := ht1.kp hk2
  have hk12 := hk1.trans hk2
  clear hk1 hk2
  rcases h with ⟨ho, rfl⟩ | ⟨u, n, ho, rfl⟩
  · go_wp2_with fail
    refine (ropen_any s _ (by omega)).mono ?_
    rintro e w3 ⟨hk3, h⟩
    have ht3 := ht2.kp hk3
    have hk13 := hk12.trans hk3
    rcases h with ⟨_, rfl⟩ | ⟨u, n, ho2, _⟩
    · go_wp2_with fail
      refine (scan_any s _ ht3 (by omega)).mono ?_
      rintro e w4 ⟨v4, rfl, hown4, hk4⟩
      obtain ⟨A4, c4, rfl, hL4, -, -, -⟩ := own_open hown4
      go_wp2_with fail
      refine (rscan_any s _ (by omega)).mono ?_
      rintro e w5 ⟨v5, rfl, hown5, hk5⟩
      obtain ⟨A5, c5, rfl, hL5, -, -, -⟩ := own_open hown5
      have hL4' := hL4.kp hk5 (by simp)
      have hn : (scn s.data.toList).1.length ≤ 1099511627776 := scn_len s (by omega)
      clear ho hown4 hown5 hL4 hk12 hk3 ht ht1 ht2 ht3
      obtain ⟨ss, hss⟩ : ∃ ss, (scn s.data.toList).1 = ss := ⟨_, rfl⟩
      obtain ⟨q, hq⟩ : ∃ q, (scn s.data.toList).2 = q := ⟨_, rfl⟩
      rw [hss] at hL4' hL5 hn ⊢
      rw [hq]
      go_wp2_with fail
      refine (same_yes A4 A5 ss.length c4 ss.length c5 ss _ hL4' hL5 hn).mono ?_
      rintro e w6 ⟨rfl, hk6⟩
      go_wp2_with fail
      go_ret
      exact ⟨ret_bool (by simp), ((hk13.trans hk4).trans hk5).trans hk6⟩
    · rw [ho] at ho2; cases ho2
  · go_wp2_with fail
    refine (ropen_any s _ (by omega)).mono ?_
    rintro e w3 ⟨hk3, h⟩
    have ht3 := ht2.kp hk3
    have hk13 := hk12.trans hk3
    rcases h with ⟨ho2, _⟩ | ⟨u2, n2, ho2, rfl⟩
    · rw [ho] at ho2; cases ho2
    · rw [ho] at ho2
      injection ho2 with ho2
      injection ho2 with h2 h3
      subst h2 h3
      obtain ⟨p, hp⟩ : ∃ p, bs ((s.data.toList.drop (u + 4)).take n) = p := ⟨_, rfl⟩
      obtain ⟨t, hte⟩ : ∃ t, bs (s.data.toList.drop (u + 4 + n)) = t := ⟨_, rfl⟩
      rw [hp, hte]
      clear hp hte ho
      go_wp2_with fail
      refine (scan_any s _ ht3 (by omega)).mono ?_
      rintro e w4 ⟨v4, rfl, hown4, hk4⟩
      obtain ⟨A4, c4, rfl, hL4, -, -, -⟩ := own_open hown4
      go_wp2_with fail
      refine (rscan_any s _ (by omega)).mono ?_
      rintro e w5 ⟨v5, rfl, hown5, hk5⟩
      obtain ⟨A5, c5, rfl, hL5, -, -, -⟩ := own_open hown5
      have hL4' := hL4.kp hk5 (by simp)
      have hn : (scn s.data.toList).1.length ≤ 1099511627776 := scn_len s (by omega)
      clear hown4 hown5 hL4 hk12 hk3 ht ht1 ht2 ht3
      obtain ⟨ss, hss⟩ : ∃ ss, (scn s.data.toList).1 = ss := ⟨_, rfl⟩
      obtain ⟨q, hq⟩ : ∃ q, (scn s.data.toList).2 = q := ⟨_, rfl⟩
      rw [hss] at hL4' hL5 hn ⊢
      rw [hq]
      go_wp2_with fail
      refine (same_yes A4 A5 ss.length c4 ss.length c5 ss _ hL4' hL5 hn).mono ?_
      rintro e w6 ⟨rfl, hk6⟩
      go_wp2_with fail
      go_ret
      exact ⟨ret_bool (by simp), ((hk13.trans hk4).trans hk5).trans hk6⟩
set_option maxHeartbeats 1000000 in
theorem fopens_not (s : ByteArray) (w : World) (ht : Tab w) (hs : 8192 < s.size) (hz : s.size ≤ 9223372036854775807) :
    Calls Tryd.prog 8 #[.string s] w (Yes w) := by
  go_enter Tryd.func8, Tryd.ntmps8
  go_wp2_with fail
  refine (fawake _ ht).mono ?_
  rintro e w2 ⟨rfl, hk2⟩
  go_wp2_with fail
  refine (fawake _ (ht.kp hk2)).mono ?_
  rintro e w3 ⟨rfl, hk3⟩
  go_wp2_with fail
  go_ret
  exact ⟨rfl, hk2.trans hk3⟩
theorem fopens_walk (v0 : Value) (w : World) (hl : LaidCrc w) (i0 : In w 9 v0) : Calls Tryd.prog 8 #[v0] w (Yes w) := by
  obtain ⟨s, rfl, hs⟩ := in_string Tryd.underlying9 i0
  by_cases h : s.size ≤ 8192
  · exact fopens s w (tab_of hl) h
  · exact fopens_not s w (tab_of hl) (by omega) (size_le hs)
end Go.Proofs.YthnfjkinliekoaaDoor
