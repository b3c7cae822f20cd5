/- Bytes read as a sheet: the document's own Parse. -/
import Derived.Test.YtencpplopdogmaaDoorGh
namespace Go.Proofs.YtencpplopdogmaaDoor
set_option maxRecDepth 100000
open Go.RowKit
set_option linter.unusedVariables false

/-- The document's reader: where it is, or it is spoilt. -/
def RrS (w : World) (g : Nat) (s : ByteArray) : Option Nat → Prop
  | some k => Rrd w g s k false
  | none => ∃ k, Rrd w g s k true
theorem RrS.kp {w w' : World} {g : Nat} {s : ByteArray} {S : List Nat} : ∀ {x : Option Nat}, RrS w g s x → Kp S w w' → g ∉ S → RrS w' g s x
  | some r, h, k, hS => At.kp h k hS
  | none, ⟨r, h⟩, k, hS => ⟨r, At.kp h k hS⟩
def R1 (l : List UInt8) (z : Int) : Option Nat → Prop
  | none => NoS l
  | some u => decN l = (z, u) ∧ 0 < u ∧ u ≤ l.length
def StR (l : List UInt8) (z n : Int) (hk : List ByteArray) : Option Nat → Prop
  | none => NoS l
  | some p => ∃ u v, decN l = (z, u) ∧ 0 < u ∧ decN (l.drop u) = (n, v) ∧ 0 < v ∧ Pre ((l.drop u).drop v) hk (l.drop p) ∧ p ≤ l.length
theorem rnum_st (s : ByteArray) (l : List UInt8) (hsl : s.data.toList = l) (hs : s.size ≤ 1000000000) : ∃ z x, R1 l z x ∧ (-9223372036854775808 ≤ z ∧ z ≤ 9223372036854775807) ∧ ∀ w g, Rrd w g s 0 false →
    Calls Tryd.prog 38 #[.pointer (some ⟨g, 0, none⟩)] w fun e w' => e = .returned (.int .i64 z) ∧ RrS w' g s x ∧ Kp [g] w w' := by
  have hll : l.length = s.size := by rw [← hsl]; simp
  obtain ⟨⟨z, u⟩, hd⟩ : ∃ p, decN l = p := ⟨_, rfl⟩
  have hu := decN_le hd
  by_cases h0 : 0 < u
  · obtain ⟨-, -, b1, b2⟩ := decN_some hd h0
    refine ⟨z, some u, ⟨hd, h0, hu⟩, ⟨b1, b2⟩, fun w g h => ?_⟩
    refine (rrnum_to g s 0 z u w h (by rw [hsl, List.drop_zero]; exact hd) (by omega) hs).mono ?_
    rintro e w' ⟨he, hr, hk⟩
    rw [show (u == 0) = false by rw [beq_eq_false_iff_ne]; omega, Nat.zero_add] at hr
    exact ⟨he, hr, hk⟩
  · obtain rfl : u = 0 := by omega
    obtain rfl := decN_zero hd
    refine ⟨0, none, nos_first hd, ⟨by omega, by omega⟩, fun w g h => ?_⟩
    refine (rrnum_to g s 0 0 0 w h (by rw [hsl, List.drop_zero]; exact hd) (by omega) hs).mono ?_
    rintro e w' ⟨he, hr, hk⟩
    exact ⟨he, ⟨_, hr⟩, hk⟩
theorem rnum2_st (s : ByteArray) (l : List UInt8) (hsl : s.data.toList = l) (hs : s.size ≤ 1000000000) (z : Int) (x : Option Nat) (h1 : R1 l z x) : ∃ n y, StR l z n [] y ∧ (-9223372036854775808 ≤ n ∧ n ≤ 9223372036854775807) ∧ ∀ w g, RrS w g s x →
    Calls Tryd.prog 38 #[.pointer (some ⟨g, 0, none⟩)] w fun e w' => e = .returned (.int .i64 n) ∧ RrS w' g s y ∧ Kp [g] w w' := by
  have hll : l.length = s.size := by rw [← hsl]; simp
  cases x with
  | none =>
    refine ⟨0, none, h1, ⟨by omega, by omega⟩, fun w g ⟨k, h⟩ => ?_⟩
    refine (rrnum_bad g s k w h).mono ?_
    rintro e w' ⟨he, rfl⟩
    exact ⟨he, ⟨k, h⟩, Kp.rfl_ _ _⟩
  | some u =>
    obtain ⟨hd, hu0, hu⟩ := h1
    obtain ⟨⟨n, v⟩, hd2⟩ : ∃ p, decN (l.drop u) = p := ⟨_, rfl⟩
    have hv := decN_le hd2
    rw [List.length_drop] at hv
    by_cases h0 : 0 < v
    · obtain ⟨-, -, b1, b2⟩ := decN_some hd2 h0
      refine ⟨n, some (u + v), ⟨u, v, hd, hu0, hd2, h0, by rw [List.drop_drop]; exact Pre.zero _, by omega⟩, ⟨b1, b2⟩, fun w g h => ?_⟩
      refine (rrnum_to g s u n v w h (by rw [hsl]; exact hd2) (by omega) hs).mono ?_
      rintro e w' ⟨he, hr, hk⟩
      rw [show (v == 0) = false by rw [beq_eq_false_iff_ne]; omega] at hr
      exact ⟨he, hr, hk⟩
    · obtain rfl : v = 0 := by omega
      obtain rfl := decN_zero hd2
      refine ⟨0, none, nos_second hd hd2 (.inl rfl), ⟨by omega, by omega⟩, fun w g h => ?_⟩
      refine (rrnum_to g s u 0 0 w h (by rw [hsl]; exact hd2) (by omega) hs).mono ?_
      rintro e w' ⟨he, hr, hk⟩
      exact ⟨he, ⟨_, hr⟩, hk⟩
theorem rtext_st (s : ByteArray) (l : List UInt8) (hsl : s.data.toList = l) (hs : s.size ≤ 1000000000) (z n : Int) (hk : List ByteArray) (p : Nat) (h : StR l z n hk (some p)) (hkn : (hk.length : Int) < n) :
    ∃ (t : ByteArray) (y : Option Nat), StR l z n (hk ++ [t]) y ∧ ∀ w g, RrS w g s (some p) →
    Calls Tryd.prog 39 #[.pointer (some ⟨g, 0, none⟩)] w fun e w' => e = .returned (.string t) ∧ RrS w' g s y ∧ Kp [g] w w' := by
  have hll : l.length = s.size := by rw [← hsl]; simp
  obtain ⟨u, v, hd, hu0, hd2, hv0, hp, hple⟩ := h
  obtain ⟨m, rfl⟩ : ∃ m : Nat, n = (m : Int) := ⟨n.toNat, by omega⟩
  obtain ⟨⟨j, q⟩, hdr⟩ : ∃ x, decN (l.drop p) = x := ⟨_, rfl⟩
  have hq := decN_le hdr
  have hdl : (l.drop p).length = l.length - p := List.length_drop
  rw [hdl] at hq
  by_cases hok : 0 < q ∧ 0 ≤ j ∧ j ≤ ((l.drop p).length : Int) - q
  · obtain ⟨hq0, hj0, hj1⟩ := hok
    obtain ⟨j, rfl⟩ : ∃ i : Nat, j = (i : Int) := ⟨j.toNat, by omega⟩
    have hpj : q + j ≤ (l.drop p).length := by omega
    have hst := hp.step hdr hq0 hpj (by omega) rfl
    rw [show (l.drop p).drop (q + j) = l.drop (p + (q + j)) by rw [List.drop_drop]] at hst
    refine ⟨_, some (p + (q + j)), ⟨u, v, hd, hu0, hd2, hv0, hst, by omega⟩, fun w g h => ?_⟩
    refine (rrtext_yes g s (bs (((l.drop p).drop q).take j)) p j q (p + q) w h (by rw [hsl]; exact hdr) hq0 rfl (by omega) hs ?_).mono ?_
    · rw [← bs_of s, hsl, bs_extract, List.drop_drop]
      congr 1
      rw [List.drop_take]
      congr 1
      omega
    · rintro e w' ⟨he, hr, hk⟩
      rw [Nat.add_assoc] at hr
      exact ⟨he, hr, hk⟩
  · have hno : q = 0 ∨ j < 0 ∨ ((l.drop p).length : Int) - q < j := by omega
    have hjb : -9223372036854775808 ≤ j ∧ j ≤ 9223372036854775807 := by
      by_cases hq0 : 0 < q
      · obtain ⟨-, -, b1, b2⟩ := decN_some hdr hq0
        exact ⟨b1, b2⟩
      · obtain rfl : q = 0 := by omega
        obtain rfl := decN_zero hdr
        exact ⟨by omega, by omega⟩
    refine ⟨⟨#[]⟩, none, nos_nope hd hd2 (hp.nope (by omega) hdr hno), fun w g h => ?_⟩
    refine (rrtext_no g s p j q w h (by rw [hsl]; exact hdr) ?_ hjb.1 hjb.2 (by omega) hs).mono ?_
    · unfold NoText
      omega
    · rintro e w' ⟨he, hr, hk⟩
      exact ⟨he, hr, hk⟩
theorem StR.short {l : List UInt8} {z n : Int} {hk : List ByteArray} {p : Nat} (h : StR l z n hk (some p)) : hk.length ≤ l.length := by
  obtain ⟨u, v, hd, hu0, hd2, hv0, hp, hple⟩ := h
  have h1 := texts_ge hk hp.2
  have h2 := congrArg List.length hp.1
  rw [List.length_append, List.length_drop, List.length_drop] at h2
  omega
def rEnd (l : List UInt8) : Option Nat → Bool
  | none => false
  | some p => p == l.length
theorem rdone_st (s : ByteArray) (l : List UInt8) (hsl : s.data.toList = l) (w : World) (g : Nat) (b : Bool) : ∀ (x : Option Nat), rEnd l x = b → RrS w g s x → Calls Tryd.prog 40 #[.pointer (some ⟨g, 0, none⟩)] w fun e w' => e = .returned (.bool b) ∧ Kp [] w w'
  | none, hb, ⟨k, h⟩ => (rdone_any g s k true w h).mono fun e w' ⟨he, m, hw⟩ => ⟨by rw [he, ← hb]; rfl, by subst hw; exact (Kp.rfl_ _ _).drewN _⟩
  | some k, hb, h => (rdone_any g s k false w h).mono fun e w' ⟨he, m, hw⟩ => ⟨by rw [he, ← hb, ← hsl]; simp [rEnd], by subst hw; exact (Kp.rfl_ _ _).drewN _⟩
theorem rend_yes {l : List UInt8} {z n : Int} {hs : List ByteArray} {x : Option Nat} (h : StR l z n hs x) (hm : (hs.length : Int) = n) (he : rEnd l x = true) (hr : Rt z hs) : Prs l z hs := by
  cases x with
  | none => simp [rEnd] at he
  | some p =>
    obtain ⟨u, v, hd, hu0, hd2, hv0, hp, hple⟩ := h
    have he : p = l.length := by simpa [rEnd] using he
    subst he
    rw [List.drop_length] at hp
    exact prs_of hd hu0 (by rw [hm]; exact hd2) hv0 hr hp
theorem rend_no {l : List UInt8} {z n : Int} {hs : List ByteArray} {x : Option Nat} (h : StR l z n hs x) (hm : n ≤ (hs.length : Int)) (hm2 : (hs.length : Int) ≤ n ∨ n < 0) (hn : rEnd l x = false ∨ ¬ Rt z hs ∨ ¬ (hs.length : Int) = n) : NoS l := by
  cases x with
  | none => exact h
  | some p =>
    obtain ⟨u, v, hd, hu0, hd2, hv0, hp, hple⟩ := h
    intro z' hs' hp'
    have h1 := (hp'.first hd).1
    have h2 := hp'.second hd hd2
    have h0 : hs'.length = hs.length := by omega
    obtain ⟨h3, h4⟩ := hp.done (hs := hs') h0 hp'.1.sz h2.2.2.1
    subst h3 h1
    have h5 := congrArg List.length h4
    rw [List.length_drop, List.length_nil] at h5
    rcases hn with hn | hn | hn
    · simp [rEnd] at hn
      omega
    · exact hn hp'.1
    · omega
def RParsed (l : List UInt8) (w : World) (e : Ending) (w' : World) : Prop :=
  (∃ z hs A c, e = .returned (.tuple #[.agg #[.int .i64 z, .slice A hs.length c], .bool true]) ∧ Prs l z hs ∧ w'.ownsRow w.heap.size 9 1 (.slice A hs.length c) hs.length (hs.map Value.string) ∧ Kp [] w w') ∨
  (e = .returned (.tuple #[.agg #[.int .i64 0, .slice none 0 0], .bool false]) ∧ NoS l ∧ Kp [] w w')

set_option maxRecDepth 100000 in
set_option maxHeartbeats 8000000 in
theorem rsparse_any (s : ByteArray) (w : World) (hs : s.size ≤ 1000000000) :
    Calls Tryd.prog 20 #[.string s] w (RParsed s.data.toList w) := by
  obtain ⟨l, hl⟩ : ∃ l, s.data.toList = l := ⟨_, rfl⟩
  have hll : l.length ≤ 1000000000 := by rw [← hl]; simpa using hs
  have HS := Lib.hid hs
  obtain ⟨z, x, h1, hz, hN⟩ := rnum_st s l hl hs
  obtain ⟨n, y0, hst, hn, hC⟩ := rnum2_st s l hl hs z x h1
  have HN := Lib.hid hN
  have HC := Lib.hid hC
  have HST0 := Lib.hid hst
  have HZ := Lib.hid hz
  have HL := Lib.hid hl
  rw [hl]
  clear hl hN hC hst h1 hz hs
  go_enter Tryd.func20, Tryd.ntmps20
  go_wp2_with fail
  have hk2 : Kp [] w ((w.alloc (.cells #[.int .i64 0, .slice none 0 0] 25)).alloc (.cells #[.string s, .int .i64 0, .bool false] 63)) := ((Kp.rfl_ [] w).alloc _).alloc _
  have a2 : At ((w.alloc (.cells #[.int .i64 0, .slice none 0 0] 25)).alloc (.cells #[.string s, .int .i64 0, .bool false] 63)) w.heap.size 25 #[.int .i64 0, .slice none 0 0] := (At.new w _ _).alloc _
  have hr2 : Rrd ((w.alloc (.cells #[.int .i64 0, .slice none 0 0] 25)).alloc (.cells #[.string s, .int .i64 0, .bool false] 63)) (w.heap.size + 1) s 0 false := At.new_ (by simp)
  generalize ((w.alloc (.cells #[.int .i64 0, .slice none 0 0] 25)).alloc (.cells #[.string s, .int .i64 0, .bool false] 63)) = w2 at *
  obtain ⟨gr, hgr⟩ : ∃ gr, w.heap.size + 1 = gr := ⟨_, rfl⟩
  rw [hgr] at hr2 ⊢
  have hgl := At.lt hr2
  refine (HN.out _ _ hr2).mono ?_
  rintro e w3 ⟨rfl, hr3, hk3⟩
  have a3 := a2.kp hk3 (by simp; omega)
  have hs3 := hk3.size
  have hk03 : Kp [] w w3 := hk2.then hk3 (by simp; omega)
  clear hr2 a2 hk2 hk3
  go_wp2_with fail
  obtain ⟨g4, hg4⟩ : ∃ g4, w3.heap.size = g4 := ⟨_, rfl⟩
  have a4 : At (w3.alloc (.cells #[.int .i64 z, .slice none 0 0] 25)) g4 25 #[.int .i64 z, .slice none 0 0] := At.new_ hg4
  have b4 := a3.alloc (.cells #[.int .i64 z, .slice none 0 0] 25)
  have r4 := hr3.kp ((Kp.rfl_ [] w3).alloc (.cells #[.int .i64 z, .slice none 0 0] 25)) (by simp)
  have hk04 := hk03.alloc (.cells #[.int .i64 z, .slice none 0 0] 25)
  rw [hg4]
  have hne4 : gr ≠ g4 := by omega
  have hne5 : w.heap.size ≠ gr := by omega
  have hg4w : w.heap.size < g4 := by omega
  have hgrw : w.heap.size ≤ gr := by omega
  have hgl4 : gr < g4 := by omega
  generalize w3.alloc (.cells #[.int .i64 z, .slice none 0 0] 25) = w4 at *
  refine (HC.out _ _ r4).mono ?_
  rintro e w5 ⟨rfl, r5, k5⟩
  have a5 := a4.kp k5 (by simp; omega)
  have b5 := b4.kp k5 (by simp; omega)
  have hs5 := a5.lt
  have hk05 : Kp [] w w5 := hk04.then k5 (by simp; omega)
  have hgr5 : gr < w5.heap.size := by omega
  clear a4 b4 r4 hk04 k5 a3 hr3 hk03 hg4 hs3 hgl hgr
  go_wp2_with fail
  go_loopg [7] (l.length + 2) (fun gk i wr => ∃ (k : Nat) (hk : List ByteArray) (v : Value) (y : Option Nat), l.length + 2 - k ≤ gk ∧ i = .int .i64 k ∧ k ≤ l.length + 1 ∧ ((k : Int) ≤ n ∨ k = 0) ∧ hk.length = k ∧ Und2 w5 g4 gr (.int .i64 z) v wr ∧ wr.ownsRow w5.heap.size 9 1 v k (hk.map Value.string) ∧ RrS wr gr s y ∧ StR l z n hk y)
  case atStart => exact ⟨0, [], _, y0, by omega, rfl, by omega, .inr rfl, rfl, ⟨Kp.rfl_ _ _, a5, ⟨hs5, hgr5, hne4⟩, by simp [Value.ownBlock]⟩, own_none _ _ _, r5, HST0.out⟩
  case round =>
    obtain ⟨k, hk, vk, y, hgk, rfl, hkm, hk0, hkl, hund, hown, hrd, hst⟩ := hrel
    have hszr := hund.1.size
    by_cases hlt : (k : Int) < n
    · cases y with
      | some p =>
        have hshort := hst.short
        obtain ⟨t, y2, hst2, hT⟩ := rtext_st s l HL.out HS.out z n hk p hst (by omega)
        have HST := Lib.hid hst2
        have HT := Lib.hid hT
        have hk9 : k ≤ 1099511627776 := by omega
        obtain ⟨xs, hxs⟩ : ∃ xs, hk.map Value.string = xs := ⟨_, rfl⟩
        rw [hxs] at hown
        have HXS := Lib.hid hxs
        obtain ⟨-, -, q2, -, -, -⟩ := Rrd.cells (s := s) (k := p) (b := false) hrd
        clear hxs hst hst2 hT
        go_wp2_with fail
        have hT := HT.out
        have hgr := hgr5
        have RST : Hid (OfR gr fun w => RrS w gr s (some p)) := Lib.hid fun _ _ _ h k hS => h.kp k hS
        have RST2 : Hid (OfR gr fun w => RrS w gr s y2) := Lib.hid fun _ _ _ h k hS => h.kp k hS
        refine region_gen (PaF w5 g4 gr (.int .i64 z) vk k xs t (fun w => RrS w gr s (some p)) (fun w => RrS w gr s y2)) (fun i j => (i == 5 && j == 9) || (i == 3 && j == 10)) (by kernel_rfl) _ rfl (by kernel_rfl) (by kernel_rfl) (by kernel_rfl) (by kernel_rfl) ?_ ?_ ?_
        · intro j hj
          rcases j with _|_|_|_|_|_|_|_|_|_|_|j
          all_goals first
            | exact hund.kp ((Kp.rfl_ [] _).drew) (by simp)
            | exact own_kp hown ((Kp.rfl_ [] _).drew) (by simp)
            | exact hrd
            | exact trivial
            | exact absurd hj (by decide)
        · intro q o hqn ho av wv K hS H hK
          have hf4 : av.eval (.tmp 4) = .pointer (some ⟨gr, 0, none⟩) := (hS.2.2 4 (nofill (by kernel_rfl))).trans rfl
          have hf5 : av.eval (.tmp 5) = .pointer (some ⟨g4, 0, none⟩) := (hS.2.2 5 (nofill (by kernel_rfl))).trans rfl
          rcases q with _|_|_|_|_|_|_|q
          all_goals try (obtain rfl := Option.some.inj ho)
          · have e4 := gd hf5
            exact wpOp_value rfl rfl (v := .pointer (some ⟨g4, 1, none⟩)) (w' := wv) (by simp [execOp, go_sem, e4]) (hK _ _ rfl fun _ _ _ _ h => h)
          · have hU : Und2 w5 g4 gr (.int .i64 z) vk wv := H 8 (by kernel_rfl) (by kernel_rfl)
            have hc1 := hU.2.1.cell 1
            have e28 := gd (t := 28) (H 0 (by kernel_rfl) (by kernel_rfl))
            exact wpOp_value rfl rfl (v := vk) (w' := wv) (by simp [execOp, go_sem, e28, hc1]) (hK _ _ rfl fun _ _ _ _ h => h)
          · have e4 := gd hf4
            exact wpOp_value rfl rfl (v := .pointer (some ⟨gr, 0, none⟩)) (w' := wv) (by simp [execOp, go_sem, e4]) (hK _ _ rfl fun _ _ _ _ h => h)
          · have hU : Und2 w5 g4 gr (.int .i64 z) vk wv := H 8 (by kernel_rfl) (by kernel_rfl)
            have e30 := gd (t := 30) (H 2 (by kernel_rfl) (by kernel_rfl))
            have hR : RrS wv gr s (some p) := H 10 (by kernel_rfl) (by kernel_rfl)
            refine wpOp_call rfl rfl (f := 39) (args := #[.pointer (some ⟨gr, 0, none⟩)]) (w1 := wv) (by simp [execOp, go_sem, e30]) ?_
            refine (hT wv gr hR).mono ?_
            rintro e w8 ⟨rfl, r8, k8⟩
            exact ⟨_, rfl, hK _ _ ⟨rfl, r8⟩ fun j u hj hD h => PaF.kpr j k8 hj (by rintro rfl; simp at hD) hgr h⟩
          · have hU : Und2 w5 g4 gr (.int .i64 z) vk wv := H 8 (by kernel_rfl) (by kernel_rfl)
            have e31 := gd (t := 31) (And.left (H 3 (by kernel_rfl) (by kernel_rfl)))
            exact wpOp_value rfl rfl (v := .slice (some ⟨wv.heap.size, 0, none⟩) 1 1) (w' := wv.alloc (.cells #[.string t] 9)) (by simp [execOp, go_sem, e31]) (hK _ _ (One.new hU.1.size fun g hg => (hU.2.2.2 g hg).2) fun j u _ _ h => PaF.kp j ((Kp.rfl_ [] _).alloc _) (by simp) (.inl rfl) RST.out RST2.out hgr h)
          · have hU : Und2 w5 g4 gr (.int .i64 z) vk wv := H 8 (by kernel_rfl) (by kernel_rfl)
            have hrow : wv.ownsRow w5.heap.size 9 1 vk k xs := H 9 (by kernel_rfl) (by kernel_rfl)
            obtain ⟨h, e32, hb, hne, hl⟩ : One w5.heap.size vk t (av.tmps.getD 32 undef) wv := H 4 (by kernel_rfl) (by kernel_rfl)
            obtain ⟨v', w', hrun, h3, h4⟩ := exec_app (ev := av.eval) (.tmp 29) (.tmp 32) wv w5.heap.size h vk k xs t hrow (H 1 (by kernel_rfl) (by kernel_rfl)) e32 hl hU.1.size (by omega)
            refine wpOp_value rfl rfl (hrun _ rfl rfl) (hK _ _ h3 fun j u hj hD hh => PaF.kp j (Kp.of_grown (S := vk.ownBlock.toList) h4 fun x hx _ => by rw [hx]; simp) (fun x hx => ?_) (.inr ⟨?_, hj⟩) RST.out RST2.out hgr hh)
            · have hx : vk.ownBlock = some x := by simpa using hx
              exact ⟨hx, (hU.2.2.2 x hx).1⟩
            · rintro rfl
              simp at hD
          · have e4 := gd hf5
            exact wpOp_value rfl rfl (v := .pointer (some ⟨g4, 1, none⟩)) (w' := wv) (by simp [execOp, go_sem, e4]) (hK _ _ rfl fun _ _ _ _ h => h)
          · simp at hqn; omega
        · intro av wv hS H
          have hU : Und2 w5 g4 gr (.int .i64 z) vk wv := H 8 (by decide) (by kernel_rfl)
          have hG : Grew w5.heap.size k xs t (av.tmps.getD 33 undef) wv := H 5 (by decide) (by kernel_rfl)
          have hR2 : RrS wv gr s y2 := And.right (H 3 (by decide) (by kernel_rfl))
          obtain ⟨v', hv'⟩ : ∃ v', av.tmps.getD 33 undef = v' := ⟨_, rfl⟩
          rw [hv'] at hG
          have e33 := gd hv'
          have e34 := gd (t := 34) (H 6 (by decide) (by kernel_rfl))
          have hc1 := hU.2.1.cell 1
          have hf1 := hU.2.1.frozen 1
          obtain ⟨hU2, hO2⟩ := hU.next hG
          obtain ⟨A', c', rfl, -⟩ := own_open hG
          refine wpOp_skipped rfl rfl rfl (w' := wv.setCell ⟨g4, 1, none⟩ (.slice A' (k + 1) c')) (by simp [execOp, go_sem, e33, e34, hc1, hf1]) ?_
          rw [same_fold hS [28, 29, 30, 31, 32, 33, 34] (by kernel_rfl) (by kernel_rfl)]
          simp only [List.foldl]
          simp only [Act.put, List.setIfInBounds_toArray, List.set_cons_succ, List.set_cons_zero]
          generalize av.tmps.getD 28 undef = v28
          generalize av.tmps.getD 29 undef = v29
          generalize av.tmps.getD 30 undef = v30
          generalize av.tmps.getD 31 undef = v31
          generalize av.tmps.getD 32 undef = v32
          generalize av.tmps.getD 33 undef = v33
          generalize av.tmps.getD 34 undef = v34
          have hR3 := hR2.kp ((Kp.rfl_ [g4] wv).set (p := ⟨g4, 1, none⟩) (by simp) (.slice A' (k + 1) c')) (by simp; exact hU.2.2.1.2.2)
          generalize wv.setCell ⟨g4, 1, none⟩ (.slice A' (k + 1) c') = w9 at *
          clear hS H
          go_wp2_with fail
          go_roundg (l.length + 2 - (k + 1))
          case measure => omega
          case rel => exact ⟨k + 1, hk ++ [t], .slice A' (k + 1) c', y2, by omega, by go_num, by omega, by omega, by rw [List.length_append, hkl]; rfl, hU2, by rw [List.map_append, HXS.out]; exact hO2, hR3, HST.out⟩
      | none =>
        have hNO0 : NoS l := hst
        obtain ⟨p', hp'⟩ := hrd
        obtain ⟨-, -, q2, -, -, -⟩ := hp'.cells
        have hrd : RrS wr gr s none := ⟨p', hp'⟩
        clear hp'
        have r2 := b5.kp hund.1 (by simp; omega)
        have hk9 : Kp [] w wr := hk05.then hund.1 (by simp; omega)
        have HNO := Lib.hid hNO0
        clear hown hst hNO0
        go_wp2_with fail
        refine (rdone_st s l HL.out wr gr false none rfl hrd).mono ?_
        rintro e wv ⟨rfl, hk'⟩
        have d2 := r2.kp hk' (by simp)
        have hkv := hk9.trans hk'
        have d0 : wv.cell? ⟨w.heap.size, 0, none⟩ = some (.int .i64 0) := d2.cell 0
        have d1 : wv.cell? ⟨w.heap.size, 1, none⟩ = some (.slice none 0 0) := d2.cell 1
        have f0 := d2.frozen 0
        have f1 := d2.frozen 1
        go_wp2_with fail
        refine bodyPost_ret (results_sheet rfl _ _ _ _ _ rfl ((d2.set 0 (.int .i64 0)).set 1 (.slice none 0 0))) rfl ?_
        exact .inr ⟨rfl, HNO.out, hkv.then (((Kp.rfl_ [w.heap.size] wv).set (by simp) _).set (by simp) _) (by simp)⟩
    · have GEND : (rEnd l y = false ∨ ¬ Rt z hk ∨ ¬ (hk.length : Int) = n) → NoS l := fun h => rend_no hst (by omega) (by omega) h
      obtain ⟨A, c, rfl, hLh, -⟩ := own_open hown
      have c0 : wr.cell? ⟨g4, 0, none⟩ = some (.int .i64 z) := hund.2.1.cell 0
      have c1 : wr.cell? ⟨g4, 1, none⟩ = some (.slice A k c) := hund.2.1.cell 1
      have r2 := b5.kp hund.1 (by simp; omega)
      have hk9 : Kp [] w wr := hk05.then hund.1 (by simp; omega)
      obtain ⟨b, hb⟩ : ∃ b, rEnd l y = b := ⟨_, rfl⟩
      have HO := Lib.hid hown
      have HZ2 := HZ.out
      clear hown
      go_wp2_with fail
      refine (rdone_st s l HL.out wr gr b y hb hrd).mono ?_
      rintro e wv ⟨rfl, hk'⟩
      cases b
      · have HNO := Lib.hid (GEND (.inl hb))
        have d2 := r2.kp hk' (by simp)
        have hkv := hk9.trans hk'
        have d0 : wv.cell? ⟨w.heap.size, 0, none⟩ = some (.int .i64 0) := d2.cell 0
        have d1 : wv.cell? ⟨w.heap.size, 1, none⟩ = some (.slice none 0 0) := d2.cell 1
        have f0 := d2.frozen 0
        have f1 := d2.frozen 1
        have s0 := cell_kp c0 hk' (by simp)
        have s1 := cell_kp c1 hk' (by simp)
        clear hb
        go_wp2_with fail
        refine bodyPost_ret (results_sheet rfl _ _ _ _ _ rfl ((d2.set 0 (.int .i64 0)).set 1 (.slice none 0 0))) rfl ?_
        exact .inr ⟨rfl, HNO.out, hkv.then (((Kp.rfl_ [w.heap.size] wv).set (by simp) _).set (by simp) _) (by simp)⟩
      · have hLv := hLh.kp hk' (by simp)
        have HOv := own_kp HO.out hk' (by simp)
        have p0 := cell_kp c0 hk' (by simp)
        have p1 := cell_kp c1 hk' (by simp)
        have k1v := hk'
        clear hk'
        go_wp2_with fail
        refine (sright_any z A k c hk wv hLv (by omega) HZ2.1 HZ2.2).mono ?_
        rintro e w6 ⟨rfl, k6⟩
        have hk' := k1v.trans k6
        have HO3 := Lib.hid (own_kp HOv k6 (by simp))
        have HO2 := Lib.hid (own_base HO3.out hk05.size)
        clear hLv HOv k1v k6
        have d2 := r2.kp hk' (by simp)
        have hkv := hk9.trans hk'
        have d0 : w6.cell? ⟨w.heap.size, 0, none⟩ = some (.int .i64 0) := d2.cell 0
        have d1 : w6.cell? ⟨w.heap.size, 1, none⟩ = some (.slice none 0 0) := d2.cell 1
        have f0 := d2.frozen 0
        have f1 := d2.frozen 1
        have s0 := cell_kp c0 hk' (by simp)
        have s1 := cell_kp c1 hk' (by simp)
        by_cases hrt : Rt z hk
        · rw [decide_eq_true hrt]
          by_cases hkn2 : (k : Int) = n
          · have HP := Lib.hid (rend_yes hst (by rw [hkl]; exact hkn2) hb hrt)
            have hnb : ((k : Int) != n) = false := by simp [hkn2]
            clear hrt hb hkn2
            go_wp2_with fail
            have k9 : Kp [w.heap.size] w6 ((w6.setCell ⟨w.heap.size, 0, none⟩ (.int .i64 z)).setCell ⟨w.heap.size, 1, none⟩ (.slice A k c)) := ((Kp.rfl_ _ _).set (by simp) _).set (by simp) _
            refine bodyPost_ret (results_sheet rfl _ _ _ _ _ rfl ((d2.set 0 (.int .i64 z)).set 1 (.slice A k c))) rfl ?_
            refine .inl ⟨z, hk, A, c, ?_, HP.out, ?_, hkv.then k9 (by simp)⟩
            · rw [hkl]; rfl
            · rw [hkl]
              refine own_kp HO2.out k9 fun g hg hm => ?_
              have h1 := own_block_lt HO3.out hg
              simp at hm
              omega
          · have HNO := Lib.hid (GEND (.inr (.inr (by rw [hkl]; exact hkn2))))
            have hnb : ((k : Int) != n) = true := by rw [bne_iff_ne]; exact hkn2
            clear hrt hb hkn2
            go_wp2_with fail
            refine bodyPost_ret (results_sheet rfl _ _ _ _ _ rfl ((d2.set 0 (.int .i64 0)).set 1 (.slice none 0 0))) rfl ?_
            exact .inr ⟨rfl, HNO.out, hkv.then (((Kp.rfl_ [w.heap.size] w6).set (by simp) _).set (by simp) _) (by simp)⟩
        · have HNO := Lib.hid (GEND (.inr (.inl hrt)))
          rw [decide_eq_false hrt]
          clear hrt hb
          go_wp2_with fail
          refine bodyPost_ret (results_sheet rfl _ _ _ _ _ rfl ((d2.set 0 (.int .i64 0)).set 1 (.slice none 0 0))) rfl ?_
          exact .inr ⟨rfl, HNO.out, hkv.then (((Kp.rfl_ [w.heap.size] w6).set (by simp) _).set (by simp) _) (by simp)⟩
end Go.Proofs.YtencpplopdogmaaDoor
