/- Bytes read as a sheet: how far a reader is. · Bytes read as a sheet: the program's Parse. -/
import Derived.Test.YtencpplopdogmaaDoorGg
import Derived.Test.YtencpplopdogmaaDoorGd
namespace Go.Proofs.YtencpplopdogmaaDoor
set_option maxRecDepth 100000
open Go.RowKit
set_option linter.unusedVariables false

/-- The program's reader: what is left, or it is spoilt. -/
def RdP (w : World) (g : Nat) : Option ByteArray → Prop
  | some r => Rdr w g r false
  | none => ∃ r, Rdr w g r true
theorem RdP.kp {w w' : World} {g : Nat} {S : List Nat} : ∀ {x : Option ByteArray}, RdP w g x → Kp S w w' → g ∉ S → RdP w' g x
  | some r, h, k, hS => At.kp h k hS
  | none, ⟨r, h⟩, k, hS => ⟨r, At.kp h k hS⟩
/-- These bytes are no right sheet's. -/
def NoS (l : List UInt8) : Prop := ∀ z hs, ¬ Prs l z hs
/-- Behind the first number. -/
def N1 (l : List UInt8) (z : Int) : Option ByteArray → Prop
  | none => NoS l
  | some r => ∃ u, decN l = (z, u) ∧ 0 < u ∧ u ≤ l.length ∧ r = bs (l.drop u)
/-- Behind the count, and behind texts. -/
def St (l : List UInt8) (z : Int) (m : Nat) (hk : List ByteArray) : Option ByteArray → Prop
  | none => NoS l
  | some r => ∃ u v rest, r = bs rest ∧ decN l = (z, u) ∧ 0 < u ∧ decN (l.drop u) = ((m : Int), v) ∧ 0 < v ∧ Pre ((l.drop u).drop v) hk rest ∧ rest.length ≤ l.length
theorem nos_first {l : List UInt8} {z : Int} (h : decN l = (z, 0)) : NoS l := fun z' hs hp => by have := (hp.first h).2.1; omega
theorem nos_second {l : List UInt8} {z n : Int} {u v : Nat} (h : decN l = (z, u)) (h2 : decN (l.drop u) = (n, v)) (hno : v = 0 ∨ n < 0 ∨ (((l.drop u).drop v).length : Int) < n) : NoS l := fun z' hs hp => by
  have := hp.second h h2
  omega
theorem nos_nope {l : List UInt8} {z : Int} {m u v : Nat} (h : decN l = (z, u)) (h2 : decN (l.drop u) = ((m : Int), v)) (hn : Nope ((l.drop u).drop v) m) : NoS l := fun z' hs hp => by
  have := hp.second h h2
  exact hn hs (by omega) hp.1.sz this.2.2.1
theorem dropE (l : List UInt8) (u : Nat) : (bs l).extract u (bs l).size = bs (l.drop u) := by rw [bs_extract, bs_size, List.take_length]

theorem num_st (l : List UInt8) (hl : l.length ≤ 1000000000) : ∃ z x, N1 l z x ∧ (-9223372036854775808 ≤ z ∧ z ≤ 9223372036854775807) ∧ ∀ w g, Rdr w g (bs l) false →
    Calls Tryd.prog 34 #[.pointer (some ⟨g, 0, none⟩)] w fun e w' => e = .returned (.int .i64 z) ∧ RdP w' g x ∧ Kp [g] w w' := by
  obtain ⟨⟨z, u⟩, hd⟩ : ∃ p, decN l = p := ⟨_, rfl⟩
  have hu := decN_le hd
  by_cases h0 : 0 < u
  · obtain ⟨-, -, b1, b2⟩ := decN_some hd h0
    refine ⟨z, some (bs (l.drop u)), ⟨u, hd, h0, hu, rfl⟩, ⟨b1, b2⟩, fun w g h => ?_⟩
    refine (num_yes g (bs l) z u w h (by rw [bs_list]; exact hd) h0 (by rw [bs_size]; exact hu) (by rw [bs_size]; exact hl)).mono ?_
    rintro e w' ⟨he, hr, hk⟩
    exact ⟨he, by rw [dropE] at hr; exact hr, hk⟩
  · obtain rfl : u = 0 := by omega
    obtain rfl := decN_zero hd
    refine ⟨0, none, nos_first hd, ⟨by omega, by omega⟩, fun w g h => ?_⟩
    refine (num_no g (bs l) w h (by rw [bs_list]; exact hd) (by rw [bs_size]; exact hl)).mono ?_
    rintro e w' ⟨he, hr, hk⟩
    exact ⟨he, ⟨_, hr⟩, hk⟩
theorem count_st (l : List UInt8) (z : Int) (x : Option ByteArray) (h1 : N1 l z x) (hl : l.length ≤ 1000000000) : ∃ (m : Nat) (y : Option ByteArray), St l z m [] y ∧ m ≤ l.length ∧ (y = none → m = 0) ∧ ∀ w g, RdP w g x →
    Calls Tryd.prog 35 #[.pointer (some ⟨g, 0, none⟩)] w fun e w' => e = .returned (.int .i64 m) ∧ RdP w' g y ∧ Kp [g] w w' := by
  cases x with
  | none =>
    refine ⟨0, none, h1, Nat.zero_le _, fun _ => rfl, fun w g ⟨r, h⟩ => ?_⟩
    exact (count_bad g r w h).mono fun e w' ⟨he, hr, hk⟩ => ⟨he, hr, hk⟩
  | some r =>
    obtain ⟨u, hd, hu0, hu, rfl⟩ := h1
    obtain ⟨⟨n, v⟩, hd2⟩ : ∃ p, decN (l.drop u) = p := ⟨_, rfl⟩
    have hv := decN_le hd2
    have hld : (l.drop u).length ≤ 1000000000 := by rw [List.length_drop]; omega
    by_cases h0 : 0 < v
    · by_cases hn : n < 0 ∨ (((l.drop u).drop v).length : Int) < n
      · refine ⟨0, none, nos_second hd hd2 (by omega), Nat.zero_le _, fun _ => rfl, fun w g h => ?_⟩
        refine (count_no g (bs (l.drop u)) (bs ((l.drop u).drop v)) n v w h (by rw [bs_list]; exact hd2) h0 (by rw [bs_size]; exact hv) (dropE _ _) (by rw [bs_size]; omega) (by rw [bs_size]; exact hld)).mono ?_
        rintro e w' ⟨he, hr, hk⟩
        exact ⟨he, hr, hk⟩
      · obtain ⟨m, rfl⟩ : ∃ m : Nat, n = (m : Int) := ⟨n.toNat, by omega⟩
        have hle : ((l.drop u).drop v).length ≤ l.length := by rw [List.length_drop, List.length_drop]; omega
        refine ⟨m, some (bs ((l.drop u).drop v)), ⟨u, v, _, rfl, hd, hu0, hd2, h0, Pre.zero _, hle⟩, by omega, (fun h => by cases h), fun w g h => ?_⟩
        refine (count_yes g (bs (l.drop u)) (bs ((l.drop u).drop v)) m v w h (by rw [bs_list]; exact hd2) h0 (by rw [bs_size]; exact hv) (dropE _ _) (by rw [bs_size]; omega) (by rw [bs_size]; exact hld)).mono ?_
        rintro e w' ⟨he, hr, hk⟩
        exact ⟨he, hr, hk⟩
    · obtain rfl : v = 0 := by omega
      obtain rfl := decN_zero hd2
      refine ⟨0, none, nos_second hd hd2 (.inl rfl), Nat.zero_le _, fun _ => rfl, fun w g h => ?_⟩
      refine (count_no0 g (bs (l.drop u)) w h (by rw [bs_list]; exact hd2) (by rw [bs_size]; exact hld)).mono ?_
      rintro e w' ⟨he, hr, hk⟩
      exact ⟨he, hr, hk⟩
theorem text_st (l : List UInt8) (z : Int) (m : Nat) (hk : List ByteArray) (x : Option ByteArray) (h : St l z m hk x) (hkm : hk.length < m) (hl : l.length ≤ 1000000000) : ∃ (t : ByteArray) (y : Option ByteArray), St l z m (hk ++ [t]) y ∧ ∀ w g, RdP w g x →
    Calls Tryd.prog 36 #[.pointer (some ⟨g, 0, none⟩)] w fun e w' => e = .returned (.string t) ∧ RdP w' g y ∧ Kp [g] w w' := by
  cases x with
  | none =>
    refine ⟨⟨#[]⟩, none, h, fun w g ⟨r, hr⟩ => ?_⟩
    exact (text_bad g r w hr).mono fun e w' ⟨he, hr, hk⟩ => ⟨he, ⟨_, hr⟩, hk⟩
  | some r =>
    obtain ⟨u, v, rest, rfl, hd, hu0, hd2, hv0, hp, hle⟩ := h
    obtain ⟨⟨n, p⟩, hdr⟩ : ∃ p, decN rest = p := ⟨_, rfl⟩
    have hpl := decN_le hdr
    by_cases hok : 0 < p ∧ 0 ≤ n ∧ n ≤ (rest.length : Int) - p
    · obtain ⟨hp0, hn0, hn1⟩ := hok
      obtain ⟨j, rfl⟩ : ∃ j : Nat, n = (j : Int) := ⟨n.toNat, by omega⟩
      have hpj : p + j ≤ rest.length := by omega
      refine ⟨bs ((rest.drop p).take j), some (bs (rest.drop (p + j))), ⟨u, v, _, rfl, hd, hu0, hd2, hv0, hp.step hdr hp0 hpj (by omega) rfl, by rw [List.length_drop]; omega⟩, fun w g h => ?_⟩
      refine (text_yes g (bs rest) j p w h (by rw [bs_list]; exact hdr) hp0 (by rw [bs_size]; exact hpj) (by rw [bs_size]; omega)).mono ?_
      rintro e w' ⟨he, hr, hk⟩
      refine ⟨?_, ?_, hk⟩
      · rw [he, bs_extract]
        congr 2
        rw [List.drop_take]
        congr 2
        omega
      · rw [dropE] at hr; exact hr
    · have hno : p = 0 ∨ n < 0 ∨ (rest.length : Int) - p < n := by omega
      refine ⟨⟨#[]⟩, none, nos_nope hd hd2 (hp.nope hkm hdr hno), fun w g h => ?_⟩
      refine (text_no g (bs rest) n p w h (by rw [bs_list]; exact hdr) (by rw [bs_size]; omega) (by rw [bs_size]; exact hpl) (by rw [bs_size]; omega)).mono ?_
      rintro e w' ⟨he, hr, hk⟩
      exact ⟨he, ⟨_, hr⟩, hk⟩
/-- What the end of reading says. -/
def isEnd : Option ByteArray → Bool
  | none => false
  | some r => r.size == 0
theorem done_st (w : World) (g : Nat) : ∀ (x : Option ByteArray), RdP w g x → Calls Tryd.prog 37 #[.pointer (some ⟨g, 0, none⟩)] w fun e w' => e = .returned (.bool (isEnd x)) ∧ w = w'
  | none, ⟨r, h⟩ => (done_any g r true w h).mono fun e w' ⟨he, hw⟩ => ⟨by rw [he]; rfl, hw⟩
  | some r, h => (done_any g r false w h).mono fun e w' ⟨he, hw⟩ => ⟨by rw [he]; rfl, hw⟩
theorem end_yes {l : List UInt8} {z : Int} {m : Nat} {hs : List ByteArray} {x : Option ByteArray} (h : St l z m hs x) (hm : hs.length = m) (he : isEnd x = true) (hr : Rt z hs) : Prs l z hs := by
  cases x with
  | none => simp [isEnd] at he
  | some r =>
    obtain ⟨u, v, rest, rfl, hd, hu0, hd2, hv0, hp, hle⟩ := h
    have : rest = [] := by simpa [isEnd, bs_size] using he
    subst this
    exact prs_of hd hu0 (by rw [hm]; exact hd2) hv0 hr hp
theorem end_no {l : List UInt8} {z : Int} {m : Nat} {hs : List ByteArray} {x : Option ByteArray} (h : St l z m hs x) (hm : hs.length = m) (hn : isEnd x = false ∨ ¬ Rt z hs) : NoS l := by
  cases x with
  | none => exact h
  | some r =>
    obtain ⟨u, v, rest, rfl, hd, hu0, hd2, hv0, hp, hle⟩ := h
    intro z' hs' hp'
    have h1 := (hp'.first hd).1
    have h2 := hp'.second hd hd2
    obtain ⟨h3, h4⟩ := hp.done (hs := hs') (by omega) hp'.1.sz h2.2.2.1
    subst h3 h1 h4
    rcases hn with hn | hn
    · simp [isEnd, bs_size] at hn
    · exact hn hp'.1
end Go.Proofs.YtencpplopdogmaaDoor
namespace Go.Proofs.YtencpplopdogmaaDoor
set_option maxRecDepth 100000
open Go.RowKit
set_option linter.unusedVariables false

/-- What is known of the memory while a sheet is read: the sheet under way, the reader, all else as it was. -/
def Und2 (w3 : World) (g4 gr : Nat) (L : Value) (vk : Value) (w : World) : Prop := Kp [g4, gr] w3 w ∧ At w g4 25 #[L, vk] ∧ (g4 < w3.heap.size ∧ gr < w3.heap.size ∧ gr ≠ g4) ∧ ∀ g, vk.ownBlock = some g → w3.heap.size ≤ g ∧ g < w.heap.size
theorem Und2.kp {w3 w w' : World} {g4 gr : Nat} {L vk : Value} {S : List Nat} (h : Und2 w3 g4 gr L vk w) (k : Kp S w w') (hS : ∀ x ∈ S, w3.heap.size ≤ x) : Und2 w3 g4 gr L vk w' :=
  ⟨h.1.then k fun x hx hlt => by have := hS x hx; omega, h.2.1.kp k fun hm => by have := hS _ hm; have := h.2.2.1; omega, h.2.2.1, fun g hg => ⟨(h.2.2.2 g hg).1, Nat.lt_of_lt_of_le (h.2.2.2 g hg).2 k.size⟩⟩
theorem Und2.kpr {w3 w w' : World} {g4 gr : Nat} {L vk : Value} (h : Und2 w3 g4 gr L vk w) (k : Kp [gr] w w') : Und2 w3 g4 gr L vk w' :=
  ⟨h.1.then k (by simp), h.2.1.kp k fun hm => by have := h.2.2.1; simp at hm; omega, h.2.2.1, fun g hg => ⟨(h.2.2.2 g hg).1, Nat.lt_of_lt_of_le (h.2.2.2 g hg).2 k.size⟩⟩
theorem Und2.next {w3 w : World} {g4 gr k : Nat} {L vk v' : Value} {xs : List Value} {z : ByteArray} (h : Und2 w3 g4 gr L vk w) (hv : Grew w3.heap.size k xs z v' w) : Und2 w3 g4 gr L v' (w.setCell ⟨g4, 1, none⟩ v') ∧ (w.setCell ⟨g4, 1, none⟩ v').ownsRow w3.heap.size 9 1 v' (k + 1) (xs ++ [.string z]) := by
  have hne : ∀ g, v'.ownBlock = some g → g ∉ [g4] := fun g hg hm => by
    have h1 := (own_block_lt hv hg).1
    have h2 := h.2.2.1
    simp at hm
    omega
  have hk : Kp [g4] w (w.setCell ⟨g4, 1, none⟩ v') := (Kp.rfl_ _ _).set (by simp) _
  refine ⟨⟨h.1.then hk (by simp), h.2.1.set 1 v', h.2.2.1, fun g hg => ?_⟩, own_kp hv hk hne⟩
  have h1 := own_block_lt hv hg
  exact ⟨h1.1, Nat.lt_of_lt_of_le h1.2 hk.size⟩
/-- What the operations of a round of Parse leave. -/
def PaF (w3 : World) (g4 gr : Nat) (L vk : Value) (k : Nat) (xs : List Value) (t : ByteArray) (R R2 : World → Prop) (q : Nat) (v : Value) (w' : World) : Prop := match q with
  | 0 => v = .pointer (some ⟨g4, 1, none⟩)
  | 1 => v = vk
  | 2 => v = .pointer (some ⟨gr, 0, none⟩)
  | 3 => v = .string t ∧ R2 w'
  | 4 => One w3.heap.size vk t v w'
  | 5 => Grew w3.heap.size k xs t v w'
  | 6 => v = .pointer (some ⟨g4, 1, none⟩)
  | 8 => Und2 w3 g4 gr L vk w'
  | 9 => w'.ownsRow w3.heap.size 9 1 vk k xs
  | 10 => R w'
  | _ => True
/-- A fact of the reader's block alone. -/
def OfR (gr : Nat) (R : World → Prop) : Prop := ∀ (w w' : World) (S : List Nat), R w → Kp S w w' → gr ∉ S → R w'
theorem PaF.kp {w3 w w' : World} {g4 gr k : Nat} {L vk u : Value} {xs : List Value} {t : ByteArray} {R R2 : World → Prop} {S : List Nat} (j : Nat) (hK : Kp S w w') (hS : ∀ x ∈ S, vk.ownBlock = some x ∧ w3.heap.size ≤ x) (hj : S = [] ∨ (j ≠ 9 ∧ j ≠ 5))
    (hR : OfR gr R) (hR2 : OfR gr R2) (hgr : gr < w3.heap.size) (h : PaF w3 g4 gr L vk k xs t R R2 j u w) : PaF w3 g4 gr L vk k xs t R R2 j u w' := by
  have h6 : ∀ {v : Value} {n : Nat} {ys : List Value}, (j = 9 ∨ j = 5) → w.ownsRow w3.heap.size 9 1 v n ys → w'.ownsRow w3.heap.size 9 1 v n ys := fun hj6 ho => by
    have : S = [] := hj.resolve_right (by omega)
    subst this
    exact own_kp ho hK (by simp)
  have hg : gr ∉ S := fun hm => by have := (hS gr hm).2; omega
  rcases j with _|_|_|_|_|_|_|_|_|_|_|j
  all_goals first
    | exact h
    | exact One.kp h hK fun x hx => .inr (hS x hx).1
    | exact Und2.kp h hK fun x hx => (hS x hx).2
    | exact h6 (.inl rfl) h
    | exact h6 (.inr rfl) h
    | exact ⟨h.1, hR2 _ _ _ h.2 hK hg⟩
    | exact hR _ _ _ h hK hg
theorem PaF.kpr {w3 w w' : World} {g4 gr k : Nat} {L vk u : Value} {xs : List Value} {t : ByteArray} {R R2 : World → Prop} (j : Nat) (hK : Kp [gr] w w') (h3 : j ≠ 3) (h10 : j ≠ 10) (hgr : gr < w3.heap.size) (h : PaF w3 g4 gr L vk k xs t R R2 j u w) : PaF w3 g4 gr L vk k xs t R R2 j u w' := by
  have h6 : ∀ {v : Value} {n : Nat} {ys : List Value}, w.ownsRow w3.heap.size 9 1 v n ys → w'.ownsRow w3.heap.size 9 1 v n ys := fun ho => own_kp ho hK fun g hg hm => by
    have := (own_block_lt ho hg).1
    simp at hm
    omega
  rcases j with _|_|_|_|_|_|_|_|_|_|_|j
  all_goals first
    | exact h
    | exact One.kp h hK fun x hx => .inl (by simp at hx; omega)
    | exact Und2.kpr h hK
    | exact h6 h
    | exact absurd rfl h3
    | exact absurd rfl h10
def Parsed (l : List UInt8) (w : World) (e : Ending) (w' : World) : Prop :=
  (∃ z hs A c, e = .returned (.tuple #[.agg #[.int .i64 z, .slice A hs.length c], .int .i64 0]) ∧ Prs l z hs ∧ w'.ownsRow w.heap.size 9 1 (.slice A hs.length c) hs.length (hs.map Value.string) ∧ Kp [] w w') ∨
  (e = .returned (.tuple #[.agg #[.int .i64 0, .slice none 0 0], .int .i64 3]) ∧ NoS l ∧ Kp [] w w')

set_option maxRecDepth 100000 in
set_option maxHeartbeats 8000000 in
theorem sparse_any (s : ByteArray) (w : World) (hs : s.size ≤ 1000000000) :
    Calls Tryd.prog 19 #[.string s] w (Parsed s.data.toList w) := by
  obtain ⟨l, hl⟩ : ∃ l, s.data.toList = l := ⟨_, rfl⟩
  have hll : l.length ≤ 1000000000 := by rw [← hl]; simpa using hs
  have hsl : s = bs l := by rw [← hl, bs_of]
  obtain ⟨z, x, h1, hz, hN⟩ := num_st l hll
  obtain ⟨m, y0, hst, hml, -, hC⟩ := count_st l z x h1 hll
  have HN := Lib.hid hN
  have HC := Lib.hid hC
  have HST0 := Lib.hid hst
  have HSL := Lib.hid hsl
  have HZ := Lib.hid hz
  rw [hl]
  clear hl hsl hN hC hst h1 hz
  go_enter Tryd.func19, Tryd.ntmps19
  go_wp2_with fail
  have hk1 : Kp [] w (w.alloc (.cells #[.int .i64 0, .slice none 0 0] 25)) := (Kp.rfl_ [] w).alloc _
  have a1 : At (w.alloc (.cells #[.int .i64 0, .slice none 0 0] 25)) w.heap.size 25 #[.int .i64 0, .slice none 0 0] := At.new w _ _
  generalize w.alloc (.cells #[.int .i64 0, .slice none 0 0] 25) = w1 at *
  refine (read_any s w1).mono ?_
  rintro e w2 ⟨rfl, hr2, hk2⟩
  obtain ⟨gr, hgr⟩ : ∃ gr, w1.heap.size = gr := ⟨_, rfl⟩
  have hw1 := a1.lt
  rw [hgr] at hr2 hw1 ⊢
  have a2 := a1.kp hk2 (by simp)
  have hk02 := hk1.trans hk2
  have hgl := At.lt hr2
  rw [HSL.out] at hr2
  clear hgr hk1 hk2 a1
  go_wp2_with fail
  refine (HN.out _ _ hr2).mono ?_
  rintro e w3 ⟨rfl, hr3, hk3⟩
  have a3 := a2.kp hk3 (by simp; omega)
  have hs3 := hk3.size
  have hk03 : Kp [] w w3 := hk02.then hk3 (by simp; omega)
  clear hr2 a2 hk02 hk3
  go_wp2_with fail
  obtain ⟨g4, hg4⟩ : ∃ g4, w3.heap.size = g4 := ⟨_, rfl⟩
  have a4 : At (w3.alloc (.cells #[.int .i64 z, .slice none 0 0] 25)) g4 25 #[.int .i64 z, .slice none 0 0] := At.new_ hg4
  have b4 := a3.alloc (.cells #[.int .i64 z, .slice none 0 0] 25)
  have r4 := hr3.kp ((Kp.rfl_ [] w3).alloc (.cells #[.int .i64 z, .slice none 0 0] 25)) (by simp)
  have hk04 := hk03.alloc (.cells #[.int .i64 z, .slice none 0 0] 25)
  rw [hg4]
  have hne4 : gr ≠ g4 := by omega
  have hne5 : w.heap.size ≠ gr := by omega
  have hg4w : w.heap.size < g4 := by omega
  have hgrw : w.heap.size ≤ gr := by omega
  have hgl4 : gr < g4 := by omega
  generalize w3.alloc (.cells #[.int .i64 z, .slice none 0 0] 25) = w4 at *
  refine (HC.out _ _ r4).mono ?_
  rintro e w5 ⟨rfl, r5, k5⟩
  have a5 := a4.kp k5 (by simp; omega)
  have b5 := b4.kp k5 (by simp; omega)
  have hs5 := a5.lt
  have hk05 : Kp [] w w5 := hk04.then k5 (by simp; omega)
  have hgr5 : gr < w5.heap.size := by omega
  clear a4 b4 r4 hk04 k5 a3 hr3 hk03 hg4 hs3 hgl hw1
  go_wp2_with fail
  go_loopg [13] m (fun gk i wr => ∃ (k : Nat) (hk : List ByteArray) (v : Value) (y : Option ByteArray), m - k ≤ gk ∧ i = .int .i64 k ∧ k ≤ m ∧ hk.length = k ∧ Und2 w5 g4 gr (.int .i64 z) v wr ∧ wr.ownsRow w5.heap.size 9 1 v k (hk.map Value.string) ∧ RdP wr gr y ∧ St l z m hk y)
  case atStart => exact ⟨0, [], _, y0, by omega, rfl, Nat.zero_le _, rfl, ⟨Kp.rfl_ _ _, a5, ⟨hs5, hgr5, hne4⟩, by simp [Value.ownBlock]⟩, own_none _ _ _, r5, HST0.out⟩
  case round =>
    obtain ⟨k, hk, vk, y, hgk, rfl, hkm, hkl, hund, hown, hrd, hst⟩ := hrel
    have hszr := hund.1.size
    by_cases hlt : k < m
    · obtain ⟨t, y2, hst2, hT⟩ := text_st l z m hk y hst (by omega) hll
      have HST := Lib.hid hst2
      have HT := Lib.hid hT
      have hk9 : k ≤ 1099511627776 := by omega
      obtain ⟨xs, hxs⟩ : ∃ xs, hk.map Value.string = xs := ⟨_, rfl⟩
      rw [hxs] at hown
      have HXS := Lib.hid hxs
      clear hxs hst hst2 hT
      go_wp2_with fail
      have hT := HT.out
      have hgr := hgr5
      have RST : Hid (OfR gr fun w => RdP w gr y) := Lib.hid fun _ _ _ h k hS => h.kp k hS
      have RST2 : Hid (OfR gr fun w => RdP w gr y2) := Lib.hid fun _ _ _ h k hS => h.kp k hS
      refine region_gen (PaF w5 g4 gr (.int .i64 z) vk k xs t (fun w => RdP w gr y) (fun w => RdP w gr y2)) (fun i j => (i == 5 && j == 9) || (i == 3 && j == 10)) (by kernel_rfl) _ rfl (by kernel_rfl) (by kernel_rfl) (by kernel_rfl) (by kernel_rfl) ?_ ?_ ?_
      · intro j hj
        rcases j with _|_|_|_|_|_|_|_|_|_|_|j
        all_goals first
          | exact hund.kp ((Kp.rfl_ [] _).drew) (by simp)
          | exact own_kp hown ((Kp.rfl_ [] _).drew) (by simp)
          | exact hrd
          | exact trivial
          | exact absurd hj (by decide)
      · intro q o hqn ho av wv K hS H hK
        have hf4 : av.eval (.tmp 4) = .pointer (some ⟨gr, 0, none⟩) := (hS.2.2 4 (nofill (by kernel_rfl))).trans rfl
        have hf5 : av.eval (.tmp 5) = .pointer (some ⟨g4, 0, none⟩) := (hS.2.2 5 (nofill (by kernel_rfl))).trans rfl
        rcases q with _|_|_|_|_|_|_|q
        all_goals try (obtain rfl := Option.some.inj ho)
        · have e4 := gd hf5
          exact wpOp_value rfl rfl (v := .pointer (some ⟨g4, 1, none⟩)) (w' := wv) (by simp [execOp, go_sem, e4]) (hK _ _ rfl fun _ _ _ _ h => h)
        · have hU : Und2 w5 g4 gr (.int .i64 z) vk wv := H 8 (by kernel_rfl) (by kernel_rfl)
          have hc1 := hU.2.1.cell 1
          have e15 := gd (t := 15) (H 0 (by kernel_rfl) (by kernel_rfl))
          exact wpOp_value rfl rfl (v := vk) (w' := wv) (by simp [execOp, go_sem, e15, hc1]) (hK _ _ rfl fun _ _ _ _ h => h)
        · have e4 := gd hf4
          exact wpOp_value rfl rfl (v := .pointer (some ⟨gr, 0, none⟩)) (w' := wv) (by simp [execOp, go_sem, e4]) (hK _ _ rfl fun _ _ _ _ h => h)
        · have hU : Und2 w5 g4 gr (.int .i64 z) vk wv := H 8 (by kernel_rfl) (by kernel_rfl)
          have e17 := gd (t := 17) (H 2 (by kernel_rfl) (by kernel_rfl))
          have hR : RdP wv gr y := H 10 (by kernel_rfl) (by kernel_rfl)
          refine wpOp_call rfl rfl (f := 36) (args := #[.pointer (some ⟨gr, 0, none⟩)]) (w1 := wv) (by simp [execOp, go_sem, e17]) ?_
          refine (hT wv gr hR).mono ?_
          rintro e w8 ⟨rfl, r8, k8⟩
          exact ⟨_, rfl, hK _ _ ⟨rfl, r8⟩ fun j u hj hD h => PaF.kpr j k8 hj (by rintro rfl; simp at hD) hgr h⟩
        · have hU : Und2 w5 g4 gr (.int .i64 z) vk wv := H 8 (by kernel_rfl) (by kernel_rfl)
          have e18 := gd (t := 18) (And.left (H 3 (by kernel_rfl) (by kernel_rfl)))
          exact wpOp_value rfl rfl (v := .slice (some ⟨wv.heap.size, 0, none⟩) 1 1) (w' := wv.alloc (.cells #[.string t] 9)) (by simp [execOp, go_sem, e18]) (hK _ _ (One.new hU.1.size fun g hg => (hU.2.2.2 g hg).2) fun j u _ _ h => PaF.kp j ((Kp.rfl_ [] _).alloc _) (by simp) (.inl rfl) RST.out RST2.out hgr h)
        · have hU : Und2 w5 g4 gr (.int .i64 z) vk wv := H 8 (by kernel_rfl) (by kernel_rfl)
          have hrow : wv.ownsRow w5.heap.size 9 1 vk k xs := H 9 (by kernel_rfl) (by kernel_rfl)
          obtain ⟨h, e19, hb, hne, hl⟩ : One w5.heap.size vk t (av.tmps.getD 19 undef) wv := H 4 (by kernel_rfl) (by kernel_rfl)
          obtain ⟨v', w', hrun, h3, h4⟩ := exec_app (ev := av.eval) (.tmp 16) (.tmp 19) wv w5.heap.size h vk k xs t hrow (H 1 (by kernel_rfl) (by kernel_rfl)) e19 hl hU.1.size (by omega)
          refine wpOp_value rfl rfl (hrun _ rfl rfl) (hK _ _ h3 fun j u hj hD hh => PaF.kp j (Kp.of_grown (S := vk.ownBlock.toList) h4 fun x hx _ => by rw [hx]; simp) (fun x hx => ?_) (.inr ⟨?_, hj⟩) RST.out RST2.out hgr hh)
          · have hx : vk.ownBlock = some x := by simpa using hx
            exact ⟨hx, (hU.2.2.2 x hx).1⟩
          · rintro rfl
            simp at hD
        · have e4 := gd hf5
          exact wpOp_value rfl rfl (v := .pointer (some ⟨g4, 1, none⟩)) (w' := wv) (by simp [execOp, go_sem, e4]) (hK _ _ rfl fun _ _ _ _ h => h)
        · simp at hqn; omega
      · intro av wv hS H
        have hU : Und2 w5 g4 gr (.int .i64 z) vk wv := H 8 (by decide) (by kernel_rfl)
        have hG : Grew w5.heap.size k xs t (av.tmps.getD 20 undef) wv := H 5 (by decide) (by kernel_rfl)
        have hR2 : RdP wv gr y2 := And.right (H 3 (by decide) (by kernel_rfl))
        obtain ⟨v', hv'⟩ : ∃ v', av.tmps.getD 20 undef = v' := ⟨_, rfl⟩
        rw [hv'] at hG
        have e20 := gd hv'
        have e21 := gd (t := 21) (H 6 (by decide) (by kernel_rfl))
        have hc1 := hU.2.1.cell 1
        have hf1 := hU.2.1.frozen 1
        obtain ⟨hU2, hO2⟩ := hU.next hG
        obtain ⟨A', c', rfl, -⟩ := own_open hG
        refine wpOp_skipped rfl rfl rfl (w' := wv.setCell ⟨g4, 1, none⟩ (.slice A' (k + 1) c')) (by simp [execOp, go_sem, e20, e21, hc1, hf1]) ?_
        rw [same_fold hS [15, 16, 17, 18, 19, 20, 21] (by kernel_rfl) (by kernel_rfl)]
        simp only [List.foldl]
        simp only [Act.put, List.setIfInBounds_toArray, List.set_cons_succ, List.set_cons_zero]
        generalize av.tmps.getD 15 undef = v15
        generalize av.tmps.getD 16 undef = v16
        generalize av.tmps.getD 17 undef = v17
        generalize av.tmps.getD 18 undef = v18
        generalize av.tmps.getD 19 undef = v19
        generalize av.tmps.getD 20 undef = v20
        generalize av.tmps.getD 21 undef = v21
        have hR3 := hR2.kp ((Kp.rfl_ [g4] wv).set (p := ⟨g4, 1, none⟩) (by simp) (.slice A' (k + 1) c')) (by simp; exact hU.2.2.1.2.2)
        generalize wv.setCell ⟨g4, 1, none⟩ (.slice A' (k + 1) c') = w9 at *
        go_wp2_with fail
        go_roundg (m - (k + 1))
        case measure => omega
        case rel => exact ⟨k + 1, hk ++ [t], .slice A' (k + 1) c', y2, by omega, by go_num, by omega, by rw [List.length_append, hkl]; rfl, hU2, by rw [List.map_append, HXS.out]; exact hO2, hR3, HST.out⟩
    · obtain rfl : k = m := by omega
      obtain ⟨A, c, rfl, hLh, -⟩ := own_open hown
      have c0 : wr.cell? ⟨g4, 0, none⟩ = some (.int .i64 z) := hund.2.1.cell 0
      have c1 : wr.cell? ⟨g4, 1, none⟩ = some (.slice A k c) := hund.2.1.cell 1
      have r2 := b5.kp hund.1 (by simp; omega)
      have hk9 : Kp [] w wr := hk05.then hund.1 (by simp; omega)
      obtain ⟨b, hb⟩ : ∃ b, isEnd y = b := ⟨_, rfl⟩
      have HO := Lib.hid hown
      have HZ2 := HZ.out
      clear hown
      go_wp2_with fail
      refine (done_st wr gr y hrd).mono ?_
      rintro e w8 ⟨rfl, rfl⟩
      rw [hb]
      cases b
      · have HNO := Lib.hid (end_no hst hkl (.inl hb))
        obtain ⟨wv, hwv⟩ : ∃ wv, wr = wv := ⟨_, rfl⟩
        have hk' : Kp [] wr wv := by rw [hwv]; exact Kp.rfl_ _ _
        rw [hwv]
        have d2 := r2.kp hk' (by simp)
        have hkv := hk9.trans hk'
        have d0 : wv.cell? ⟨w.heap.size, 0, none⟩ = some (.int .i64 0) := d2.cell 0
        have d1 : wv.cell? ⟨w.heap.size, 1, none⟩ = some (.slice none 0 0) := d2.cell 1
        have f0 := d2.frozen 0
        have f1 := d2.frozen 1
        have s0 := cell_kp c0 hk' (by simp)
        have s1 := cell_kp c1 hk' (by simp)
        clear hwv hb
        go_wp2_with fail
        refine bodyPost_ret (results_sheet rfl _ _ _ _ _ rfl ((d2.set 0 (.int .i64 0)).set 1 (.slice none 0 0))) rfl ?_
        exact .inr ⟨rfl, HNO.out, hkv.then (((Kp.rfl_ [w.heap.size] wv).set (by simp) _).set (by simp) _) (by simp)⟩
      · go_wp2_with fail
        refine (scheck_any z A k c hk wr hLh (by omega) HZ2.1 HZ2.2).mono ?_
        rintro e wv ⟨rfl, hk'⟩
        have d2 := r2.kp hk' (by simp)
        have hkv := hk9.trans hk'
        have d0 : wv.cell? ⟨w.heap.size, 0, none⟩ = some (.int .i64 0) := d2.cell 0
        have d1 : wv.cell? ⟨w.heap.size, 1, none⟩ = some (.slice none 0 0) := d2.cell 1
        have f0 := d2.frozen 0
        have f1 := d2.frozen 1
        have s0 := cell_kp c0 hk' (by simp)
        have s1 := cell_kp c1 hk' (by simp)
        have HO2 := Lib.hid (own_base (own_kp HO.out hk' (by simp)) hk05.size)
        have HO3 := Lib.hid (own_kp HO.out hk' (by simp))
        by_cases hrt : Rt z hk
        · have HP := Lib.hid (end_yes hst hkl hb hrt)
          rw [if_pos hrt]
          clear hrt hb
          go_wp2_with fail
          have k9 : Kp [w.heap.size] wv ((wv.setCell ⟨w.heap.size, 0, none⟩ (.int .i64 z)).setCell ⟨w.heap.size, 1, none⟩ (.slice A k c)) := ((Kp.rfl_ _ _).set (by simp) _).set (by simp) _
          refine bodyPost_ret (results_sheet rfl _ _ _ _ _ rfl ((d2.set 0 (.int .i64 z)).set 1 (.slice A k c))) rfl ?_
          refine .inl ⟨z, hk, A, c, ?_, HP.out, ?_, hkv.then k9 (by simp)⟩
          · rw [hkl]; rfl
          · rw [hkl]
            refine own_kp HO2.out k9 fun g hg hm => ?_
            have h1 := own_block_lt HO3.out hg
            simp at hm
            omega
        · have HNO := Lib.hid (end_no hst hkl (.inr hrt))
          rw [if_neg hrt]
          clear hrt hb
          go_wp2_with fail
          refine bodyPost_ret (results_sheet rfl _ _ _ _ _ rfl ((d2.set 0 (.int .i64 0)).set 1 (.slice none 0 0))) rfl ?_
          exact .inr ⟨rfl, HNO.out, hkv.then (((Kp.rfl_ [w.heap.size] wv).set (by simp) _).set (by simp) _) (by simp)⟩
end Go.Proofs.YtencpplopdogmaaDoor
