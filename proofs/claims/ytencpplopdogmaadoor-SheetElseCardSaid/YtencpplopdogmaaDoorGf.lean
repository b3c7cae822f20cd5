/- Package sheet: the sheet that is made of bytes. · The document's own Make. -/
import Derived.Test.YtencpplopdogmaaDoorHb
import Derived.Test.YtencpplopdogmaaDoorRs
import Derived.Test.YtencpplopdogmaaDoorGe
import Derived.Laws.ResultCell
import Derived.Laws.Rows
namespace Go.Proofs.YtencpplopdogmaaDoor
set_option maxRecDepth 100000
open Go.RowKit
set_option linter.unusedVariables false

theorem own_base {w : World} {b b' : Nat} {e : TypeId} {v : Value} {n : Nat} {xs : List Value} (h : w.ownsRow b e 1 v n xs) (hb : b' ≤ b) : w.ownsRow b' e 1 v n xs := by
  obtain ⟨h1, h2⟩ := h
  refine ⟨h1, ?_⟩
  rcases h2 with h2 | ⟨g, cap, cur, e1, e2, r⟩
  · exact .inl h2
  · exact .inr ⟨g, cap, cur, e1, Nat.le_trans hb e2, r⟩
theorem sheet_size : (Tryd.prog.info? 25).map (·.size) = some 2 := by kernel_rfl
theorem results_sheet {fn : Func} {p u : Tmp} (h : fn.results = #[.cell p 25, .tmp u]) (tmps : Array Value) (w : World) (g : Nat) (x y : Value) (hp : tmps.getD p undef = .pointer (some ⟨g, 0, none⟩)) (ha : At w g 25 #[x, y]) :
    (results fn tmps).run Tryd.prog w = .ok (.tuple #[.agg #[x, y], tmps.getD u undef]) w := by
  rw [results_cell_tmp h]
  have h1 := run_loadVar_row (P := Tryd.prog) w g 25 25 #[x, y] (0, 0) _ ha Tryd.underlying25 rfl (by rw [sheet_size]; rfl)
  simp [hp, asAddr, h1, Result.andThen]
theorem one_cell (z : ByteArray) : ∀ u ∈ [Value.string z], u.oneCell' = true := by
  intro u hu
  obtain rfl : u = Value.string z := by simpa using hu
  rfl
/-- The step of appending, where its order is drawn. -/
theorem exec_app {ev : Operand → Value} (s x : Operand) (w : World) (base h : Nat) (v : Value) (k : Nat) (xs : List Value) (z : ByteArray)
    (hown : w.ownsRow base 9 1 v k xs) (hs : ev s = v) (hx : ev x = .slice (some ⟨h, 0, none⟩) 1 1) (hL : Ls w (some ⟨h, 0, none⟩) 1 [.string z]) (hb : base ≤ w.heap.size) (hl : k ≤ 1099511627776) :
    ∃ v' w', (∀ o : Oper, o.op = .call { callee := .builtin .append, args := #[s, x], argTypes := #[23, 23] } → o.type = 23 → (execOp ev o).run Tryd.prog w = .ok (.value v') w') ∧ w'.ownsRow base 9 1 v' (k + 1) (xs ++ [.string z]) ∧ w.grownBy w' v.ownBlock := by
  obtain ⟨i0, hi, hz, h1, h2⟩ := info_parts info_string
  obtain ⟨v', w', hrun, h3, h4, h5⟩ := run_app (P := Tryd.prog) w base 23 23 9 i0 _ 16 Tryd.underlying23 hi hz h1 h2 rfl v k xs hown (some ⟨h, 0, none⟩) 1 1 [.string z] hL (one_cell z) (by unfold maxLen; omega) (by omega) hb
  refine ⟨v', w', fun o ho hty => ?_, h3, h4⟩
  unfold execOp
  simp only [ho, hty, resolve, invoke, builtin, Sem.run_bind, Sem.run_pure, Result.andThen_ok, List.map_toArray, List.map_cons, List.map_nil, hs, hx, hrun]
/-- What a sheet's list of digests is put into. -/
def One (base : Nat) (vk : Value) (z : ByteArray) (v : Value) (w : World) : Prop := ∃ h, v = .slice (some ⟨h, 0, none⟩) 1 1 ∧ base ≤ h ∧ vk.ownBlock ≠ some h ∧ Ls w (some ⟨h, 0, none⟩) 1 [.string z]
theorem One.kp {base : Nat} {vk : Value} {z : ByteArray} {v : Value} {w w' : World} {S : List Nat} (h : One base vk z v w) (k : Kp S w w') (hS : ∀ x ∈ S, x < base ∨ vk.ownBlock = some x) : One base vk z v w' := by
  obtain ⟨h, e, h1, h2, h3⟩ := h
  refine ⟨h, e, h1, h2, h3.kp k fun _ ad e hm => ?_⟩
  injection e with e
  subst e
  rcases hS _ hm with h4 | h4
  · simp at h4; omega
  · exact h2 h4
theorem One.new {base : Nat} {vk : Value} {z : ByteArray} {w : World} (hb : base ≤ w.heap.size) (hv : ∀ g, vk.ownBlock = some g → g < w.heap.size) : One base vk z (.slice (some ⟨w.heap.size, 0, none⟩) 1 1) (w.alloc (.cells #[.string z] 9)) :=
  ⟨_, rfl, hb, fun e => by have := hv _ e; omega, Ls.of_at (At.new w 9 #[.string z])⟩
/-- The row behind one more text. -/
def Grew (base k : Nat) (xs : List Value) (z : ByteArray) (v : Value) (w : World) : Prop := w.ownsRow base 9 1 v (k + 1) (xs ++ [.string z])
/-- What is known of the memory: the sheet under way, all else as it was. -/
def Und (w3 : World) (g4 : Nat) (L : Value) (vk : Value) (w : World) : Prop := Kp [g4] w3 w ∧ At w g4 25 #[L, vk] ∧ g4 < w3.heap.size ∧ ∀ g, vk.ownBlock = some g → w3.heap.size ≤ g ∧ g < w.heap.size
theorem Und.kp {w3 w w' : World} {g4 : Nat} {L vk : Value} {S : List Nat} (h : Und w3 g4 L vk w) (k : Kp S w w') (hS : ∀ x ∈ S, w3.heap.size ≤ x) : Und w3 g4 L vk w' :=
  ⟨h.1.then k fun x hx hlt => by have := hS x hx; omega, h.2.1.kp k fun hm => by have := hS _ hm; have := h.2.2.1; omega, h.2.2.1, fun g hg => ⟨(h.2.2.2 g hg).1, Nat.lt_of_lt_of_le (h.2.2.2 g hg).2 k.size⟩⟩
/-- Behind the store of the row that grew. -/
theorem Und.next {w3 w : World} {g4 k : Nat} {L vk v' : Value} {xs : List Value} {z : ByteArray} (h : Und w3 g4 L vk w) (hv : Grew w3.heap.size k xs z v' w) : Und w3 g4 L v' (w.setCell ⟨g4, 1, none⟩ v') ∧ (w.setCell ⟨g4, 1, none⟩ v').ownsRow w3.heap.size 9 1 v' (k + 1) (xs ++ [.string z]) := by
  have hne : ∀ g, v'.ownBlock = some g → g ∉ [g4] := fun g hg hm => by
    have h1 := (own_block_lt hv hg).1
    have h2 := h.2.2.1
    simp at hm
    omega
  have hk : Kp [g4] w (w.setCell ⟨g4, 1, none⟩ v') := (Kp.rfl_ _ _).set (by simp) _
  refine ⟨⟨h.1.trans hk, h.2.1.set 1 v', h.2.2.1, fun g hg => ?_⟩, own_kp hv hk hne⟩
  have h1 := own_block_lt hv hg
  exact ⟨h1.1, Nat.lt_of_lt_of_le h1.2 hk.size⟩

/-- What the operations of Make's round leave. -/
def MkF (w3 : World) (g4 : Nat) (L vk : Value) (k : Nat) (xs : List Value) (c d : ByteArray) (q : Nat) (v : Value) (w' : World) : Prop := match q with
  | 0 => v = .pointer (some ⟨g4, 1, none⟩)
  | 1 => v = vk
  | 2 => v = .string c
  | 3 => One w3.heap.size vk c v w'
  | 4 => v = .string d
  | 5 => One w3.heap.size vk d v w'
  | 6 => Grew w3.heap.size k xs d v w'
  | 7 => v = .pointer (some ⟨g4, 1, none⟩)
  | 9 => Und w3 g4 L vk w'
  | 10 => w'.ownsRow w3.heap.size 9 1 vk k xs
  | _ => True
theorem MkF.kp {w3 w w' : World} {g4 k : Nat} {L vk u : Value} {xs : List Value} {c d : ByteArray} {S : List Nat} (j : Nat) (hK : Kp S w w') (hS : ∀ x ∈ S, vk.ownBlock = some x ∧ w3.heap.size ≤ x) (hj : S = [] ∨ (j ≠ 10 ∧ j ≠ 6)) (h : MkF w3 g4 L vk k xs c d j u w) : MkF w3 g4 L vk k xs c d j u w' := by
  have h6 : ∀ {v : Value} {n : Nat} {ys : List Value}, (j = 10 ∨ j = 6) → w.ownsRow w3.heap.size 9 1 v n ys → w'.ownsRow w3.heap.size 9 1 v n ys := fun hj6 ho => by
    have : S = [] := hj.resolve_right (by omega)
    subst this
    exact own_kp ho hK (by simp)
  rcases j with _|_|_|_|_|_|_|_|_|_|_|j
  all_goals first
    | exact h
    | exact One.kp h hK fun x hx => .inr (hS x hx).1
    | exact Und.kp h hK fun x hx => (hS x hx).2
    | exact h6 (.inl rfl) h
    | exact h6 (.inr rfl) h

def Made (z : Int) (hs : List ByteArray) (w : World) (e : Ending) (w' : World) : Prop :=
  ∃ A c, e = .returned (.tuple #[.agg #[.int .i64 z, .slice A hs.length c], .int .i64 0]) ∧ w'.ownsRow w.heap.size 9 1 (.slice A hs.length c) hs.length (hs.map Value.string) ∧ Kp [] w w'
theorem mkH_at {l : List UInt8} {k : Nat} {c : ByteArray} (h : (chunks l (cnt l.length))[k]? = some c) : (mkH l)[k]? = some (dgs c) := by unfold mkH; rw [List.getElem?_map, h]; rfl

set_option maxRecDepth 100000 in
set_option maxHeartbeats 8000000 in
theorem make_any (s : ByteArray) (w : World) (ht : Tbk w) (hs : s.size ≤ 512) :
    Calls Tryd.prog 10 #[.string s] w (Made s.size (mkH s.data.toList) w) := by
  obtain ⟨l, hl⟩ : ∃ l, s.data.toList = l := ⟨_, rfl⟩
  have hll : s.size = l.length := by rw [← hl]; simp
  obtain ⟨n, hn⟩ : ∃ n, cnt s.size = n := ⟨_, rfl⟩
  have hn8 : n ≤ 8 := by rw [← hn]; unfold cnt; omega
  obtain ⟨hm, hhm⟩ : ∃ hm, mkH l = hm := ⟨_, rfl⟩
  have hml : hm.length = n := by rw [← hhm, mkH_len, ← hll, hn]
  obtain ⟨cs, hcs⟩ : ∃ cs, chunks l n = cs := ⟨_, rfl⟩
  have hat : ∀ (k : Nat) (c : ByteArray), cs[k]? = some c → hm[k]? = some (dgs c) ∧ c.size ≤ 64 := by
    intro k c h
    refine ⟨by rw [← hhm]; exact mkH_at (by rw [← hll, hn, hcs]; exact h), ?_⟩
    rw [← hcs] at h
    unfold chunks at h
    rw [List.getElem?_map] at h
    cases h2 : (List.range n)[k]? with
    | none => rw [h2] at h; cases h
    | some i =>
      rw [h2] at h
      obtain rfl : bs (chk l i) = c := by simpa using h
      rw [bs_size]; unfold chk; rw [List.length_take]; omega
  have hfin : hm.take n = hm := List.take_of_length_le (by omega)
  rw [hl, hhm]
  have HAT := Lib.hid hat
  have HL := Lib.hid hl
  have HN := Lib.hid hn
  have HML := Lib.hid hml
  have HCS := Lib.hid hcs
  have HFIN := Lib.hid hfin
  clear hl hll hn hhm hml hcs hat hfin
  go_enter Tryd.func10, Tryd.ntmps10
  go_wp2_with fail
  have hk2 : Kp [] w ((w.alloc (.cells #[.int .i64 0, .slice none 0 0] 25)).alloc (.cells #[.int .i64 s.size, .slice none 0 0] 25)) := ((Kp.rfl_ [] w).alloc _).alloc _
  have a2 : At ((w.alloc (.cells #[.int .i64 0, .slice none 0 0] 25)).alloc (.cells #[.int .i64 s.size, .slice none 0 0] 25)) w.heap.size 25 #[.int .i64 0, .slice none 0 0] := (At.new w _ _).alloc _
  have a4 : At ((w.alloc (.cells #[.int .i64 0, .slice none 0 0] 25)).alloc (.cells #[.int .i64 s.size, .slice none 0 0] 25)) (w.heap.size + 1) 25 #[.int .i64 s.size, .slice none 0 0] := At.new_ (by simp)
  generalize (w.alloc (.cells #[.int .i64 0, .slice none 0 0] 25)).alloc (.cells #[.int .i64 s.size, .slice none 0 0] 25) = w2 at *
  refine (cut_any s _ (by omega)).mono ?_
  rintro e w3 ⟨v3, rfl, hown3, hk3⟩
  rw [HN.out, HL.out, HCS.out] at hown3
  obtain ⟨A3, c3, rfl, hL3, hA3, hnc3, hcm3⟩ := own_open hown3
  have hs2 := a4.lt
  have hs3 := hk3.size
  have b2 := a2.kp hk3 (by simp)
  have b4 := a4.kp hk3 (by simp)
  have hoff3 : 0 < n → ∀ ad, A3 = some ad → ad.block ∉ [w.heap.size + 1] := fun _ ad e hm => by have := hA3 ad e; simp at hm; omega
  have hk03 : Kp [] w w3 := hk2.trans hk3
  have ht3 : Tbk w3 := ht.kp hk03 (by simp)
  have hroots := ht.1
  clear a2 a4 hown3 hA3 hnc3
  obtain ⟨g4, hg4⟩ : ∃ g4, w.heap.size + 1 = g4 := ⟨_, rfl⟩
  go_wp2_with fail
  rw [hg4] at b4 hoff3 hs2
  go_loopg [17] n (fun gk i wr => ∃ (k : Nat) (v : Value), n - k ≤ gk ∧ i = .int .i64 k ∧ k ≤ n ∧ Und w3 g4 (.int .i64 s.size) v wr ∧ wr.ownsRow w3.heap.size 9 1 v k ((hm.take k).map Value.string))
  case atStart => exact ⟨0, _, by omega, rfl, Nat.zero_le _, ⟨Kp.rfl_ _ _, b4, by omega, by simp [Value.ownBlock]⟩, own_none _ _ _⟩
  case round =>
    obtain ⟨k, vk, hgk, rfl, hk, hund, hown⟩ := hrel
    have hL := hL3.kp hund.1 hoff3
    have hszr := hund.1.size
    by_cases hlt : k < n
    · obtain ⟨ad, c, rfl, hck, hcw⟩ := hL.str_at hlt
      obtain ⟨hdk, hc64⟩ := HAT.out k c hck
      have hst : hm.take (k + 1) = hm.take k ++ [dgs c] := by rw [List.take_add_one, hdk]; rfl
      have HST := Lib.hid hst
      have hob : ∀ g, vk.ownBlock = some g → w3.heap.size ≤ g ∧ g < wr.heap.size := fun g hg => own_block_lt hown hg
      have hdg : bs (shaW (flat [c])) = dgs c := by unfold dgs flat; simp
      have HDG := Lib.hid hdg
      have HF : Hid ((flat [c]).length ≤ maxLen) := Lib.hid (by simp [flat]; unfold maxLen; omega)
      have HZ : Hid (∀ z ∈ [c], z.size ≤ maxLen) := Lib.hid (by intro z hz; simp at hz; subst hz; unfold maxLen; omega)
      clear hdk hst hck hdg
      obtain ⟨d, hd⟩ : ∃ d, dgs c = d := ⟨_, rfl⟩
      rw [hd] at HST HDG
      clear hd
      go_wp2_with fail
      obtain ⟨xs, hxs⟩ : ∃ xs, (hm.take k).map Value.string = xs := ⟨_, rfl⟩
      rw [hxs] at hown
      have HXS := Lib.hid hxs
      clear hxs
      refine region_gen (MkF w3 g4 (.int .i64 s.size) vk k xs c d) (fun i j => i == 6 && j == 10) (by kernel_rfl) _ rfl (by kernel_rfl) (by kernel_rfl) (by kernel_rfl) (by kernel_rfl) ?_ ?_ ?_
      · intro j hj
        rcases j with _|_|_|_|_|_|_|_|_|_|_|j
        all_goals first
          | exact hund.kp ((Kp.rfl_ [] _).drew) (by simp)
          | exact own_kp hown ((Kp.rfl_ [] _).drew) (by simp)
          | exact trivial
          | exact absurd hj (by decide)
      · intro q o hqn ho av wv K hS H hK
        have hf4 : av.eval (.tmp 4) = .pointer (some ⟨g4, 0, none⟩) := (hS.2.2 4 (nofill (by kernel_rfl))).trans rfl
        have hf6 : av.eval (.tmp 6) = .string c := (hS.2.2 6 (nofill (by kernel_rfl))).trans rfl
        rcases q with _|_|_|_|_|_|_|_|q
        all_goals try (obtain rfl := Option.some.inj ho)
        · have e4 := gd hf4
          exact wpOp_value rfl rfl (v := .pointer (some ⟨g4, 1, none⟩)) (w' := wv) (by simp [execOp, go_sem, e4]) (hK _ _ rfl fun _ _ _ _ h => h)
        · have hU : Und w3 g4 (.int .i64 s.size) vk wv := H 9 (by kernel_rfl) (by kernel_rfl)
          have hc1 := hU.2.1.cell 1
          have e21 := gd (t := 21) (H 0 (by kernel_rfl) (by kernel_rfl))
          exact wpOp_value rfl rfl (v := vk) (w' := wv) (by simp [execOp, go_sem, e21, hc1]) (hK _ _ rfl fun _ _ _ _ h => h)
        · have e6 := gd hf6
          exact wpOp_value rfl rfl (v := .string c) (w' := wv) (by simp [execOp, go_sem, e6]) (hK _ _ rfl fun _ _ _ _ h => h)
        · have hU : Und w3 g4 (.int .i64 s.size) vk wv := H 9 (by kernel_rfl) (by kernel_rfl)
          have e23 := gd (t := 23) (H 2 (by kernel_rfl) (by kernel_rfl))
          exact wpOp_value rfl rfl (v := .slice (some ⟨wv.heap.size, 0, none⟩) 1 1) (w' := wv.alloc (.cells #[.string c] 9)) (by simp [execOp, go_sem, e23]) (hK _ _ (One.new hU.1.size fun g hg => (hU.2.2.2 g hg).2) fun j u _ _ h => MkF.kp j ((Kp.rfl_ [] _).alloc _) (by simp) (.inl rfl) h)
        · have hU : Und w3 g4 (.int .i64 s.size) vk wv := H 9 (by kernel_rfl) (by kernel_rfl)
          obtain ⟨h, e24, hb, hne, hl⟩ : One w3.heap.size vk c (av.tmps.getD 24 undef) wv := H 3 (by kernel_rfl) (by kernel_rfl)
          have e24 := gd e24
          refine wpOp_call rfl rfl (f := 25) (args := #[.slice (some ⟨h, 0, none⟩) 1 1]) (w1 := wv) (by simp [execOp, go_sem, e24]) ?_
          refine (sum_to (some ⟨h, 0, none⟩) 1 1 [c] d wv HDG.out (ht3.kp hU.1 (by simp; omega)) hl HZ.out HF.out (by unfold maxLen; omega)).mono ?_
          rintro e w8 ⟨rfl, k8⟩
          exact ⟨_, rfl, hK _ _ rfl fun j u _ _ h => MkF.kp j k8 (by simp) (.inl rfl) h⟩
        · have hU : Und w3 g4 (.int .i64 s.size) vk wv := H 9 (by kernel_rfl) (by kernel_rfl)
          have e25 := gd (t := 25) (H 4 (by kernel_rfl) (by kernel_rfl))
          exact wpOp_value rfl rfl (v := .slice (some ⟨wv.heap.size, 0, none⟩) 1 1) (w' := wv.alloc (.cells #[.string d] 9)) (by simp [execOp, go_sem, e25]) (hK _ _ (One.new hU.1.size fun g hg => (hU.2.2.2 g hg).2) fun j u _ _ h => MkF.kp j ((Kp.rfl_ [] _).alloc _) (by simp) (.inl rfl) h)
        · have hU : Und w3 g4 (.int .i64 s.size) vk wv := H 9 (by kernel_rfl) (by kernel_rfl)
          have hrow : wv.ownsRow w3.heap.size 9 1 vk k xs := H 10 (by kernel_rfl) (by kernel_rfl)
          have e22 := gd (t := 22) (H 1 (by kernel_rfl) (by kernel_rfl))
          obtain ⟨h, e26, hb, hne, hl⟩ : One w3.heap.size vk d (av.tmps.getD 26 undef) wv := H 5 (by kernel_rfl) (by kernel_rfl)
          obtain ⟨v', w', hrun, h3, h4⟩ := exec_app (ev := av.eval) (.tmp 22) (.tmp 26) wv w3.heap.size h vk k xs d hrow (H 1 (by kernel_rfl) (by kernel_rfl)) e26 hl hU.1.size (by omega)
          refine wpOp_value rfl rfl (hrun _ rfl rfl) (hK _ _ h3 fun j u hj hD hh => MkF.kp j (Kp.of_grown (S := vk.ownBlock.toList) h4 fun x hx _ => by rw [hx]; simp) (fun x hx => ?_) (.inr ⟨?_, hj⟩) hh)
          · have hx : vk.ownBlock = some x := by simpa using hx
            exact ⟨hx, (hU.2.2.2 x hx).1⟩
          · rintro rfl
            simp at hD
        · have e4 := gd hf4
          exact wpOp_value rfl rfl (v := .pointer (some ⟨g4, 1, none⟩)) (w' := wv) (by simp [execOp, go_sem, e4]) (hK _ _ rfl fun _ _ _ _ h => h)
        · simp at hqn; omega
      · intro av wv hS H
        have hU : Und w3 g4 (.int .i64 s.size) vk wv := H 9 (by decide) (by kernel_rfl)
        have hG : Grew w3.heap.size k xs d (av.tmps.getD 27 undef) wv := H 6 (by decide) (by kernel_rfl)
        obtain ⟨v', hv'⟩ : ∃ v', av.tmps.getD 27 undef = v' := ⟨_, rfl⟩
        rw [hv'] at hG
        have e27 := gd hv'
        have e28 := gd (t := 28) (H 7 (by decide) (by kernel_rfl))
        have hc1 := hU.2.1.cell 1
        have hf1 := hU.2.1.frozen 1
        obtain ⟨hU2, hO2⟩ := hU.next hG
        obtain ⟨A', c', rfl, -⟩ := own_open hG
        refine wpOp_skipped rfl rfl rfl (w' := wv.setCell ⟨g4, 1, none⟩ (.slice A' (k + 1) c')) (by simp [execOp, go_sem, e27, e28, hc1, hf1]) ?_
        rw [same_fold hS [21, 22, 23, 24, 25, 26, 27, 28] (by kernel_rfl) (by kernel_rfl)]
        simp only [List.foldl]
        generalize av.tmps.getD 21 undef = v21
        generalize av.tmps.getD 22 undef = v22
        generalize av.tmps.getD 23 undef = v23
        generalize av.tmps.getD 24 undef = v24
        generalize av.tmps.getD 25 undef = v25
        generalize av.tmps.getD 26 undef = v26
        generalize av.tmps.getD 27 undef = v27
        generalize av.tmps.getD 28 undef = v28
        generalize wv.setCell ⟨g4, 1, none⟩ (.slice A' (k + 1) c') = w9 at *
        go_wp2_with fail
        go_roundg (n - (k + 1))
        case measure => omega
        case rel => exact ⟨k + 1, .slice A' (k + 1) c', by omega, by go_num, by omega, hU2, by rw [HST.out, List.map_append, HXS.out]; exact hO2⟩
    · obtain rfl : k = n := by omega
      rw [HFIN.out] at hown
      obtain ⟨A, c, rfl, -⟩ := own_open hown
      have c0 : wr.cell? ⟨g4, 0, none⟩ = some (.int .i64 s.size) := hund.2.1.cell 0
      have c1 : wr.cell? ⟨g4, 1, none⟩ = some (.slice A k c) := hund.2.1.cell 1
      have hk9 : Kp [] w wr := hk03.then hund.1 (by simp; omega)
      have r2 := b2.kp hund.1 (by simp; omega)
      have d0 : wr.cell? ⟨w.heap.size, 0, none⟩ = some (.int .i64 0) := r2.cell 0
      have d1 : wr.cell? ⟨w.heap.size, 1, none⟩ = some (.slice none 0 0) := r2.cell 1
      have f0 := r2.frozen 0
      have f1 := r2.frozen 1
      have hbase := own_base hown (Nat.le_trans hk03.size (Nat.le_refl _))
      have HB := Lib.hid hbase
      have HO := Lib.hid hown
      clear hbase hown
      go_wp2_with fail
      have r3 := (r2.set 0 (.int .i64 s.size)).set 1 (.slice A k c)
      have k9 : Kp [w.heap.size] wr ((wr.setCell ⟨w.heap.size, 0, none⟩ (.int .i64 s.size)).setCell ⟨w.heap.size, 1, none⟩ (.slice A k c)) := ((Kp.rfl_ _ _).set (by simp) _).set (by simp) _
      have hb9 := own_kp HB.out k9 (fun g hg hm => by have h1 := own_block_lt HO.out hg; simp at hm; omega)
      have hk19 : Kp [] w ((wr.setCell ⟨w.heap.size, 0, none⟩ (.int .i64 s.size)).setCell ⟨w.heap.size, 1, none⟩ (.slice A k c)) := hk9.then k9 (by simp)
      generalize (wr.setCell ⟨w.heap.size, 0, none⟩ (.int .i64 s.size)).setCell ⟨w.heap.size, 1, none⟩ (.slice A k c) = w9 at *
      have x0 : w9.cell? ⟨w.heap.size, 0, none⟩ = some (.int .i64 s.size) := r3.cell 0
      have x1 : w9.cell? ⟨w.heap.size, 1, none⟩ = some (.slice A k c) := r3.cell 1
      refine bodyPost_ret (results_sheet rfl _ _ _ _ _ rfl r3) rfl ?_
      refine ⟨A, c, ?_, ?_, hk19⟩
      · rw [HML.out]; rfl
      · rw [HML.out]; exact hb9

def NotMade (w : World) (e : Ending) (w' : World) : Prop := e = .returned (.tuple #[.agg #[.int .i64 0, .slice none 0 0], .int .i64 4]) ∧ Kp [] w w'
set_option maxHeartbeats 1000000 in
theorem make_no (s : ByteArray) (w : World) (hs : 512 < s.size) (hz : s.size ≤ 9223372036854775807) :
    Calls Tryd.prog 10 #[.string s] w (NotMade w) := by
  have hsI : (512 : Int) < (s.size : Int) := by omega
  go_enter Tryd.func10, Tryd.ntmps10
  go_wp2_with fail
  refine bodyPost_ret (results_sheet rfl _ _ _ _ _ rfl (At.new w _ _)) rfl ?_
  exact ⟨rfl, (Kp.rfl_ _ _).alloc _⟩
end Go.Proofs.YtencpplopdogmaaDoor
namespace Go.Proofs.YtencpplopdogmaaDoor
set_option maxRecDepth 100000
open Go.RowKit
set_option linter.unusedVariables false

theorem cell_kp {w w' : World} {S : List Nat} {p : Addr} {x : Value} (h : w.cell? p = some x) (k : Kp S w w') (hS : p.block ∉ S) : w'.cell? p = some x := (k.cell (cell_block_lt h) hS).trans h
theorem rsum_dg (s d : ByteArray) (w : World) (hd : dgs s = d) (hs : s.size ≤ 1000000000) :
    Calls Tryd.prog 27 #[.string s] w fun e w' => e = .returned (.string d) ∧ Kp [] w w' := by
  rw [← hd]
  exact rsum_any s w hs
def RMkF (w3 : World) (g4 : Nat) (L : Value) (vk : Value) (k : Nat) (xs : List Value) (c : ByteArray) (d : ByteArray) (ad : Addr) (n : Nat) (c3 : Nat) (q : Nat) (v : Value) (w' : World) : Prop := match q with
  | 0 => v = .pointer (some ⟨g4, 1, none⟩)
  | 1 => v = vk
  | 2 => v = .slice (some ad) n c3
  | 3 => v = .int .i64 k
  | 4 => v = .pointer (some (ad.add k))
  | 5 => v = .string c
  | 6 => v = .string d
  | 7 => One w3.heap.size vk d v w'
  | 8 => Grew w3.heap.size k xs d v w'
  | 9 => v = .pointer (some ⟨g4, 1, none⟩)
  | 11 => Und w3 g4 L vk w'
  | 12 => w'.ownsRow w3.heap.size 9 1 vk k xs
  | 13 => ad.block < w3.heap.size ∧ w'.cell? (ad.add k) = some (.string c)
  | _ => True
theorem RMkF.kp {w3 : World} {g4 : Nat} {L : Value} {vk : Value} {k : Nat} {xs : List Value} {c : ByteArray} {d : ByteArray} {ad : Addr} {n : Nat} {c3 : Nat} {u : Value} {w w' : World} {S : List Nat} (j : Nat) (hK : Kp S w w') (hS : ∀ x ∈ S, vk.ownBlock = some x ∧ w3.heap.size ≤ x) (hj : S = [] ∨ (j ≠ 12 ∧ j ≠ 8)) (h : RMkF w3 g4 L vk k xs c d ad n c3 j u w) : RMkF w3 g4 L vk k xs c d ad n c3 j u w' := by
  have h6 : ∀ {v : Value} {n : Nat} {ys : List Value}, (j = 12 ∨ j = 8) → w.ownsRow w3.heap.size 9 1 v n ys → w'.ownsRow w3.heap.size 9 1 v n ys := fun hj6 ho => by
    have : S = [] := hj.resolve_right (by omega)
    subst this
    exact own_kp ho hK (by simp)
  rcases j with _|_|_|_|_|_|_|_|_|_|_|_|_|_|j
  all_goals first
    | exact h
    | exact One.kp h hK fun x hx => .inr (hS x hx).1
    | exact Und.kp h hK fun x hx => (hS x hx).2
    | exact h6 (.inl rfl) h
    | exact h6 (.inr rfl) h
    | exact ⟨h.1, cell_kp h.2 hK (by rw [addr_add_block]; intro hm; have h1 := h.1; have h2 := (hS _ hm).2; omega)⟩
set_option maxRecDepth 100000 in
set_option maxHeartbeats 8000000 in
theorem rmake_any (s : ByteArray) (w : World) (hs : s.size ≤ 512) :
    Calls Tryd.prog 11 #[.string s] w (Made s.size (mkH s.data.toList) w) := by
  obtain ⟨l, hl⟩ : ∃ l, s.data.toList = l := ⟨_, rfl⟩
  have hll : s.size = l.length := by rw [← hl]; simp
  obtain ⟨n, hn⟩ : ∃ n, cnt s.size = n := ⟨_, rfl⟩
  have hn8 : n ≤ 8 := by rw [← hn]; unfold cnt; omega
  obtain ⟨hm, hhm⟩ : ∃ hm, mkH l = hm := ⟨_, rfl⟩
  have hml : hm.length = n := by rw [← hhm, mkH_len, ← hll, hn]
  obtain ⟨cs, hcs⟩ : ∃ cs, chunks l n = cs := ⟨_, rfl⟩
  have hat : ∀ (k : Nat) (c : ByteArray), cs[k]? = some c → hm[k]? = some (dgs c) ∧ c.size ≤ 64 := by
    intro k c h
    refine ⟨by rw [← hhm]; exact mkH_at (by rw [← hll, hn, hcs]; exact h), ?_⟩
    rw [← hcs] at h
    unfold chunks at h
    rw [List.getElem?_map] at h
    cases h2 : (List.range n)[k]? with
    | none => rw [h2] at h; cases h
    | some i =>
      rw [h2] at h
      obtain rfl : bs (chk l i) = c := by simpa using h
      rw [bs_size]; unfold chk; rw [List.length_take]; omega
  have hfin : hm.take n = hm := List.take_of_length_le (by omega)
  rw [hl, hhm]
  have HAT := Lib.hid hat
  have HL := Lib.hid hl
  have HN := Lib.hid hn
  have HML := Lib.hid hml
  have HCS := Lib.hid hcs
  have HFIN := Lib.hid hfin
  clear hl hll hn hhm hml hcs hat hfin
  go_enter Tryd.func11, Tryd.ntmps11
  go_wp2_with fail
  have hk2 : Kp [] w ((w.alloc (.cells #[.int .i64 0, .slice none 0 0] 25)).alloc (.cells #[.int .i64 s.size, .slice none 0 0] 25)) := ((Kp.rfl_ [] w).alloc _).alloc _
  have a2 : At ((w.alloc (.cells #[.int .i64 0, .slice none 0 0] 25)).alloc (.cells #[.int .i64 s.size, .slice none 0 0] 25)) w.heap.size 25 #[.int .i64 0, .slice none 0 0] := (At.new w _ _).alloc _
  have a4 : At ((w.alloc (.cells #[.int .i64 0, .slice none 0 0] 25)).alloc (.cells #[.int .i64 s.size, .slice none 0 0] 25)) (w.heap.size + 1) 25 #[.int .i64 s.size, .slice none 0 0] := At.new_ (by simp)
  generalize (w.alloc (.cells #[.int .i64 0, .slice none 0 0] 25)).alloc (.cells #[.int .i64 s.size, .slice none 0 0] 25) = w2 at *
  refine (rcut_any s _ (by omega)).mono ?_
  rintro e w3 ⟨v3, rfl, hown3, hk3⟩
  rw [HN.out, HL.out, HCS.out] at hown3
  obtain ⟨A3, c3, rfl, hL3, hA3, hnc3, hcm3⟩ := own_open hown3
  have hs2 := a4.lt
  have hs3 := hk3.size
  have b2 := a2.kp hk3 (by simp)
  have b4 := a4.kp hk3 (by simp)
  have hoff3 : 0 < n → ∀ ad, A3 = some ad → ad.block ∉ [w.heap.size + 1] := fun _ ad e hm => by have := hA3 ad e; simp at hm; omega
  have hk03 : Kp [] w w3 := hk2.trans hk3
  clear a2 a4 hown3 hA3 hnc3
  obtain ⟨g4, hg4⟩ : ∃ g4, w.heap.size + 1 = g4 := ⟨_, rfl⟩
  go_wp2_with fail
  rw [hg4] at b4 hoff3 hs2
  go_loopg [6] n (fun gk i wr => ∃ (k : Nat) (v : Value), n - k ≤ gk ∧ i = .int .i64 k ∧ k ≤ n ∧ Und w3 g4 (.int .i64 s.size) v wr ∧ wr.ownsRow w3.heap.size 9 1 v k ((hm.take k).map Value.string))
  case atStart => exact ⟨0, _, by omega, rfl, Nat.zero_le _, ⟨Kp.rfl_ _ _, b4, by omega, by simp [Value.ownBlock]⟩, own_none _ _ _⟩
  case round =>
    obtain ⟨k, vk, hgk, rfl, hk, hund, hown⟩ := hrel
    have hL := hL3.kp hund.1 hoff3
    have hszr := hund.1.size
    by_cases hlt : k < n
    · obtain ⟨ad, c, rfl, hck, hcw⟩ := hL.str_at hlt
      obtain ⟨hdk, hc64⟩ := HAT.out k c hck
      have hst : hm.take (k + 1) = hm.take k ++ [dgs c] := by rw [List.take_add_one, hdk]; rfl
      have HST := Lib.hid hst
      have hob : ∀ g, vk.ownBlock = some g → w3.heap.size ≤ g ∧ g < wr.heap.size := fun g hg => own_block_lt hown hg
      have hdg : dgs c = dgs c := rfl
      clear hdk hst hck hdg
      have hltI : (k : Int) < (n : Int) := by omega
      have hadl : ad.block < w3.heap.size := by
        obtain ⟨ad', e, hb, _⟩ := hL3.2 (by omega)
        injection e with e
        subst e
        exact hb
      obtain ⟨d, hd⟩ : ∃ d, dgs c = d := ⟨_, rfl⟩
      rw [hd] at HST
      have HDG := Lib.hid hd
      clear hd
      go_wp2_with fail
      obtain ⟨xs, hxs⟩ : ∃ xs, (hm.take k).map Value.string = xs := ⟨_, rfl⟩
      rw [hxs] at hown
      have HXS := Lib.hid hxs
      clear hxs
      refine region_gen (RMkF w3 g4 (.int .i64 s.size) vk k xs c d ad n c3) (fun i j => (i == 8 && j == 12)) (by kernel_rfl) _ rfl (by kernel_rfl) (by kernel_rfl) (by kernel_rfl) (by kernel_rfl) ?_ ?_ ?_
      · intro j hj
        rcases j with _|_|_|_|_|_|_|_|_|_|_|_|_|_|j
        all_goals first
          | exact hund.kp ((Kp.rfl_ [] _).drew) (by simp)
          | exact own_kp hown ((Kp.rfl_ [] _).drew) (by simp)
          | exact ⟨hadl, hcw⟩
          | exact trivial
          | exact absurd hj (by decide)
      · intro q o hqn ho av wv K hS H hK
        have hf4 : av.eval (.tmp 4) = .pointer (some ⟨g4, 0, none⟩) := (hS.2.2 4 (nofill (by kernel_rfl))).trans rfl
        have hf5 : av.eval (.tmp 5) = .slice (some ad) n c3 := (hS.2.2 5 (nofill (by kernel_rfl))).trans rfl
        have hf6 : av.eval (.tmp 6) = .int .i64 k := (hS.2.2 6 (nofill (by kernel_rfl))).trans rfl
        rcases q with _|_|_|_|_|_|_|_|_|_|q
        all_goals try (obtain rfl := Option.some.inj ho)
        · have e4 := gd hf4
          exact wpOp_value rfl rfl (v := .pointer (some ⟨g4, 1, none⟩)) (w' := wv) (by simp [execOp, go_sem, e4]) (hK _ _ rfl fun _ _ _ _ h => h)
        · have hU : Und w3 g4 (.int .i64 s.size) vk wv := H 11 (by kernel_rfl) (by kernel_rfl)
          have hc1 := hU.2.1.cell 1
          have e22 := gd (t := 22) (H 0 (by kernel_rfl) (by kernel_rfl))
          exact wpOp_value rfl rfl (v := vk) (w' := wv) (by simp [execOp, go_sem, e22, hc1]) (hK _ _ rfl fun _ _ _ _ h => h)
        · have e5 := gd hf5
          exact wpOp_value rfl rfl (v := .slice (some ad) n c3) (w' := wv) (by simp [execOp, go_sem, e5]) (hK _ _ rfl fun _ _ _ _ h => h)
        · have e6 := gd hf6
          exact wpOp_value rfl rfl (v := .int .i64 k) (w' := wv) (by simp [execOp, go_sem, e6]) (hK _ _ rfl fun _ _ _ _ h => h)
        · have e24 := gd (t := 24) (H 2 (by kernel_rfl) (by kernel_rfl))
          have e25 := gd (t := 25) (H 3 (by kernel_rfl) (by kernel_rfl))
          exact wpOp_value rfl rfl (v := .pointer (some (ad.add k))) (w' := wv) (by simp [execOp, go_sem, e24, e25, hltI]) (hK _ _ rfl fun _ _ _ _ h => h)
        · have e26 := gd (t := 26) (H 4 (by kernel_rfl) (by kernel_rfl))
          have h13 : ad.block < w3.heap.size ∧ wv.cell? (ad.add k) = some (.string c) := H 13 (by kernel_rfl) (by kernel_rfl)
          have hcv := h13.2
          exact wpOp_value rfl rfl (v := .string c) (w' := wv) (by simp [execOp, go_sem, e26, hcv]) (hK _ _ rfl fun _ _ _ _ h => h)
        · have hU : Und w3 g4 (.int .i64 s.size) vk wv := H 11 (by kernel_rfl) (by kernel_rfl)
          have e27 := gd (t := 27) (H 5 (by kernel_rfl) (by kernel_rfl))
          refine wpOp_call rfl rfl (f := 27) (args := #[.string c]) (w1 := wv) (by simp [execOp, go_sem, e27]) ?_
          refine (rsum_dg c d wv HDG.out (by omega)).mono ?_
          rintro e w8 ⟨rfl, k8⟩
          exact ⟨_, rfl, hK _ _ rfl fun j u _ _ h => RMkF.kp j k8 (by simp) (.inl rfl) h⟩
        · have hU : Und w3 g4 (.int .i64 s.size) vk wv := H 11 (by kernel_rfl) (by kernel_rfl)
          have e28 := gd (t := 28) (H 6 (by kernel_rfl) (by kernel_rfl))
          exact wpOp_value rfl rfl (v := .slice (some ⟨wv.heap.size, 0, none⟩) 1 1) (w' := wv.alloc (.cells #[.string d] 9)) (by simp [execOp, go_sem, e28]) (hK _ _ (One.new hU.1.size fun g hg => (hU.2.2.2 g hg).2) fun j u _ _ h => RMkF.kp j ((Kp.rfl_ [] _).alloc _) (by simp) (.inl rfl) h)
        · have hU : Und w3 g4 (.int .i64 s.size) vk wv := H 11 (by kernel_rfl) (by kernel_rfl)
          have hrow : wv.ownsRow w3.heap.size 9 1 vk k xs := H 12 (by kernel_rfl) (by kernel_rfl)
          obtain ⟨h, e29, hb, hne, hl⟩ : One w3.heap.size vk d (av.tmps.getD 29 undef) wv := H 7 (by kernel_rfl) (by kernel_rfl)
          obtain ⟨v', w', hrun, h3, h4⟩ := exec_app (ev := av.eval) (.tmp 23) (.tmp 29) wv w3.heap.size h vk k xs d hrow (H 1 (by kernel_rfl) (by kernel_rfl)) e29 hl hU.1.size (by omega)
          refine wpOp_value rfl rfl (hrun _ rfl rfl) (hK _ _ h3 fun j u hj hD hh => RMkF.kp j (Kp.of_grown (S := vk.ownBlock.toList) h4 fun x hx _ => by rw [hx]; simp) (fun x hx => ?_) (.inr ⟨?_, hj⟩) hh)
          · have hx : vk.ownBlock = some x := by simpa using hx
            exact ⟨hx, (hU.2.2.2 x hx).1⟩
          · rintro rfl
            simp at hD
        · have e4 := gd hf4
          exact wpOp_value rfl rfl (v := .pointer (some ⟨g4, 1, none⟩)) (w' := wv) (by simp [execOp, go_sem, e4]) (hK _ _ rfl fun _ _ _ _ h => h)
        · simp at hqn; omega
      · intro av wv hS H
        have hU : Und w3 g4 (.int .i64 s.size) vk wv := H 11 (by decide) (by kernel_rfl)
        have hG : Grew w3.heap.size k xs d (av.tmps.getD 30 undef) wv := H 8 (by decide) (by kernel_rfl)
        obtain ⟨v', hv'⟩ : ∃ v', av.tmps.getD 30 undef = v' := ⟨_, rfl⟩
        rw [hv'] at hG
        have e30 := gd hv'
        have e31 := gd (t := 31) (H 9 (by decide) (by kernel_rfl))
        have hc1 := hU.2.1.cell 1
        have hf1 := hU.2.1.frozen 1
        obtain ⟨hU2, hO2⟩ := hU.next hG
        obtain ⟨A', c', rfl, -⟩ := own_open hG
        refine wpOp_skipped rfl rfl rfl (w' := wv.setCell ⟨g4, 1, none⟩ (.slice A' (k + 1) c')) (by simp [execOp, go_sem, e30, e31, hc1, hf1]) ?_
        rw [same_fold hS [22, 23, 24, 25, 26, 27, 28, 29, 30, 31] (by kernel_rfl) (by kernel_rfl)]
        simp only [List.foldl]
        generalize av.tmps.getD 22 undef = v22
        generalize av.tmps.getD 23 undef = v23
        generalize av.tmps.getD 24 undef = v24
        generalize av.tmps.getD 25 undef = v25
        generalize av.tmps.getD 26 undef = v26
        generalize av.tmps.getD 27 undef = v27
        generalize av.tmps.getD 28 undef = v28
        generalize av.tmps.getD 29 undef = v29
        generalize av.tmps.getD 30 undef = v30
        generalize av.tmps.getD 31 undef = v31
        generalize wv.setCell ⟨g4, 1, none⟩ (.slice A' (k + 1) c') = w9 at *
        go_wp2_with fail
        go_roundg (n - (k + 1))
        case measure => omega
        case rel => exact ⟨k + 1, .slice A' (k + 1) c', by omega, by go_num, by omega, hU2, by rw [HST.out, List.map_append, HXS.out]; exact hO2⟩
    · obtain rfl : k = n := by omega
      rw [HFIN.out] at hown
      obtain ⟨A, c, rfl, -⟩ := own_open hown
      have c0 : wr.cell? ⟨g4, 0, none⟩ = some (.int .i64 s.size) := hund.2.1.cell 0
      have c1 : wr.cell? ⟨g4, 1, none⟩ = some (.slice A k c) := hund.2.1.cell 1
      have hk9 : Kp [] w wr := hk03.then hund.1 (by simp; omega)
      have r2 := b2.kp hund.1 (by simp; omega)
      have d0 : wr.cell? ⟨w.heap.size, 0, none⟩ = some (.int .i64 0) := r2.cell 0
      have d1 : wr.cell? ⟨w.heap.size, 1, none⟩ = some (.slice none 0 0) := r2.cell 1
      have f0 := r2.frozen 0
      have f1 := r2.frozen 1
      have hbase := own_base hown (Nat.le_trans hk03.size (Nat.le_refl _))
      have HB := Lib.hid hbase
      have HO := Lib.hid hown
      clear hbase hown
      go_wp2_with fail
      have r3 := (r2.set 0 (.int .i64 s.size)).set 1 (.slice A k c)
      have k9 : Kp [w.heap.size] wr ((wr.setCell ⟨w.heap.size, 0, none⟩ (.int .i64 s.size)).setCell ⟨w.heap.size, 1, none⟩ (.slice A k c)) := ((Kp.rfl_ _ _).set (by simp) _).set (by simp) _
      have hb9 := own_kp HB.out k9 (fun g hg hm => by have h1 := own_block_lt HO.out hg; simp at hm; omega)
      have hk19 : Kp [] w ((wr.setCell ⟨w.heap.size, 0, none⟩ (.int .i64 s.size)).setCell ⟨w.heap.size, 1, none⟩ (.slice A k c)) := hk9.then k9 (by simp)
      generalize (wr.setCell ⟨w.heap.size, 0, none⟩ (.int .i64 s.size)).setCell ⟨w.heap.size, 1, none⟩ (.slice A k c) = w9 at *
      have x0 : w9.cell? ⟨w.heap.size, 0, none⟩ = some (.int .i64 s.size) := r3.cell 0
      have x1 : w9.cell? ⟨w.heap.size, 1, none⟩ = some (.slice A k c) := r3.cell 1
      refine bodyPost_ret (results_sheet rfl _ _ _ _ _ rfl r3) rfl ?_
      refine ⟨A, c, ?_, ?_, hk19⟩
      · rw [HML.out]; rfl
      · rw [HML.out]; exact hb9

set_option maxHeartbeats 1000000 in
theorem rmake_no (s : ByteArray) (w : World) (hs : 512 < s.size) (hz : s.size ≤ 9223372036854775807) :
    Calls Tryd.prog 11 #[.string s] w (NotMade w) := by
  have hsI : (512 : Int) < (s.size : Int) := by omega
  go_enter Tryd.func11, Tryd.ntmps11
  go_wp2_with fail
  refine bodyPost_ret (results_sheet rfl _ _ _ _ _ rfl (At.new w _ _)) rfl ?_
  exact ⟨rfl, (Kp.rfl_ _ _).alloc _⟩
end Go.Proofs.YtencpplopdogmaaDoor
