/- PackOne. -/
import Derived.Test.YtencjlkmpodghaaPkQ
namespace Go.Proofs.Ytencjlkmpodghaa
open Go.RowKit
set_option linter.unusedVariables false

/-- The step of appending one integer to a slice of integers of the call's own. -/
theorem wpl_one_int {ops : Array Oper} {rest : List Oper} {o : Oper} {a : Act} {Q : Exit → Act → World → Prop} (w0 : World) (base : Nat) (hgd : o.guard = none) (s x : Operand)
    (ho : o.op = .call { callee := .builtin .append, args := #[s, x], argTypes := #[22, 22] }) (v : Value) (l : List Int) (z : Int) (hown : w0.ownsRow base 3 1 v l.length (l.map (Value.int .i64)))
    (hs : a.eval s = v) (hx : a.eval x = .slice (some ⟨w0.heap.size, 0, none⟩) 1 1) (hb : base ≤ w0.heap.size) (hl : l.length ≤ 1099511627776)
    (h : ∀ v' w', w'.ownsRow base 3 1 v' (l ++ [z]).length ((l ++ [z]).map (Value.int .i64)) → Below base w0 w' → Kp (v.ownBlock.toList) w0 w' → wpList Try.prog ops Q rest (a.put o.dst v') w') :
    wpList Try.prog ops Q (o :: rest) a (w0.alloc (.cells #[.int .i64 z] 3)) := by
  obtain ⟨i0, hi, hz, h1, h2⟩ := info_parts info_int
  refine wpl_app _ hgd s x 22 ho base 3 i0 _ 8 Try.underlying22 hi hz h1 h2 rfl v l.length (l.map (Value.int .i64)) hs (own_kp hown ((Kp.rfl_ [] w0).alloc _) (by simp)) (some ⟨w0.heap.size, 0, none⟩) 1 1 [.int .i64 z] hx
    (Ls.of_at (At.new w0 _ _)) (by intro u hu; obtain rfl : u = Value.int .i64 z := by simpa using hu
                                   rfl) (by unfold maxLen; omega) (by omega) (by simp; omega) ?_
  intro v' w' hown' hg _
  refine h v' w' ?_ (((Below.refl _ _).alloc hb _).grown hg (by simp; omega) fun k hk => (own_block_lt hown hk).1) (((Kp.rfl_ _ _).alloc _).then (Kp.of_grown (S := v.ownBlock.toList) hg (fun k hk _ => Option.mem_toList.2 hk)) (fun _ h _ => h))
  rw [List.map_append, List.length_append]
  exact hown'

set_option maxRecDepth 100000 in
set_option maxHeartbeats 2000000 in
theorem pone (s : ByteArray) (w : World) (hs : s.size ≤ maxLen) :
    Calls Try.prog 7 #[.string s] w (Yes w) := by
  unfold maxLen at hs
  go_enter Try.func7, Try.ntmps7
  go_wp2_with fail
  refine (pawake _).mono ?_
  rintro e w1 ⟨rfl, hk1⟩
  by_cases hn : 4096 < s.size
  · go_wp2_with fail
    refine (pawake _).mono ?_
    rintro e w2 ⟨rfl, hk2⟩
    go_wp2_with fail
    go_ret
    exact ⟨rfl, hk1.trans hk2⟩
  go_wp2_with fail
  refine (read_any _ _).mono ?_
  rintro e w2 ⟨rfl, hr2, hk2⟩
  obtain ⟨g, hg⟩ : ∃ g, w1.heap.size = g := ⟨_, rfl⟩
  have hgw : w.heap.size ≤ g := by have := hk1.size; omega
  have hgs := hr2.cells.2.2.2.2
  have hkp2 := hk1.trans hk2
  have hsz2 := hk2.size
  rw [hg] at hr2 hgs hsz2
  rw [hg]
  clear hk1 hk2
  go_wp2_with fail
  go_loopg [3] (s.size + 1) (fun gk v wr => ∃ (l : List Int) (r : List UInt8) (sp : Bool), (if sp then 0 else r.length + 1) ≤ gk ∧ l.flatMap numB ++ r = s.data.toList ∧ l.length ≤ s.size - r.length ∧ r.length ≤ s.size ∧ (∀ z ∈ l, (Lit.int .i64 z).wf = true) ∧ wr.ownsRow w2.heap.size 3 1 v l.length (l.map (Value.int .i64)) ∧ Rdr wr g (bs r) sp ∧ Kp [] w wr ∧ w2.heap.size ≤ wr.heap.size)
  case atStart => exact ⟨[], s.data.toList, false, by simp, rfl, by simp, by simp, by simp, own_none _ _ _, by rw [bs_of]; exact hr2, hkp2, Nat.le_refl _⟩
  case round =>
    obtain ⟨l, r, sp, hgk, hcat, hll, hrl, hwf, hown, hr, hkp, hsz⟩ := hrel
    have hbr := bs_size r
    have HC := Lib.hid hcat
    clear hcat
    cases sp
    · simp only [Bool.false_eq_true, if_false] at hgk
      by_cases hr0 : r = []
      · subst hr0
        have HC2 : Hid (bs (l.flatMap numB) = s) := Lib.hid (by rw [← bs_of s, ← HC.out, List.append_nil])
        go_wp2_with fail
        refine (good_any g _ _ _ hr).mono ?_
        rintro e w3 ⟨rfl, rfl⟩
        go_wp2_with fail
        refine (left_any g _ _ _ hr).mono ?_
        rintro e w3 ⟨rfl, rfl⟩
        go_wp2_with fail
        refine (good_any g _ _ _ hr).mono ?_
        rintro e w3 ⟨rfl, rfl⟩
        go_wp2_with fail
        refine (done_any g _ _ _ hr).mono ?_
        rintro e w3 ⟨rfl, rfl⟩
        obtain ⟨A, c, rfl, hL, -, hlc, hcm⟩ := own_open hown
        go_wp2_with fail
        refine (nums_to A l.length c l s _ HC2.out hL hwf (by omega)).mono ?_
        rintro e w4 ⟨rfl, hk4⟩
        go_wp2_with fail
        go_ret
        exact ⟨ret_bool (by simp), hkp.trans hk4⟩
      · have hrp : 0 < r.length := List.length_pos_iff.2 hr0
        obtain ⟨n, u, hd⟩ : ∃ n u, decN r = (n, u) := ⟨_, _, rfl⟩
        go_wp2_with fail
        refine (good_any g _ _ _ hr).mono ?_
        rintro e w3 ⟨rfl, rfl⟩
        go_wp2_with fail
        refine (left_any g _ _ _ hr).mono ?_
        rintro e w3 ⟨rfl, rfl⟩
        rw [hbr]
        go_wp2_with fail
        by_cases hu : u = 0
        · subst hu
          obtain rfl := decN_zero hd
          refine (num_no g _ _ hr hd (by omega)).mono ?_
          rintro e w4 ⟨rfl, hr4, hk4⟩
          have hkp4 := hkp.then hk4 (by simp; omega)
          have hown4 := own_kp hown hk4 (by intro k hk; have := (own_block_lt hown hk).1; simp; omega)
          have hs4 := hk4.size
          obtain ⟨A, c, rfl, hL, -, hlc, hcm⟩ := own_open hown4
          go_wp2_with fail
          refine (good_any g _ _ _ hr4).mono ?_
          rintro e w5 ⟨rfl, rfl⟩
          go_wp2_with fail
          go_roundg 0
          case measure => omega
          case rel => exact ⟨l, r, true, by simp, HC.out, hll, hrl, hwf, hown4, hr4, hkp4, by omega⟩
        · obtain ⟨htk, hul, hn1, hn2⟩ := decN_some hd (by omega)
          have hcat2 : (l ++ [n]).flatMap numB ++ r.drop u = s.data.toList := by
            have e : numB n ++ r.drop u = r := by rw [← htk, List.take_append_drop]
            rw [← HC.out, List.flatMap_append]
            simp only [List.flatMap_cons, List.flatMap_nil, List.append_nil, List.append_assoc, e]
          have HC2 := Lib.hid hcat2
          have hwf2 : ∀ z ∈ l ++ [n], (Lit.int .i64 z).wf = true := by
            intro z hz
            rcases List.mem_append.1 hz with h | h
            · exact hwf z h
            · obtain rfl : z = n := by simpa using h
              exact WalkArith.wf_i64 (by omega)
          have HW := Lib.hid hwf2
          have hex : (bs r).extract u (bs r).size = bs (r.drop u) := by rw [bs_extract, hbr, List.take_length]
          clear hcat2 hwf2 htk
          refine (num_to g _ (bs (r.drop u)) n u _ hr hd (by omega) (by omega) (by omega) hex).mono ?_
          rintro e w4 ⟨rfl, hr4, hk4⟩
          have hkp4 := hkp.then hk4 (by simp; omega)
          have hown4 := own_kp hown hk4 (by intro k hk; have := (own_block_lt hown hk).1; simp; omega)
          have hs4 := hk4.size
          have hb4 : w2.heap.size ≤ w4.heap.size := by omega
          clear hown hr hk4 hex
          go_wp2_with fail
          refine (good_any g _ _ _ hr4).mono ?_
          rintro e w5 ⟨rfl, rfl⟩
          go_wp2_with (at_builtin; refine wpl_one_int w4 w2.heap.size rfl _ _ rfl _ l n hown4 rfl rfl hb4 (by omega) ?_; intro v5 w5 hown5 hbl5 hk5; obtain ⟨A5, c5, rfl, hL5, -, hlc5, hcm5⟩ := own_open hown5)
          have hr5 : Rdr w5 g (bs (r.drop u)) false := At.kp hr4 hk5 (by
            intro hm
            rw [Option.mem_toList] at hm
            have := (own_block_lt hown4 hm).1
            omega)
          have hkp5 := hkp4.tr hk5 (T := []) (by
            intro x hx hm
            rcases hm with hm | hm
            · cases hm
            · rw [Option.mem_toList] at hm
              have := (own_block_lt hown4 hm).1
              omega)
          have hs5 := hk5.size
          have hdl : (r.drop u).length = r.length - u := by simp
          have hll2 : (l ++ [n]).length = l.length + 1 := by simp
          go_wp2_with fail
          go_roundg (r.length - u + 1)
          case measure => omega
          case rel => exact ⟨l ++ [n], r.drop u, false, by simp, HC2.out, by omega, by omega, HW.out, by rw [hll2] at hown5 ⊢; exact hown5, hr5, hkp5, by omega⟩
    · go_wp2_with fail
      refine (good_any g _ _ _ hr).mono ?_
      rintro e w3 ⟨rfl, rfl⟩
      go_wp2_with fail
      refine (good_any g _ _ _ hr).mono ?_
      rintro e w3 ⟨rfl, rfl⟩
      go_wp2_with fail
      go_ret
      exact ⟨rfl, hkp⟩
theorem pone_walk (v0 : Value) (w : World) (i0 : In w 9 v0) : Calls Try.prog 7 #[v0] w (Yes w) := by
  obtain ⟨s, rfl, hs⟩ := in_string Try.underlying9 i0
  exact pone s w hs
end Go.Proofs.Ytencjlkmpodghaa
