/- The laws of sheet: two sheets compared, a sheet of one's own, how much is played, awake. · The laws of sheet: awake, SheetMakes, SheetBack. · SheetMakes, SheetBack. · SheetBack. -/
import Derived.Test.YtencpplopdogmaaDoorHj
import Derived.Test.YtencpplopdogmaaDoorSame
import Derived.Test.YtencpplopdogmaaDoorSz
import Derived.Lib.SmallJoins
namespace Go.Proofs.YtencpplopdogmaaDoor
set_option maxRecDepth 100000
open Go.RowKit
set_option linter.unusedVariables false

set_option maxHeartbeats 2000000 in
theorem ssame_to (z z' : Int) (A B : Option Addr) (n c m d : Nat) (hs hs' : List ByteArray) (b : Bool) (w : World) (hb : decide (z = z' ∧ hs = hs') = b) (hA : Ls w A n (hs.map Value.string)) (hB : Ls w B m (hs'.map Value.string)) (hn : n ≤ 1099511627776) (hm : m ≤ 1099511627776) :
    Calls Tryd.prog 12 #[.agg #[.int .i64 z, .slice A n c], .agg #[.int .i64 z', .slice B m d]] w fun e w' => e = .returned (.bool b) ∧ Kp [] w w' := by
  by_cases hz : z = z'
  · subst hz
    have hb2 : decide (hs = hs') = b := by rw [← hb]; simp
    have HB := Lib.hid hb2
    clear hb hb2
    go_enter Tryd.func12, Tryd.ntmps12
    go_wp2_with fail
    have hk2 : Kp [] w ((w.alloc (.cells #[.int .i64 z, .slice A n c] 25)).alloc (.cells #[.int .i64 z, .slice B m d] 25)) := ((Kp.rfl_ [] w).alloc _).alloc _
    refine (same_to A B n c m d hs hs' b _ HB.out (hA.kp hk2 (by simp)) (hB.kp hk2 (by simp)) hn hm).mono ?_
    rintro e w3 ⟨rfl, hk3⟩
    go_wp2_with fail
    go_ret
    exact ⟨rfl, hk2.trans hk3⟩
  · have hbf : b = false := by rw [← hb]; exact decide_eq_false fun h => hz h.1
    subst hbf
    have hzb : (z == z') = false := by rw [beq_eq_false_iff_ne]; exact hz
    clear hb
    go_enter Tryd.func12, Tryd.ntmps12
    go_wp2_with fail
    go_ret
    exact ⟨rfl, ((Kp.rfl_ [] w).alloc _).alloc _⟩

theorem results_one {fn : Func} {p : Tmp} (h : fn.results = #[.cell p 25]) (tmps : Array Value) (w : World) (g : Nat) (x y : Value) (hp : tmps.getD p undef = .pointer (some ⟨g, 0, none⟩)) (ha : At w g 25 #[x, y]) :
    (results fn tmps).run Tryd.prog w = .ok (.agg #[x, y]) w :=
  results_cell_row h tmps w g 25 #[x, y] (0, 0) _ hp ha Tryd.underlying25 rfl (by rw [sheet_size]; rfl)
def Owned (z : Int) (n : Nat) (hs : List ByteArray) (w : World) (e : Ending) (w' : World) : Prop := ∃ A c, e = .returned (.agg #[.int .i64 z, .slice A n c]) ∧ w'.ownsRow w.heap.size 9 1 (.slice A n c) n (hs.map Value.string) ∧ Kp [] w w'
set_option maxHeartbeats 2000000 in
theorem sown_any (z : Int) (A : Option Addr) (n c : Nat) (hs : List ByteArray) (w : World) (hL : Ls w A n (hs.map Value.string)) (hn : n * 16 ≤ 140737488355328) :
    Calls Tryd.prog 15 #[.agg #[.int .i64 z, .slice A n c]] w (Owned z n hs w) := by
  obtain ⟨w0, hw0⟩ : ∃ w0, (w.alloc (.cells #[.int .i64 z, .slice A n c] 25)).alloc (.cells #[.int .i64 0, .slice none 0 0] 25) = w0 := ⟨_, rfl⟩
  have hk0 : Kp [] w w0 := by rw [← hw0]; exact ((Kp.rfl_ [] w).alloc _).alloc _
  have a1 : At w0 w.heap.size 25 #[.int .i64 z, .slice A n c] := by rw [← hw0]; exact (At.new w _ _).alloc _
  have a2 : At w0 (w.heap.size + 1) 25 #[.int .i64 0, .slice none 0 0] := by rw [← hw0]; exact At.new_ (by simp)
  have hL0 := hL.kp hk0 (by simp)
  have hs0 := a2.lt
  have hs1 : w0.heap.size = w.heap.size + 1 + 1 := by rw [← hw0]; simp
  have c1 : w0.cell? ⟨w.heap.size, 1, none⟩ = some (.slice A n c) := a1.cell 1
  go_enter Tryd.func15, Tryd.ntmps15
  go_wp2_with (at_builtin; (try rw [hw0]); refine wpl_copy_str w0 rfl _ _ rfl A n c hs (by rw [hs1]; rfl) rfl hL0 hn ?_; intro v2 w2 hown2 hk2; obtain ⟨A2, c2, rfl, hL2, -⟩ := own_open hown2; have b1 := a1.kp hk2 (by simp); have b2 := a2.kp hk2 (by simp); have q0 : w2.cell? ⟨w.heap.size, 0, none⟩ = some (.int .i64 z) := b1.cell 0; have q1 : w2.cell? ⟨w.heap.size, 1, none⟩ = some (.slice A n c) := b1.cell 1; have f1 := b1.frozen 1; have p0 : w2.cell? ⟨w.heap.size + 1, 0, none⟩ = some (.int .i64 0) := b2.cell 0; have p1 : w2.cell? ⟨w.heap.size + 1, 1, none⟩ = some (.slice none 0 0) := b2.cell 1; have g0 := b2.frozen 0; have g1 := b2.frozen 1)
  have k9 : Kp [w.heap.size, w.heap.size + 1] w2 (((w2.setCell ⟨w.heap.size, 1, none⟩ (.slice A2 n c2)).setCell ⟨w.heap.size + 1, 0, none⟩ (.int .i64 z)).setCell ⟨w.heap.size + 1, 1, none⟩ (.slice A2 n c2)) := (((Kp.rfl_ _ _).set (by simp) _).set (by simp) _).set (by simp) _
  have hown9 := own_kp hown2 k9 fun g hg hm => by
    have h1 := own_block_lt hown2 hg
    simp at hm
    omega
  refine bodyPost_ret (results_one rfl _ _ _ _ _ rfl (((b2.far (p := ⟨w.heap.size, 1, none⟩) (by simp) _).set 0 (.int .i64 z)).set 1 (.slice A2 n c2))) rfl ?_
  exact ⟨A2, c2, rfl, own_base hown9 hk0.size, (hk0.trans hk2).then k9 (by simp)⟩

section
open Go.ChangeShapes Go.WideShapes Go.Joins
theorem rds_strs {W : World} {v : Value} (h : RdS W 23 [v]) : ∃ (A : Option Addr) (n c : Nat) (zs : List ByteArray), v = .slice A n c ∧ n ≤ c ∧ c ≤ maxLen ∧ c * 16 ≤ reachBytes ∧ Ls W A n (zs.map Value.string) ∧ ∀ z ∈ zs, z.size ≤ maxLen := by
  obtain ⟨A, n, c, xs, rfl, h1, h2, h3, h4, h5⟩ := rds_slice Tryd.underlying23 (by kernel_rfl) h
  obtain ⟨zs, rfl, hz⟩ := strings_of fun u hu => rd_string Tryd.underlying9 (h5 u hu).rd
  have hb : Tryd.prog.bytesOf 9 = 16 := by kernel_rfl
  rw [hb] at h3
  exact ⟨A, n, c, zs, rfl, h1, h2, h3, h4, hz⟩
theorem ins_strs {W : World} {v : Value} (h : InS W 23 v) : ∃ (A : Option Addr) (n c : Nat) (zs : List ByteArray), v = .slice A n c ∧ n ≤ c ∧ c ≤ maxLen ∧ c * 16 ≤ reachBytes ∧ Ls W A n (zs.map Value.string) ∧ ∀ z ∈ zs, z.size ≤ maxLen :=
  rds_strs (in_rds_slice Tryd.underlying23 h)
theorem ins_sheet {W : World} {v : Value} (h : InS W 25 v) : ∃ (a : Int) (A : Option Addr) (n c : Nat) (zs : List ByteArray), v = .agg #[.int .i64 a, .slice A n c] ∧ (Lit.int .i64 a).wf = true ∧ n ≤ c ∧ c ≤ maxLen ∧ c * 16 ≤ reachBytes ∧ Ls W A n (zs.map Value.string) ∧ ∀ z ∈ zs, z.size ≤ maxLen := by
  obtain ⟨⟨r, b0, hv⟩, H, enc, fuel, ⟨d, p⟩, hx, hw⟩ := h
  obtain ⟨c0, c1, y0, y1, m, rfl, hd, -, h0, h1⟩ := open_agg2 (P := Tryd.prog) Tryd.underlying25 (by kernel_rfl) (by kernel_rfl) hv ⟨fuel, hx⟩
  obtain ⟨a, e0, -, wa⟩ := DataW.trod_int Tryd.underlying3 h0
  simp at e0
  subst e0
  have hr : RdS W 23 [c1] := ⟨H, enc, m, y1, h1, fun k hk => hw k (by
    rw [show (d, p).1 = d from rfl, hd]
    simp only [DataW.weights, Tryd.underlying25, List.map_cons, List.map_nil, DataW.weightsEach, List.mem_append]
    exact .inr (.inl hk))⟩
  obtain ⟨A, n, c, zs, rfl, h2⟩ := rds_strs hr
  exact ⟨a, A, n, c, zs, rfl, wa, h2⟩
end

def Grt (hs cs : List ByteArray) (w : World) (e : Ending) (w' : World) : Prop := ∃ b : Bool, e = .returned (.bool b) ∧ Kp [] w w' ∧ (b = false → hs.length + cs.length + (flat hs).length + (flat cs).length ≤ 3000)
theorem idx2 (x y v : Value) (t : Nat) (ht : t < 2) (h : (#[x, y] : Array Value)[t]? = some v) (w : World) : (Instr.index 54 (.agg #[x, y]) (.int .i64 (t : Int))).run Tryd.prog w = .ok v w := by
  have har : Tryd.prog.arrayLen 54 = 2 := by kernel_rfl
  have hel : Tryd.prog.elem 54 = 23 := by kernel_rfl
  have hsz : (sizeOf 23).run Tryd.prog w = .ok 1 w := by kernel_rfl
  have hu : Tryd.prog.underlying 54 = some (.array (Tryd.prog.arrayLen 54) (Tryd.prog.elem 54)) := by kernel_rfl
  rw [har, hel] at hu
  have hb : (0 : Int) ≤ (t : Int) ∧ (t : Int) < ((2 : Nat) : Int) := by omega
  rcases t with _|_|t
  · simp at h
    subst h
    simp [Instr.index, run_underlying hu, asIntOf, go_sem, hsz, part]
  · simp at h
    subst h
    simp [Instr.index, run_underlying hu, asIntOf, go_sem, hsz, part]
  · omega
def sumTo (hs cs : List ByteArray) : Nat → Nat
  | 0 => 0
  | 1 => (flat hs).length
  | _ => (flat hs).length + (flat cs).length
theorem flat_at {ss : List ByteArray} {k : Nat} {s : ByteArray} (h : ss[k]? = some s) : (flat (ss.take (k + 1))).length = (flat (ss.take k)).length + s.size := by rw [flat_succ h]; simp
set_option maxRecDepth 100000 in
set_option maxHeartbeats 8000000 in
theorem great_any (z : Int) (A B : Option Addr) (n c m d : Nat) (hs cs : List ByteArray) (w : World) (hL : Ls w A n (hs.map Value.string)) (hC : Ls w B m (cs.map Value.string)) (hn : n ≤ 17592186044416) (hm : m ≤ 17592186044416) (hz1 : ∀ x ∈ hs, x.size ≤ maxLen) (hz2 : ∀ x ∈ cs, x.size ≤ maxLen) :
    Calls Tryd.prog 13 #[.agg #[.int .i64 z, .slice A n c], .slice B m d] w (Grt hs cs w) := by
  have hhl : hs.length = n := by simpa using hL.1
  have hcl : cs.length = m := by simpa using hC.1
  have HH := Lib.hid hhl
  have HCL := Lib.hid hcl
  have HZ1 := Lib.hid hz1
  have HZ2 := Lib.hid hz2
  clear hhl hcl hz1 hz2
  go_enter Tryd.func13, Tryd.ntmps13
  go_wp2_with fail
  have hk1 : Kp [] w (w.alloc (.cells #[.int .i64 z, .slice A n c] 25)) := (Kp.rfl_ [] w).alloc _
  generalize w.alloc (.cells #[.int .i64 z, .slice A n c] 25) = w1 at *
  have L1 := hL.kp hk1 (by simp)
  have C1 := hC.kp hk1 (by simp)
  go_loopg [20, 5] 3 (fun gk j a wr => ∃ q acc : Nat, 3 - q ≤ gk ∧ j = .int .i64 q ∧ a = .int .i64 acc ∧ q ≤ 2 ∧ w1 = wr ∧ acc = n + m + sumTo hs cs q ∧ (acc ≤ 3000 ∨ acc = n + m))
  case atStart => exact ⟨0, n + m, by omega, rfl, by go_num, by omega, rfl, rfl, .inr rfl⟩
  case round =>
    obtain ⟨q, acc, hgk, rfl, rfl, hq, rfl, hacc, hle⟩ := hrel
    have hx0 : ∀ w', (Instr.index 54 (.agg #[.slice A n c, .slice B m d]) (.int .i64 0)).run Tryd.prog w' = .ok (.slice A n c) w' := idx2 (.slice A n c) (.slice B m d) (.slice A n c) 0 (by omega) rfl
    have hx1 : ∀ w', (Instr.index 54 (.agg #[.slice A n c, .slice B m d]) (.int .i64 1)).run Tryd.prog w' = .ok (.slice B m d) w' := idx2 (.slice A n c) (.slice B m d) (.slice B m d) 1 (by omega) rfl
    rcases (show q = 0 ∨ q = 1 ∨ q = 2 by omega) with rfl | rfl | rfl
    · go_wp2_with fail
      go_loopg [25, 5] n (fun gk i a wr => ∃ k acc : Nat, n - k ≤ gk ∧ i = .int .i64 k ∧ a = .int .i64 acc ∧ k ≤ n ∧ w1 = wr ∧ acc = n + m + 0 + (flat (hs.take k)).length ∧ (acc ≤ 3000 ∨ acc = n + m))
      case atStart => exact ⟨0, acc, by omega, rfl, rfl, Nat.zero_le _, rfl, by rw [hacc]; simp [flat, sumTo], hle⟩
      case round =>
        clear hacc hle
        obtain ⟨k, ac, hgk, rfl, rfl, hk, rfl, hac, hle⟩ := hrel
        have HAC := Lib.hid hac
        clear hac
        by_cases hlt : k < n
        · obtain ⟨ad, s, rfl, hsk, hcw⟩ := L1.str_at hlt
          have hsz := HZ1.out s (List.mem_of_getElem? hsk)
          unfold maxLen at hsz
          have HST := Lib.hid (flat_at hsk)
          clear hsk
          by_cases hbig : s.size < 1048576
          · by_cases hov : ac + s.size ≤ 3000
            · go_wp2_with fail
              go_roundg (n - (k + 1))
              case measure => omega
              case rel => exact ⟨k + 1, ac + s.size, by omega, by go_num, by go_num, by omega, rfl, by have h1 := HAC.out; have h2 := HST.out; omega, .inl hov⟩
            · go_wp2_with fail
              go_ret
              exact ⟨true, rfl, hk1, by simp⟩
          · go_wp2_with fail
            go_ret
            exact ⟨true, rfl, hk1, by simp⟩
        · have hkn : hs.take k = hs := List.take_of_length_le (by have := HH.out; omega)
          rw [hkn] at HAC
          go_wp2_with fail
          go_roundg (3 - 1)
          case measure => omega
          case rel => exact ⟨1, ac, by omega, rfl, rfl, by omega, rfl, by have h1 := HAC.out; simp only [sumTo]; omega, hle⟩
    · go_wp2_with fail
      go_loopg [25, 5] m (fun gk i a wr => ∃ k acc : Nat, m - k ≤ gk ∧ i = .int .i64 k ∧ a = .int .i64 acc ∧ k ≤ m ∧ w1 = wr ∧ acc = n + m + (flat hs).length + (flat (cs.take k)).length ∧ (acc ≤ 3000 ∨ acc = n + m))
      case atStart => exact ⟨0, acc, by omega, rfl, rfl, Nat.zero_le _, rfl, by rw [hacc]; simp [flat, sumTo], hle⟩
      case round =>
        clear hacc hle
        obtain ⟨k, ac, hgk, rfl, rfl, hk, rfl, hac, hle⟩ := hrel
        have HAC := Lib.hid hac
        clear hac
        by_cases hlt : k < m
        · obtain ⟨ad, s, rfl, hsk, hcw⟩ := C1.str_at hlt
          have hsz := HZ2.out s (List.mem_of_getElem? hsk)
          unfold maxLen at hsz
          have HST := Lib.hid (flat_at hsk)
          clear hsk
          by_cases hbig : s.size < 1048576
          · by_cases hov : ac + s.size ≤ 3000
            · go_wp2_with fail
              go_roundg (m - (k + 1))
              case measure => omega
              case rel => exact ⟨k + 1, ac + s.size, by omega, by go_num, by go_num, by omega, rfl, by have h1 := HAC.out; have h2 := HST.out; omega, .inl hov⟩
            · go_wp2_with fail
              go_ret
              exact ⟨true, rfl, hk1, by simp⟩
          · go_wp2_with fail
            go_ret
            exact ⟨true, rfl, hk1, by simp⟩
        · have hkn : cs.take k = cs := List.take_of_length_le (by have := HCL.out; omega)
          rw [hkn] at HAC
          go_wp2_with fail
          go_roundg (3 - 2)
          case measure => omega
          case rel => exact ⟨2, ac, by omega, rfl, rfl, by omega, rfl, by have h1 := HAC.out; simp only [sumTo]; omega, hle⟩
    · simp only [sumTo] at hacc
      have HS := Lib.hid hacc
      clear hacc
      by_cases hov : acc ≤ 3000
      · go_wp2_with fail
        go_ret
        exact ⟨false, ret_bool (by simp; omega), hk1, fun _ => by have h1 := HS.out; have h2 := HH.out; have h3 := HCL.out; omega⟩
      · go_wp2_with fail
        go_ret
        exact ⟨true, ret_bool (by simp; omega), hk1, by simp⟩
end Go.Proofs.YtencpplopdogmaaDoor
namespace Go.Proofs.YtencpplopdogmaaDoor
set_option maxRecDepth 100000
open Go.RowKit
set_option linter.unusedVariables false

theorem make_to (s : ByteArray) (z : Int) (hs : List ByteArray) (w : World) (ht : Tbk w) (hz : (s.size : Int) = z) (hh : mkH s.data.toList = hs) (hl : s.size ≤ 512) :
    Calls Tryd.prog 10 #[.string s] w (Made z hs w) := by
  rw [← hz, ← hh]
  exact make_any s w ht hl
theorem rmake_to (s : ByteArray) (z : Int) (hs : List ByteArray) (w : World) (hz : (s.size : Int) = z) (hh : mkH s.data.toList = hs) (hl : s.size ≤ 512) :
    Calls Tryd.prog 11 #[.string s] w (Made z hs w) := by
  rw [← hz, ← hh]
  exact rmake_any s w hl
theorem build_to (z : Int) (A B : Option Addr) (n c m d : Nat) (hs cs : List ByteArray) (r : ByteArray) (e0 : Int) (w : World) (hb : bld z hs cs = (r, e0)) (ht : Tbk w) (hL : Ls w A n (hs.map Value.string)) (hC : Ls w B m (cs.map Value.string)) (hn : n ≤ 1000000) (hm : m ≤ 1000000) (hmd : m ≤ d)
    (hz : ∀ x ∈ cs, x.size ≤ maxLen) (hlen : (flat cs).length ≤ 1000000000) (hj : m = n → Front B d) (h1 : -9223372036854775808 ≤ z) (h2 : z ≤ 9223372036854775807) :
    Calls Tryd.prog 14 #[.agg #[.int .i64 z, .slice A n c], .slice B m d] w fun e w' => e = .returned (.tuple #[.string r, .int .i64 e0]) ∧ Kp [] w w' :=
  (build_any z A B n c m d hs cs w ht hL hC hn hm hmd hz hlen hj h1 h2).mono fun e w' ⟨he, hk⟩ => ⟨by rw [he, hb], hk⟩
theorem check_yes (z : Int) (A : Option Addr) (n c : Nat) (hs : List ByteArray) (w : World) (hr : Rt z hs) (hL : Ls w A n (hs.map Value.string)) (hn : n ≤ 1099511627776) (h1 : -9223372036854775808 ≤ z) (h2 : z ≤ 9223372036854775807) :
    Calls Tryd.prog 17 #[.agg #[.int .i64 z, .slice A n c]] w fun e w' => e = .returned (.int .i64 0) ∧ Kp [] w w' :=
  (scheck_any z A n c hs w hL hn h1 h2).mono fun e w' ⟨he, hk⟩ => ⟨by rw [he, if_pos hr], hk⟩
theorem sparse_yes (s : ByteArray) (z : Int) (hs : List ByteArray) (w : World) (hp : Prs s.data.toList z hs) (hl : s.size ≤ 1000000000) : Calls Tryd.prog 19 #[.string s] w (Made z hs w) :=
  (sparse_any s w hl).mono fun e w' h => by
    rcases h with ⟨z', hs', A, c, he, hp', ho, hk⟩ | ⟨_, hno, _⟩
    · obtain ⟨rfl, rfl⟩ := hp'.one hp
      exact ⟨A, c, he, ho, hk⟩
    · exact absurd hp (hno z hs)

def abc : ByteArray := ⟨#[97, 98, 99]⟩
def abd : ByteArray := ⟨#[97, 98, 100]⟩
theorem abc_mk : mkH abc.data.toList = [dgs abc] := rfl
theorem abc_ne : dgs abd ≠ dgs abc := fun h => absurd (bs_inj h) (by decide +kernel)
theorem abc_rt : Rt 3 [dgs abc] := ⟨⟨by omega, by omega⟩, by decide, fun x hx => by
  obtain rfl : x = dgs abc := by simpa using hx
  exact dgs_size abc⟩
theorem bld_abc : bld 3 [dgs abc] [abc] = (⟨#[97, 98, 99]⟩, 0) := bld_ok abc_rt rfl rfl (by decide)
theorem bld_abd : bld 3 [dgs abc] [abd] = (⟨#[]⟩, 101) := bld_bad abc_rt rfl fun h => abc_ne (by injection h)
theorem bld_no : bld 3 [dgs abc] [] = (⟨#[]⟩, 1) := bld_arg abc_rt (by decide)
theorem pk_none : bs (pk 0 []) = ⟨#[0, 0]⟩ := by decide
set_option maxRecDepth 100000 in
set_option maxHeartbeats 8000000 in
theorem hsawake (w : World) (ht : Tbk w) : Calls Tryd.prog 9 #[] w (Yes w) := by
  obtain ⟨d, hd⟩ : ∃ d, dgs abc = d := ⟨_, rfl⟩
  have HM : Hid (mkH abc.data.toList = [d]) := Lib.hid (by rw [← hd]; exact abc_mk)
  have HB1 : Hid (bld 3 [d] [abc] = (⟨#[97, 98, 99]⟩, 0)) := Lib.hid (by rw [← hd]; exact bld_abc)
  have HB2 : Hid (bld 3 [d] [abd] = (⟨#[]⟩, 101)) := Lib.hid (by rw [← hd]; exact bld_abd)
  have HB3 : Hid (bld 3 [d] [] = (⟨#[]⟩, 1)) := Lib.hid (by rw [← hd]; exact bld_no)
  have hroots := ht.1
  clear hd
  go_enter Tryd.func9, Tryd.ntmps9
  go_wp2_with fail
  refine (make_to abc 3 [d] _ ht rfl HM.out (by decide)).mono ?_
  rintro e w1 ⟨A, c, rfl, ho1, hk1⟩
  obtain ⟨A', c', hh, hL1, -, -, -⟩ := own_open ho1
  injection hh with h1 h2 h3
  subst h1 h3
  obtain ⟨g1, hg1⟩ : ∃ g1, w1.heap.size = g1 := ⟨_, rfl⟩
  have a2 : At (w1.alloc (.cells #[.int .i64 3, .slice A 1 c] 25)) g1 25 #[.int .i64 3, .slice A 1 c] := At.new_ hg1
  have hs2 : (w1.alloc (.cells #[.int .i64 3, .slice A 1 c] 25)).heap.size = g1 + 1 := by simp [hg1]
  have hk2 := hk1.alloc (.cells #[.int .i64 3, .slice A 1 c] 25)
  have hL2 := hL1.kp ((Kp.rfl_ [] w1).alloc (.cells #[.int .i64 3, .slice A 1 c] 25)) (by simp)
  go_wp2_with fail
  generalize w1.alloc (.cells #[.int .i64 3, .slice A 1 c] 25) = w2 at *
  clear hk1 hL1 ho1 hg1
  have C1 : Ls (w2.alloc (.cells #[.string ⟨#[97, 98, 99]⟩] 9)) (some ⟨g1 + 1, 0, none⟩) 1 ([abc].map Value.string) := Ls.of_at (At.new_ hs2)
  refine (build_to 3 A _ 1 c 1 1 [d] [abc] ⟨#[97, 98, 99]⟩ 0 _ HB1.out (ht.kp (hk2.alloc _) (by simp)) (hL2.kp ((Kp.rfl_ [] w2).alloc _) (by simp)) C1 (by omega) (by omega) (by omega) (by intro x hx; obtain rfl : x = abc := (by simpa using hx); decide) (by decide) (fun _ => .inr ⟨_, rfl⟩) (by omega) (by omega)).mono ?_
  rintro e w3 ⟨rfl, hk3⟩
  have hk23 := ((Kp.rfl_ [] w2).alloc (.cells #[.string ⟨#[97, 98, 99]⟩] 9)).trans hk3
  have a3 := a2.kp hk23 (by simp)
  have L3 := hL2.kp hk23 (by simp)
  have hk03 := hk2.trans hk23
  have c0 : w3.cell? ⟨g1, 0, none⟩ = some (.int .i64 3) := a3.cell 0
  have c1 : w3.cell? ⟨g1, 1, none⟩ = some (.slice A 1 c) := a3.cell 1
  clear C1 hk3 hk23 hk2 a2 hL2 hs2
  go_wp2_with fail
  clear c0 c1
  have C1 : Ls (w3.alloc (.cells #[.string ⟨#[97, 98, 100]⟩] 9)) (some ⟨w3.heap.size, 0, none⟩) 1 ([abd].map Value.string) := Ls.of_at (At.new w3 _ _)
  refine (build_to 3 A _ 1 c 1 1 [d] [abd] ⟨#[]⟩ 101 _ HB2.out (ht.kp (hk03.alloc _) (by simp)) (L3.kp ((Kp.rfl_ [] w3).alloc _) (by simp)) C1 (by omega) (by omega) (by omega) (by intro x hx; obtain rfl : x = abd := (by simpa using hx); decide) (by decide) (fun _ => .inr ⟨_, rfl⟩) (by omega) (by omega)).mono ?_
  rintro e w4 ⟨rfl, hk4⟩
  have hk34 := ((Kp.rfl_ [] w3).alloc (.cells #[.string ⟨#[97, 98, 100]⟩] 9)).trans hk4
  have a4 := a3.kp hk34 (by simp)
  have L4 := L3.kp hk34 (by simp)
  have hk04 := hk03.trans hk34
  have c0 : w4.cell? ⟨g1, 0, none⟩ = some (.int .i64 3) := a4.cell 0
  have c1 : w4.cell? ⟨g1, 1, none⟩ = some (.slice A 1 c) := a4.cell 1
  clear C1 hk4 hk34 hk03 a3 L3
  go_wp2_with fail
  clear c0 c1
  refine (build_to 3 A _ 1 c 0 0 [d] [] ⟨#[]⟩ 1 _ HB3.out (ht.kp hk04 (by simp)) L4 Ls.nil_ (by omega) (by omega) (by omega) (by simp) (by decide) (fun h => by omega) (by omega) (by omega)).mono ?_
  rintro e w5 ⟨rfl, hk5⟩
  have a5 := a4.kp hk5 (by simp)
  have hk05 := hk04.trans hk5
  clear hk5 a4 L4 hk04
  go_wp2_with fail
  refine (make_to ⟨#[]⟩ 0 [] _ (ht.kp hk05 (by simp)) rfl rfl (by decide)).mono ?_
  rintro e w6 ⟨A6, c6, rfl, ho6, hk6⟩
  obtain ⟨A', c', hh, hL6, -, -, -⟩ := own_open ho6
  injection hh with h1 h2 h3
  subst h1 h3
  have a6 := a5.kp hk6 (by simp)
  have hk06 := hk05.trans hk6
  have hk07 := hk06.alloc (.cells #[.int .i64 0, .slice A6 0 c6] 25)
  have a7 := a6.alloc (.cells #[.int .i64 0, .slice A6 0 c6] 25)
  have b7 := At.new w6 25 #[.int .i64 0, .slice A6 0 c6]
  have L7 : Ls (w6.alloc (.cells #[.int .i64 0, .slice A6 0 c6] 25)) A6 0 (([] : List ByteArray).map Value.string) := Ls.nil_
  clear hk6 a5 hk05 ho6 hL6 a6 hk06
  go_wp2_with fail
  refine (spack_to 0 A6 0 c6 [] ⟨#[0, 0]⟩ _ pk_none L7 (by omega) (by decide) (by omega) (by omega)).mono ?_
  rintro e w8 ⟨rfl, hk8⟩
  have a8 := a7.kp hk8 (by simp)
  have c0 : w8.cell? ⟨g1, 0, none⟩ = some (.int .i64 3) := a8.cell 0
  have c1 : w8.cell? ⟨g1, 1, none⟩ = some (.slice A 1 c) := a8.cell 1
  go_wp2_with fail
  go_ret
  exact ⟨rfl, hk07.trans hk8⟩
end Go.Proofs.YtencpplopdogmaaDoor
namespace Go.Proofs.YtencpplopdogmaaDoor
set_option maxRecDepth 100000
open Go.RowKit
set_option linter.unusedVariables false

theorem Made.open_ {z : Int} {hs : List ByteArray} {n : Nat} {w w' : World} {e : Ending} (h : Made z hs w e w') (hn : hs.length = n) : ∃ A c, e = .returned (.tuple #[.agg #[.int .i64 z, .slice A n c], .int .i64 0]) ∧ Ls w' A n (hs.map Value.string) ∧ Kp [] w w' := by
  subst hn
  obtain ⟨A, c, he, ho, hk⟩ := h
  obtain ⟨A', c', hh, hL, -⟩ := own_open ho
  injection hh with h1 h2 h3
  subst h1 h3
  exact ⟨A, c, he, hL, hk⟩
theorem size_leH {s : ByteArray} (h : s.size ≤ maxLen) : s.size ≤ 9223372036854775807 := by unfold maxLen at h; omega
theorem texts_le : ∀ (hs : List ByteArray), (∀ x ∈ hs, x.size = 32) → (texts hs).length ≤ 42 * hs.length := by
  intro hs
  induction hs with
  | nil => intro _; simp [texts]
  | cons x xs ih =>
    intro h
    have h1 := h x (by simp)
    have h2 := ih fun y hy => h y (List.mem_cons_of_mem _ hy)
    have h3 := (numB_len (z := (x.size : Int)) (by omega) (by omega)).2
    rw [textsS_cons]
    have h4 : x.data.toList.length = x.size := by simp
    simp only [List.length_append, List.length_cons]
    omega
set_option maxRecDepth 100000 in
set_option maxHeartbeats 8000000 in
theorem smakes_in (s : ByteArray) (w : World) (ht : Tbk w) (hs : s.size ≤ 512) :
    Calls Tryd.prog 3 #[.string s] w (Yes w) := by
  have hll : s.data.toList.length = s.size := by simp
  obtain ⟨hm, hhm⟩ : ∃ hm, mkH s.data.toList = hm := ⟨_, rfl⟩
  obtain ⟨n, hn⟩ : ∃ n, hm.length = n := ⟨_, rfl⟩
  have hn8 : n ≤ 8 := by rw [← hn, ← hhm]; exact (mkH_right (by omega)).len
  have HM := Lib.hid hhm
  have HN := Lib.hid hn
  have hroots := ht.1
  clear hll hhm hn
  go_enter Tryd.func3, Tryd.ntmps3
  go_wp2_with fail
  refine (hsawake _ ht).mono ?_
  rintro e w1 ⟨rfl, hk1⟩
  go_wp2_with fail
  refine (make_to s s.size hm _ (ht.kp hk1 (by simp)) rfl HM.out hs).mono ?_
  intro e w2 h2
  obtain ⟨A, c, rfl, L2, hk2⟩ := h2.open_ HN.out
  obtain ⟨g1, hg1⟩ : ∃ g1, w2.heap.size = g1 := ⟨_, rfl⟩
  have a3 : At (w2.alloc (.cells #[.int .i64 s.size, .slice A n c] 25)) g1 25 #[.int .i64 s.size, .slice A n c] := At.new_ hg1
  have hk3 := (hk1.trans hk2).alloc (.cells #[.int .i64 s.size, .slice A n c] 25)
  have L3 := L2.kp ((Kp.rfl_ [] w2).alloc (.cells #[.int .i64 s.size, .slice A n c] 25)) (by simp)
  go_wp2_with fail
  generalize w2.alloc (.cells #[.int .i64 s.size, .slice A n c] 25) = w3 at *
  clear h2 hk1 hk2 L2 hg1
  refine (rmake_to s s.size hm _ rfl HM.out hs).mono ?_
  intro e w4 h4
  obtain ⟨A4, c4, rfl, L4, hk4⟩ := h4.open_ HN.out
  have a4 := a3.kp hk4 (by simp)
  have L34 := L3.kp hk4 (by simp)
  have c0 : w4.cell? ⟨g1, 0, none⟩ = some (.int .i64 s.size) := a4.cell 0
  have c1 : w4.cell? ⟨g1, 1, none⟩ = some (.slice A n c) := a4.cell 1
  have hk05 := (hk3.trans hk4).alloc (.cells #[.int .i64 s.size, .slice A4 n c4] 25)
  have La := L34.kp ((Kp.rfl_ [] w4).alloc (.cells #[.int .i64 s.size, .slice A4 n c4] 25)) (by simp)
  have Lb := L4.kp ((Kp.rfl_ [] w4).alloc (.cells #[.int .i64 s.size, .slice A4 n c4] 25)) (by simp)
  have hlt := a4.lt
  clear h4 hk4 L3 a3 hk3 L34 L4
  go_wp2_with fail
  refine (ssame_to s.size s.size A A4 n c n c4 hm hm true _ (by simp) La Lb (by omega) (by omega)).mono ?_
  rintro e w6 ⟨rfl, hk6⟩
  go_wp2_with fail
  go_ret
  exact ⟨rfl, hk05.trans hk6⟩
set_option maxHeartbeats 4000000 in
theorem smakes_mid (s : ByteArray) (w : World) (ht : Tbk w) (hs : 512 < s.size) (hs2 : s.size ≤ 2000) :
    Calls Tryd.prog 3 #[.string s] w (Yes w) := by
  have hroots := ht.1
  go_enter Tryd.func3, Tryd.ntmps3
  go_wp2_with fail
  refine (hsawake _ ht).mono ?_
  rintro e w1 ⟨rfl, hk1⟩
  go_wp2_with fail
  refine (make_no s _ hs (by omega)).mono ?_
  rintro e w2 ⟨rfl, hk2⟩
  obtain ⟨g1, hg1⟩ : ∃ g1, w2.heap.size = g1 := ⟨_, rfl⟩
  have a3 : At (w2.alloc (.cells #[.int .i64 0, .slice none 0 0] 25)) g1 25 #[.int .i64 0, .slice none 0 0] := At.new_ hg1
  have hk3 := (hk1.trans hk2).alloc (.cells #[.int .i64 0, .slice none 0 0] 25)
  go_wp2_with fail
  generalize w2.alloc (.cells #[.int .i64 0, .slice none 0 0] 25) = w3 at *
  clear hk1 hk2 hg1
  refine (rmake_no s _ hs (by omega)).mono ?_
  rintro e w4 ⟨rfl, hk4⟩
  have a4 := a3.kp hk4 (by simp)
  have c0 : w4.cell? ⟨g1, 0, none⟩ = some (.int .i64 0) := a4.cell 0
  have c1 : w4.cell? ⟨g1, 1, none⟩ = some (.slice none 0 0) := a4.cell 1
  have hk05 := (hk3.trans hk4).alloc (.cells #[.int .i64 0, .slice none 0 0] 25)
  have hlt := a4.lt
  clear hk4 a3 hk3
  go_wp2_with fail
  refine (ssame_to 0 0 none none 0 0 0 0 [] [] true _ rfl Ls.nil_ Ls.nil_ (by omega) (by omega)).mono ?_
  rintro e w6 ⟨rfl, hk6⟩
  go_wp2_with fail
  go_ret
  exact ⟨rfl, hk05.trans hk6⟩
set_option maxHeartbeats 2000000 in
theorem smakes_big (s : ByteArray) (w : World) (ht : Tbk w) (hs : 2000 < s.size) (hz : s.size ≤ 9223372036854775807) :
    Calls Tryd.prog 3 #[.string s] w (Yes w) := by
  go_enter Tryd.func3, Tryd.ntmps3
  go_wp2_with fail
  refine (hsawake _ ht).mono ?_
  rintro e w1 ⟨rfl, hk1⟩
  go_wp2_with fail
  refine (hsawake _ (ht.kp hk1 (by simp))).mono ?_
  rintro e w2 ⟨rfl, hk2⟩
  go_wp2_with fail
  go_ret
  exact ⟨rfl, hk1.trans hk2⟩
theorem smakes_walk (v0 : Value) (w : World) (hl : LaidSha w) (i0 : In w 9 v0) : Calls Tryd.prog 3 #[v0] w (Yes w) := by
  obtain ⟨s, rfl, hs⟩ := in_string Tryd.underlying9 i0
  have ht := tbk_of hl
  by_cases h1 : s.size ≤ 512
  · exact smakes_in s w ht h1
  · by_cases h2 : s.size ≤ 2000
    · exact smakes_mid s w ht (by omega) h2
    · exact smakes_big s w ht (by omega) (size_leH hs)
end Go.Proofs.YtencpplopdogmaaDoor
namespace Go.Proofs.YtencpplopdogmaaDoor
set_option maxRecDepth 100000
open Go.RowKit
set_option linter.unusedVariables false

theorem chunk_le {l : List UInt8} {k : Nat} : ∀ c ∈ chunks l k, c.size ≤ 64 := by
  intro c hc
  unfold chunks at hc
  obtain ⟨i, _, rfl⟩ := List.mem_map.1 hc
  rw [bs_size]; unfold chk; rw [List.length_take]; omega
/-- Chunks, at the front of a block. -/
def Cks (n : Nat) (cs : List ByteArray) (v : Value) (w : World) : Prop := ∃ B d, v = .slice B n d ∧ Ls w B n (cs.map Value.string) ∧ Front B d ∧ n ≤ d
theorem cks_of {base n : Nat} {cs : List ByteArray} {v : Value} {w : World} (h : w.ownsRow base 9 1 v n (cs.map Value.string)) : Cks n cs v w := by
  obtain ⟨B, d, rfl, hL, -, hnd, -⟩ := own_open h
  refine ⟨B, d, rfl, hL, ?_, hnd⟩
  rcases own_shape h with ⟨rfl, rfl, -⟩ | ⟨g, rfl, -, -⟩
  · exact .inl ⟨rfl, rfl⟩
  · exact .inr ⟨g, rfl⟩
theorem Cks.kp {n : Nat} {cs : List ByteArray} {v : Value} {w w' : World} (h : Cks n cs v w) (k : Kp [] w w') : Cks n cs v w' := by
  obtain ⟨B, d, rfl, hL, hf, hnd⟩ := h
  exact ⟨B, d, rfl, hL.kp k (by simp), hf, hnd⟩
theorem cut_to (s : ByteArray) (n : Nat) (cs : List ByteArray) (w : World) (hn : cnt s.size = n) (hcs : chunks s.data.toList n = cs) (hs : s.size ≤ 1000000000) :
    Calls Tryd.prog 23 #[.string s] w fun e w' => ∃ v, e = .returned v ∧ w'.ownsRow w.heap.size 9 1 v n (cs.map Value.string) ∧ Kp [] w w' := by
  subst hn
  subst hcs
  exact cut_any s w hs

set_option maxRecDepth 100000 in
set_option maxHeartbeats 8000000 in
theorem sback_in (s : ByteArray) (w : World) (ht : Tbk w) (hs : s.size ≤ 512) :
    Calls Tryd.prog 6 #[.string s] w (Yes w) := by
  have hll : s.data.toList.length = s.size := by simp
  obtain ⟨hm, hhm⟩ : ∃ hm, mkH s.data.toList = hm := ⟨_, rfl⟩
  obtain ⟨n, hn⟩ : ∃ n, hm.length = n := ⟨_, rfl⟩
  have hcn : cnt s.size = n := by rw [← hn, ← hhm, mkH_len, hll]
  obtain ⟨cs, hcs⟩ : ∃ cs, chunks s.data.toList n = cs := ⟨_, rfl⟩
  have hrt : Rt s.size hm := by rw [← hhm, ← hll]; exact mkH_right (by omega)
  have hn8 : n ≤ 8 := by rw [← hn]; exact hrt.len
  have htl : (texts hm).length ≤ 1000000000 := by have := texts_le hm hrt.2.2; have := hrt.len; omega
  obtain ⟨p, hp⟩ : ∃ p, bs (pk s.size hm) = p := ⟨_, rfl⟩
  have hpl : p.data.toList = pk s.size hm := by rw [← hp]; rfl
  have hps : p.size ≤ 1000000000 := by
    have h1 := (numB_len (z := (s.size : Int)) (by omega) (by omega)).2
    have h2 := (numB_len (z := (hm.length : Int)) (by omega) (by omega)).2
    have h3 := texts_le hm hrt.2.2
    have h4 := hrt.len
    rw [← hp, bs_size]
    unfold pk
    simp only [List.length_append]
    omega
  have hprs : Prs p.data.toList s.size hm := ⟨hrt, hpl⟩
  have hbl : bld s.size hm cs = (s, 0) := by
    have := bld_back (l := s.data.toList) (by omega)
    rw [hll, hcn, hhm, hcs, bs_of] at this
    exact this
  have hcl : cs.length = n := by rw [← hcs, chunks_length]
  have hcf : (flat cs).length ≤ 1000000000 := by
    have : flat cs = s.data.toList := by rw [← hcs, ← hcn, ← hll]; exact chunks_flat _
    rw [this, hll]; omega
  have hc64 : ∀ x ∈ cs, x.size ≤ maxLen := fun x hx => by
    rw [← hcs] at hx
    have := chunk_le x hx
    unfold maxLen
    omega
  have HM := Lib.hid hhm
  have HN := Lib.hid hn
  have HCN := Lib.hid hcn
  have HCS := Lib.hid hcs
  have HRT := Lib.hid hrt
  have HTL := Lib.hid htl
  have HP := Lib.hid hp
  have HPRS := Lib.hid hprs
  have HBL := Lib.hid hbl
  have HCF := Lib.hid hcf
  have HC64 := Lib.hid hc64
  have hroots := ht.1
  clear hll hhm hn hcn hcs hrt htl hp hpl hprs hbl hcl hcf hc64
  go_enter Tryd.func6, Tryd.ntmps6
  go_wp2_with fail
  refine (hsawake _ ht).mono ?_
  rintro e w1 ⟨rfl, hk1⟩
  go_wp2_with fail
  refine (make_to s s.size hm _ (ht.kp hk1 (by simp)) rfl HM.out hs).mono ?_
  intro e w2 h2
  obtain ⟨A, c, rfl, L2, hk2⟩ := h2.open_ HN.out
  obtain ⟨g1, hg1⟩ : ∃ g1, w2.heap.size = g1 := ⟨_, rfl⟩
  have a3 : At (w2.alloc (.cells #[.int .i64 s.size, .slice A n c] 25)) g1 25 #[.int .i64 s.size, .slice A n c] := At.new_ hg1
  have hk3 := (hk1.trans hk2).alloc (.cells #[.int .i64 s.size, .slice A n c] 25)
  have L3 := L2.kp ((Kp.rfl_ [] w2).alloc (.cells #[.int .i64 s.size, .slice A n c] 25)) (by simp)
  go_wp2_with fail
  generalize w2.alloc (.cells #[.int .i64 s.size, .slice A n c] 25) = w3 at *
  clear h2 hk1 hk2 L2 hg1
  refine (spack_to s.size A n c hm p _ HP.out L3 (by omega) HTL.out (by omega) (by omega)).mono ?_
  rintro e w4 ⟨rfl, hk4⟩
  have a4 := a3.kp hk4 (by simp)
  have L4 := L3.kp hk4 (by simp)
  have hk04 := hk3.trans hk4
  clear a3 L3 hk3 hk4
  go_wp2_with fail
  refine (sparse_yes p s.size hm _ HPRS.out hps).mono ?_
  intro e w5 h5
  obtain ⟨A5, c5, rfl, L5, hk5⟩ := h5.open_ HN.out
  have a5 := a4.kp hk5 (by simp)
  have L45 := L4.kp hk5 (by simp)
  obtain ⟨g2, hg2⟩ : ∃ g2, w5.heap.size = g2 := ⟨_, rfl⟩
  have b6 : At (w5.alloc (.cells #[.int .i64 s.size, .slice A5 n c5] 25)) g2 25 #[.int .i64 s.size, .slice A5 n c5] := At.new_ hg2
  have a6 := a5.alloc (.cells #[.int .i64 s.size, .slice A5 n c5] 25)
  have hk06 := (hk04.trans hk5).alloc (.cells #[.int .i64 s.size, .slice A5 n c5] 25)
  have L6 := L45.kp ((Kp.rfl_ [] w5).alloc (.cells #[.int .i64 s.size, .slice A5 n c5] 25)) (by simp)
  have M6 := L5.kp ((Kp.rfl_ [] w5).alloc (.cells #[.int .i64 s.size, .slice A5 n c5] 25)) (by simp)
  clear h5 a4 L4 hk04 hk5 a5 L45 L5
  go_wp2_with fail
  generalize w5.alloc (.cells #[.int .i64 s.size, .slice A5 n c5] 25) = w6 at *
  clear hg2
  have c0 : w6.cell? ⟨g2, 0, none⟩ = some (.int .i64 s.size) := b6.cell 0
  have c1 : w6.cell? ⟨g2, 1, none⟩ = some (.slice A5 n c5) := b6.cell 1
  have ht6 := ht.kp hk06 (by simp)
  refine region_inv2' (fun q v w' => match q with
    | 0 => v = .agg #[.int .i64 s.size, .slice A5 n c5]
    | 1 => v = .string s
    | 2 => Cks n cs v w'
    | 3 => v = .tuple #[.string s, .int .i64 0]
    | 4 => v = .tuple #[.string s, .int .i64 0]
    | 5 => v = .string s
    | 6 => v = .int .i64 0
    | 7 => v = .string s
    | _ => v = .int .i64 0) (by kernel_rfl) _ rfl (by kernel_rfl) (by kernel_rfl) (by kernel_rfl) ?_ ?_ ?_
  · intro q v w1 w2 hF hK
    rcases q with _|_|_|_|_|_|_|_|q
    all_goals first | exact hF | exact Cks.kp hF hK
  · intro q o ho av wv K hS hk H hK
    have hf5 : av.eval (.tmp 5) = .pointer (some ⟨g2, 0, none⟩) := (hS.2.2 5 (nofill (by kernel_rfl))).trans rfl
    have hf0 : av.eval (.tmp 0) = .string s := (hS.2.2 0 (nofill (by kernel_rfl))).trans rfl
    have s0 := cell_kp c0 hk (by simp)
    have s1 := cell_kp c1 hk (by simp)
    rcases q with _|_|_|_|_|_|_|_|_|q
    all_goals try (obtain rfl := Option.some.inj ho)
    · have e5 := gd hf5
      exact wpOp_value rfl rfl (v := .agg #[.int .i64 s.size, .slice A5 n c5]) (w' := wv) (by simp [execOp, go_sem, e5, s0, s1]) (hK _ _ (Kp.rfl_ _ _) rfl)
    · have e0 := gd hf0
      exact wpOp_value rfl rfl (v := .string s) (w' := wv) (by simp [execOp, go_sem, e0]) (hK _ _ (Kp.rfl_ _ _) rfl)
    · have e30 := gd (H 1 30 (by kernel_rfl) rfl)
      refine wpOp_call rfl rfl (f := 23) (args := #[.string s]) (w1 := wv) (by simp [execOp, go_sem, e30]) ?_
      refine (cut_to s n cs wv HCN.out HCS.out (by omega)).mono ?_
      rintro e w8 ⟨v8, rfl, o8, k8⟩
      exact ⟨_, rfl, hK _ _ k8 (cks_of o8)⟩
    · obtain ⟨B, d, e31, hL31, hfr, hnd⟩ : Cks n cs (av.tmps.getD 31 undef) wv := H 2 31 (by kernel_rfl) rfl
      have e31 := gd e31
      have e29 := gd (H 0 29 (by kernel_rfl) rfl)
      refine wpOp_call rfl rfl (f := 14) (args := #[.agg #[.int .i64 s.size, .slice A5 n c5], .slice B n d]) (w1 := wv) (by simp [execOp, go_sem, e29, e31]) ?_
      refine (build_to s.size A5 B n c5 n d hm cs s 0 wv HBL.out (ht6.kp hk (by simp)) (M6.kp hk (by simp)) hL31 (by omega) (by omega) hnd HC64.out HCF.out (fun _ => hfr) (by omega) (by omega)).mono ?_
      rintro e w8 ⟨rfl, k8⟩
      exact ⟨_, rfl, hK _ _ k8 rfl⟩
    · have e32 := gd (H 3 32 (by kernel_rfl) rfl)
      exact wpOp_value rfl rfl (v := .tuple #[.string s, .int .i64 0]) (w' := wv) (by simp [execOp, go_sem, e32]) (hK _ _ (Kp.rfl_ _ _) rfl)
    · have e28 := gd (H 4 28 (by kernel_rfl) rfl)
      exact wpOp_value rfl rfl (v := .string s) (w' := wv) (by simp [execOp, go_sem, e28]) (hK _ _ (Kp.rfl_ _ _) rfl)
    · have e28 := gd (H 4 28 (by kernel_rfl) rfl)
      exact wpOp_value rfl rfl (v := .int .i64 0) (w' := wv) (by simp [execOp, go_sem, e28]) (hK _ _ (Kp.rfl_ _ _) rfl)
    · have e33 := gd (H 5 33 (by kernel_rfl) rfl)
      exact wpOp_value rfl rfl (v := .string s) (w' := wv) (by simp [execOp, go_sem, e33]) (hK _ _ (Kp.rfl_ _ _) rfl)
    · have e34 := gd (H 6 34 (by kernel_rfl) rfl)
      exact wpOp_value rfl rfl (v := .int .i64 0) (w' := wv) (by simp [execOp, go_sem, e34]) (hK _ _ (Kp.rfl_ _ _) rfl)
    · simp at ho
  · intro av wv hS hk H
    have h7 : av.tmps.getD 7 undef = .string s := H 7 7 rfl
    have h8 : av.tmps.getD 8 undef = .int .i64 0 := H 8 8 rfl
    rw [same_fold hS [29, 30, 31, 32, 28, 33, 34, 7, 8] (by kernel_rfl) (by kernel_rfl)]
    simp only [List.foldl]
    rw [h7, h8]
    simp only [Act.put, List.setIfInBounds_toArray, List.set_cons_succ, List.set_cons_zero]
    generalize av.tmps.getD 28 undef = v28
    generalize av.tmps.getD 29 undef = v29
    generalize av.tmps.getD 30 undef = v30
    generalize av.tmps.getD 31 undef = v31
    generalize av.tmps.getD 32 undef = v32
    generalize av.tmps.getD 33 undef = v33
    generalize av.tmps.getD 34 undef = v34
    have a7 := a6.kp hk (by simp)
    have L7 := L6.kp hk (by simp)
    have d0 : wv.cell? ⟨g1, 0, none⟩ = some (.int .i64 s.size) := a7.cell 0
    have d1 : wv.cell? ⟨g1, 1, none⟩ = some (.slice A n c) := a7.cell 1
    have hkv := hk06.trans hk
    clear hS H c0 c1
    go_wp2_with fail
    refine (check_yes s.size A n c hm _ HRT.out L7 (by omega) (by omega) (by omega)).mono ?_
    rintro e w8 ⟨rfl, hk8⟩
    go_wp2_with fail
    go_ret
    exact ⟨rfl, hkv.trans hk8⟩
set_option maxHeartbeats 2000000 in
theorem sback_big (s : ByteArray) (w : World) (ht : Tbk w) (hs : 512 < s.size) (hz : s.size ≤ 9223372036854775807) :
    Calls Tryd.prog 6 #[.string s] w (Yes w) := by
  go_enter Tryd.func6, Tryd.ntmps6
  go_wp2_with fail
  refine (hsawake _ ht).mono ?_
  rintro e w1 ⟨rfl, hk1⟩
  go_wp2_with fail
  refine (hsawake _ (ht.kp hk1 (by simp))).mono ?_
  rintro e w2 ⟨rfl, hk2⟩
  go_wp2_with fail
  go_ret
  exact ⟨rfl, hk1.trans hk2⟩
theorem shback_walk (v0 : Value) (w : World) (hl : LaidSha w) (i0 : In w 9 v0) : Calls Tryd.prog 6 #[v0] w (Yes w) := by
  obtain ⟨s, rfl, hs⟩ := in_string Tryd.underlying9 i0
  have ht := tbk_of hl
  by_cases h1 : s.size ≤ 512
  · exact sback_in s w ht h1
  · exact sback_big s w ht (by omega) (size_leH hs)
end Go.Proofs.YtencpplopdogmaaDoor
