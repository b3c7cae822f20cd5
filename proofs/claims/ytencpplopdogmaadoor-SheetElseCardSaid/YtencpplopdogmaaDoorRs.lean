/- The document's own Sum: its parts. -/
import Derived.Test.YtencpplopdogmaaDoorRm
import Derived.Test.YtencpplopdogmaaDoorRl
import Derived.Test.YtencpplopdogmaaDoorTl
import Derived.Deep.WholeRow
import Derived.Test.YtencpplopdogmaaDoorRg
namespace Go.Proofs.YtencpplopdogmaaDoor
set_option maxRecDepth 100000
open Go.RowKit
set_option linter.unusedVariables false

/-- Block g is just these words, and they may be written. -/
def UX (w : World) (g : Nat) (l : List Nat) : Prop := ∃ t, At w g t (wordCells l).toArray
theorem UX.lt {w : World} {g : Nat} {l : List Nat} (h : UX w g l) : g < w.heap.size := by
  obtain ⟨t, h⟩ := h
  exact h.lt
theorem UX.kp {w w' : World} {g : Nat} {l : List Nat} {S : List Nat} (h : UX w g l) (k : Kp S w w') (hS : g ∉ S) : UX w' g l := by
  obtain ⟨t, h⟩ := h
  exact ⟨t, h.kp k hS⟩
theorem UX.cell {w : World} {g j : Nat} {l : List Nat} {b : Nat} (h : UX w g l) (hb : l[j]? = some b) : w.cell? ⟨g, j, none⟩ = some (.int .u32 (b : Int)) := by
  obtain ⟨t, h⟩ := h
  rw [h.cell j]
  simp [wordCells, hb]
theorem UX.free {w : World} {g : Nat} {l : List Nat} (h : UX w g l) (j : Nat) : w.frozen? ⟨g, j, none⟩ = false := by
  obtain ⟨t, h⟩ := h
  exact h.frozen j
theorem UX.set {w : World} {g : Nat} {l : List Nat} (h : UX w g l) (j b : Nat) : UX (w.setCell ⟨g, j, none⟩ (.int .u32 (b : Int))) g (l.set j b) := by
  obtain ⟨t, h⟩ := h
  refine ⟨t, ?_⟩
  have h2 := h.set j (.int .u32 (b : Int))
  have e : (wordCells (l.set j b)).toArray = (wordCells l).toArray.setIfInBounds j (.int .u32 (b : Int)) := by
    simp [wordCells, List.map_set]
  rw [e]
  exact h2
theorem UX.drew_ {w : World} {g : Nat} {l : List Nat} (h : UX w g l) : UX w.drew g l := h
theorem UX.drewN_ {w : World} {g : Nat} {l : List Nat} (h : UX w g l) (n : Nat) : UX (w.drewN n) g l := h
theorem UX.row {w : World} {g : Nat} {l : List Nat} (h : UX w g l) (l' : List Nat) : UX (w.setRow g (wordCells l').toArray) g l' := by
  obtain ⟨t, h⟩ := h
  exact ⟨t, setRow_heap w g _ _ t (0, 0) h⟩
theorem set_frontN {l : List Nat} {i n x : Nat} (hx : l[i]? = some x) (hi : i < n) : (l.take i ++ List.replicate (n - i) 0).set i x = l.take (i + 1) ++ List.replicate (n - (i + 1)) 0 := by
  have hl : i < l.length := (List.getElem?_eq_some_iff.1 hx).1
  have h1 : (l.take i).length = i := by rw [List.length_take]; omega
  rw [List.set_append, if_neg (by omega), h1, Nat.sub_self, show n - i = (n - (i + 1)) + 1 by omega, List.replicate_succ, List.set_cons_zero, List.take_add_one, hx]
  simp
def PRS : List Nat := [2, 3, 5, 7, 11, 13, 17, 19, 23, 29, 31, 37, 41, 43, 47, 53, 59, 61, 67, 71, 73, 79, 83, 89, 97, 101, 103, 107, 109, 113, 127, 131, 137, 139, 149, 151, 157, 163, 167, 173, 179, 181, 191, 193, 197, 199, 211, 223, 227, 229, 233, 239, 241, 251, 257, 263, 269, 271, 277, 281, 283, 293, 307, 311]
theorem prs_lit : prs = PRS := by decide +kernel
theorem prs_lt (i : Fin 64) : prs.getD i.val 0 < 1000 := by
  rw [prs_lit]
  revert i
  decide
theorem begin_same : beginN = beginW := rfl
theorem primes_at (i : Nat) (h : i < 64) (w : World) : Calls Tryd.prog 50 #[.int .i64 i] w fun e w' => e = .returned (.int .u64 (prs.getD i 0 : Nat)) ∧ w = w' :=
  prime_any i _ w (prs_all ⟨i, h⟩) (by omega)
theorem squares_at (i : Nat) (h : i < 8) (w : World) : Calls Tryd.prog 49 #[.int .u64 (prs.getD i 0 : Nat)] w fun e w' => e = .returned (.int .u32 (beginW.getD i 0 : Nat)) ∧ w = w' := by
  have := square_any (prs.getD i 0) w (prs_lt ⟨i, by omega⟩)
  rw [sq_all ⟨i, h⟩] at this
  exact this
theorem cubes_at (i : Nat) (h : i < 64) (w : World) : Calls Tryd.prog 51 #[.int .u64 (prs.getD i 0 : Nat)] w fun e w' => e = .returned (.int .u32 (kW.getD i 0 : Nat)) ∧ Kp [] w w' := by
  have := cube_any (prs.getD i 0) w (prs_lt ⟨i, h⟩)
  rw [cu_all i h] at this
  exact this
theorem zero8 : (#[.int .u32 0, .int .u32 0, .int .u32 0, .int .u32 0, .int .u32 0, .int .u32 0, .int .u32 0, .int .u32 0] : Array Value) = (wordCells (List.replicate 8 0)).toArray := rfl
theorem zero64 : (#[.int .u32 0, .int .u32 0, .int .u32 0, .int .u32 0, .int .u32 0, .int .u32 0, .int .u32 0, .int .u32 0, .int .u32 0, .int .u32 0, .int .u32 0, .int .u32 0, .int .u32 0, .int .u32 0, .int .u32 0, .int .u32 0, .int .u32 0, .int .u32 0, .int .u32 0, .int .u32 0, .int .u32 0, .int .u32 0, .int .u32 0, .int .u32 0, .int .u32 0, .int .u32 0, .int .u32 0, .int .u32 0, .int .u32 0, .int .u32 0, .int .u32 0, .int .u32 0, .int .u32 0, .int .u32 0, .int .u32 0, .int .u32 0, .int .u32 0, .int .u32 0, .int .u32 0, .int .u32 0, .int .u32 0, .int .u32 0, .int .u32 0, .int .u32 0, .int .u32 0, .int .u32 0, .int .u32 0, .int .u32 0, .int .u32 0, .int .u32 0, .int .u32 0, .int .u32 0, .int .u32 0, .int .u32 0, .int .u32 0, .int .u32 0, .int .u32 0, .int .u32 0, .int .u32 0, .int .u32 0, .int .u32 0, .int .u32 0, .int .u32 0, .int .u32 0] : Array Value) = (wordCells (List.replicate 64 0)).toArray := rfl
theorem all_taken {l : List Nat} {n : Nat} (h : l.length = n) : l.take n ++ List.replicate (n - n) 0 = l := by
  rw [Nat.sub_self, List.replicate_zero, List.append_nil, List.take_of_length_le (Nat.le_of_eq h)]
theorem beginW_at {i : Nat} (h : i < 8) : beginW[i]? = some (beginW.getD i 0) := getD_at h
theorem kW_at {i : Nat} (h : i < 64) : kW[i]? = some (kW.getD i 0) := getD_at (by rw [kW_len]; exact h)
theorem built64 : Tryd.prog.built 77 [] = some (wordCells (List.replicate 64 0)).toArray := by kernel_rfl
theorem wpl_build64 {ops : Array Oper} {rest : List Oper} {o : Oper} {a : Act} {w : World} {Q : Exit → Act → World → Prop} (hg : o.guard = none) (ho : o.op = .build 77 #[]) (z : Array Value) (hz : Hid ((wordCells (List.replicate 64 0)).toArray = z))
    (h : wpList Tryd.prog ops Q rest (a.put o.dst (.agg z)) w) : wpList Tryd.prog ops Q (o :: rest) a w := by
  have hb : Tryd.prog.built 77 (((#[] : Array (Nat × Operand)).map fun (i, x) => (i, a.eval x)).toList) = some z := by
    rw [← hz.out, ← built64]
    congr 1
    simp
  refine wpList_build hg 77 #[] ho (by rw [hb]; rfl) ?_
  rw [hb]
  exact h
/-- A word so far. -/
def pw (B : List UInt8) (t : Nat) : Nat → Nat
  | 0 => 0
  | i + 1 => (pw B t i * 256 + (B.getD (4 * t + i) 0).toNat) % 4294967296
theorem pw_lt (B : List UInt8) (t : Nat) : ∀ i, pw B t i < 4294967296 := by
  intro i
  cases i with
  | zero => exact (by decide : (0 : Nat) < 4294967296)
  | succ i => exact Nat.mod_lt _ (by decide)
theorem pw_four (B : List UInt8) (t : Nat) : pw B t 4 = wordAt B t := by
  have h0 := (B.getD (4 * t + 0) 0).toNat_lt
  have h1 := (B.getD (4 * t + 1) 0).toNat_lt
  have h2 := (B.getD (4 * t + 2) 0).toNat_lt
  have h3 := (B.getD (4 * t + 3) 0).toNat_lt
  simp only [pw, wordAt, Nat.add_zero] at *
  omega
theorem sched_zero (B : List UInt8) (t : Nat) (ht : t < 64) : (sched B t ++ List.replicate (64 - t) 0).set t 0 = sched B t ++ List.replicate (64 - t) 0 := by
  rw [List.set_append, if_neg (by rw [sched_len]; omega), sched_len, Nat.sub_self, show 64 - t = (64 - (t + 1)) + 1 by omega, List.replicate_succ, List.set_cons_zero]
theorem sched_word (B : List UInt8) (t : Nat) (ht : t < 16) : (sched B t ++ List.replicate (64 - t) 0).set t (wordAt B t) = sched B (t + 1) ++ List.replicate (64 - (t + 1)) 0 := by
  rw [List.set_append, if_neg (by rw [sched_len]; omega), sched_len, Nat.sub_self, show 64 - t = (64 - (t + 1)) + 1 by omega, List.replicate_succ, List.set_cons_zero, sched]
  simp only [if_pos ht, List.append_assoc, List.singleton_append]
theorem sched_len64 (B : List UInt8) {t : Nat} (ht : t ≤ 64) : (sched B t ++ List.replicate (64 - t) 0).length = 64 := by
  rw [List.length_append, sched_len, List.length_replicate]
  omega
theorem rrot_nat {x n : Nat} (hx : x < 4294967296) (h1 : 1 ≤ n) (h2 : n ≤ 31) : ∃ y, (∀ w', Calls Tryd.prog 53 #[.int .u32 x, .int .i64 n] w' fun e w'' => e = .returned (.int .u32 (y : Nat)) ∧ ∃ m, w'' = w'.drewN m) ∧ y < 4294967296 ∧ rotn x n = y := ⟨_, fun w' => rrot_any x n w' hx h1 h2, rotn_lt x n hx, rfl⟩
theorem roundW_lt {v : List Nat} (k x : Nat) (h : ∀ y ∈ v, y < 4294967296) : ∀ y ∈ roundW v k x, y < 4294967296 := by
  unfold roundW
  split
  · rename_i a b c d e f g hh
    intro y hy
    simp only [List.mem_cons, List.not_mem_nil, or_false] at hy
    have hm : ∀ z ∈ [a, b, c, d, e, f, g, hh], z < 4294967296 := h
    rcases hy with rfl | rfl | rfl | rfl | rfl | rfl | rfl | rfl
    · exact Nat.mod_lt _ (by decide)
    · exact hm _ (by simp)
    · exact hm _ (by simp)
    · exact hm _ (by simp)
    · exact Nat.mod_lt _ (by decide)
    · exact hm _ (by simp)
    · exact hm _ (by simp)
    · exact hm _ (by simp)
  · exact h
theorem fold_parts (z : List (Nat × Nat)) : ∀ (H : List Nat), H.length = 8 → (∀ y ∈ H, y < 4294967296) → (z.foldl (fun v p => roundW v p.1 p.2) H).length = 8 ∧ ∀ y ∈ z.foldl (fun v p => roundW v p.1 p.2) H, y < 4294967296 := by
  induction z with
  | nil => intro H h1 h2; exact ⟨h1, h2⟩
  | cons p z ih => intro H h1 h2; exact ih _ (by rw [roundW_len]; exact h1) (roundW_lt _ _ h2)
theorem rnd_parts {H : List Nat} (h8 : H.length = 8) (h32 : ∀ y ∈ H, y < 4294967296) (S : List Nat) (t : Nat) :
    ∃ a b c d e f g h : Nat, rndW H S t = [a, b, c, d, e, f, g, h] ∧ (a < 4294967296 ∧ b < 4294967296 ∧ c < 4294967296 ∧ d < 4294967296 ∧ e < 4294967296 ∧ f < 4294967296 ∧ g < 4294967296 ∧ h < 4294967296) := by
  obtain ⟨h1, h2⟩ := fold_parts ((List.zip kW S).take t) H h8 h32
  unfold rndW
  generalize ((List.zip kW S).take t).foldl (fun v p => roundW v p.1 p.2) H = L at *
  match L, h1 with
  | [a, b, c, d, e, f, g, h], _ => exact ⟨a, b, c, d, e, f, g, h, rfl, by simpa using h2⟩
theorem own_emptyS (base : Nat) (w : World) (h : base ≤ w.heap.size) : OwnB base (w.alloc (.cells #[] 5)) (.slice (some ⟨w.heap.size, 0, none⟩) 0 0) [] := by
  refine ⟨rfl, .inr ⟨w.heap.size, 0, #[], rfl, h, heap_alloc_new w _, Nat.le_refl _, Nat.zero_le _, rfl, rfl⟩⟩
set_option maxHeartbeats 8000000 in
theorem rsum_any (s : ByteArray) (w : World) (hs : s.size ≤ 1000000000) :
    Calls Tryd.prog 27 #[.string s] w fun e w' => e = .returned (.string (bs (shaW s.data.toList))) ∧ Kp [] w w' := by
  obtain ⟨d, hd⟩ : ∃ d, bs (shaW s.data.toList) = d := ⟨_, rfl⟩
  rw [hd]
  have HD := Lib.hid hd
  clear hd
  go_enter Tryd.func27, Tryd.ntmps27
  go_wp2_with fail
  rw [zero8]
  have hA1 : UX (w.alloc (.cells (wordCells (List.replicate 8 0)).toArray 67)) w.heap.size (beginW.take 0 ++ List.replicate (8 - 0) 0) := by rw [List.take_zero, List.nil_append, Nat.sub_zero]; exact ⟨_, At.new _ _ _⟩
  have k1 : Kp [] w (w.alloc (.cells (wordCells (List.replicate 8 0)).toArray 67)) := (Kp.rfl_ [] w).alloc _
  obtain ⟨gh, hgh⟩ : ∃ gh, w.heap.size = gh := ⟨_, rfl⟩
  have hghw : w.heap.size ≤ gh := by omega
  simp only [hgh] at hA1 ⊢
  clear hgh
  generalize w.alloc (.cells (wordCells (List.replicate 8 0)).toArray 67) = w1 at *
  generalize (wordCells (List.replicate 8 0)).toArray = z8 at *
  go_loopg [4] 8 (fun gk iv wr => ∃ i : Nat, 8 - i ≤ gk ∧ i ≤ 8 ∧ iv = .int .i64 i ∧ UX wr gh (beginW.take i ++ List.replicate (8 - i) 0) ∧ Kp [] w wr)
  case atStart => exact ⟨0, by omega, by omega, rfl, hA1, k1⟩
  case round =>
    clear hA1 k1
    obtain ⟨i, hgk, hi, rfl, hA, hk⟩ := hrel
    by_cases hlt : i < 8
    · have hiI : (i : Int) < 8 := by omega
      have hl : (beginW.take i ++ List.replicate (8 - i) 0).length = 8 := by rw [List.length_append, List.length_take, List.length_replicate, show beginW.length = 8 from rfl]; omega
      have c := hA.cell (getD_at (j := i) (by omega))
      have f := hA.free i
      have hset := hA.set i (beginW.getD i 0)
      rw [set_frontN (beginW_at hlt) hlt] at hset
      have hk2 : Kp [] w (wr.setCell ⟨gh, i, none⟩ (.int .u32 (beginW.getD i 0 : Nat))) := hk.set (by simp; omega) _
      have HSET := Lib.hid hset
      have hp := primes_at i (by omega)
      have hq := squares_at i hlt
      have HP := Lib.hid hp
      have HQ := Lib.hid hq
      clear hset hp hq hA hl
      generalize beginW.getD i 0 = x at *
      generalize prs.getD i 0 = p at *
      go_wp2_with fail
      refine (HP.out _).mono ?_
      rintro e w8 ⟨rfl, rfl⟩
      go_wp2_with fail
      refine (HQ.out _).mono ?_
      rintro e w8 ⟨rfl, rfl⟩
      go_wp2_with fail
      go_roundg (8 - (i + 1))
      case measure => omega
      case rel => exact ⟨i + 1, by omega, by omega, by go_num, HSET.out, hk2⟩
    · obtain rfl : i = 8 := by omega
      have hA8 : UX wr gh beginW := by rw [all_taken (show beginW.length = 8 from rfl)] at hA; exact hA
      clear hA
      have hghr : gh < wr.heap.size := hA8.lt
      obtain ⟨z64, hz64⟩ : ∃ z, (wordCells (List.replicate 64 0)).toArray = z := ⟨_, rfl⟩
      have hsz : z64.size = 64 := by rw [← hz64]; simp [wordCells]
      have hinf : (Tryd.prog.info? 77).map (·.size) = some z64.size := by rw [hsz]; kernel_rfl
      have hone : z64.all (·.oneCell') = true := by
        rw [← hz64]
        simp only [List.all_toArray, wordCells, List.all_map, List.all_eq_true]
        intro x _
        rfl
      have hold : ∀ z : Value, (#[z, z, z, z, z, z, z, z, z, z, z, z, z, z, z, z, z, z, z, z, z, z, z, z, z, z, z, z, z, z, z, z, z, z, z, z, z, z, z, z, z, z, z, z, z, z, z, z, z, z, z, z, z, z, z, z, z, z, z, z, z, z, z, z] : Array Value).size = z64.size := fun z => by rw [hsz]; rfl
      have HZ := Lib.hid hz64
      clear hz64
      go_wp2_with (first | refine wpl_build64 rfl rfl z64 HZ ?_ | refine wpList_store_row rfl 77 _ _ rfl wr.heap.size z64 rfl rfl 77 _ (heap_alloc_new _ _) hinf (hold _) hone ?_)
      rw [World.setRow_alloc_new]
      have hK1 : UX (wr.alloc (.cells z64 77)) wr.heap.size (kW.take 0 ++ List.replicate (64 - 0) 0) := by rw [List.take_zero, List.nil_append, Nat.sub_zero, ← HZ.out]; exact ⟨_, At.new _ _ _⟩
      have hA9 : UX (wr.alloc (.cells z64 77)) gh beginW := hA8.kp ((Kp.rfl_ [] wr).alloc _) (by simp)
      have k2 : Kp [] w (wr.alloc (.cells z64 77)) := hk.alloc _
      obtain ⟨gK, hgk2⟩ : ∃ gK, wr.heap.size = gK := ⟨_, rfl⟩
      simp only [hgk2] at hK1 hghr ⊢
      clear hgk2 hA8 hk
      generalize wr.alloc (.cells z64 77) = w2 at *
      go_loopg [6] 64 (fun gg iv wr => ∃ i : Nat, 64 - i ≤ gg ∧ i ≤ 64 ∧ iv = .int .i64 i ∧ UX wr gK (kW.take i ++ List.replicate (64 - i) 0) ∧ UX wr gh beginW ∧ Kp [] w wr)
      case atStart => exact ⟨0, by omega, by omega, rfl, hK1, hA9, k2⟩
      case round =>
        clear hK1 hA9 k2
        obtain ⟨i, hgi, hi, rfl, hK, hA, hk⟩ := hrel
        by_cases hlt : i < 64
        · have hiI : (i : Int) < 64 := by omega
          have hl : (kW.take i ++ List.replicate (64 - i) 0).length = 64 := by rw [List.length_append, List.length_take, List.length_replicate, kW_len]; omega
          have hp := primes_at i (by omega)
          have hq := cubes_at i hlt
          have HP := Lib.hid hp
          have HQ := Lib.hid hq
          have hx := kW_at hlt
          clear hp hq
          generalize kW.getD i 0 = x at *
          generalize prs.getD i 0 = p at *
          go_wp2_with fail
          refine (HP.out _).mono ?_
          rintro e w8 ⟨rfl, rfl⟩
          go_wp2_with fail
          refine (HQ.out _).mono ?_
          rintro e w8 ⟨rfl, k8⟩
          have hK8 := hK.kp k8 (by simp)
          have hA8 := hA.kp k8 (by simp)
          have hk8 := hk.trans k8
          have c := hK8.cell (getD_at (j := i) (by omega))
          have f := hK8.free i
          have hset := hK8.set i x
          rw [set_frontN hx hlt] at hset
          have hk9 : Kp [] w (w8.setCell ⟨gK, i, none⟩ (.int .u32 (x : Int))) := hk8.set (by simp; omega) _
          have hA9 : UX (w8.setCell ⟨gK, i, none⟩ (.int .u32 (x : Int))) gh beginW := hA8.kp ((Kp.rfl_ [gK] w8).set (by simp) _) (by simp; omega)
          have HSET := Lib.hid hset
          clear hset hK8 hA8 hk8 hK hA hk k8 hx hl
          go_wp2_with fail
          go_roundg (64 - (i + 1))
          case measure => omega
          case rel => exact ⟨i + 1, by omega, by omega, by go_num, HSET.out, hA9, hk9⟩
        · obtain rfl : i = 64 := by omega
          have hK64 : UX wr gK kW := by rw [all_taken kW_len] at hK; exact hK
          clear hK
          go_wp2_with fail
          refine (message_any s _ hs).mono ?_
          rintro e wm ⟨gm, cm, n, l, hl, hn, rfl, hgm, hL, hbel⟩
          have hghm : gh < gm := Nat.lt_of_lt_of_le hA.lt hgm
          have hgKm : gK < gm := Nat.lt_of_lt_of_le hK64.lt hgm
          have km := Kp.of_below hbel
          have hKm := hK64.kp km (by simp)
          have hAm := hA.kp km (by simp)
          have hkm := hk.trans km
          clear hK64 hA hk hbel km
          obtain ⟨nb, hnb⟩ : ∃ nb, (s.size + 72) / 64 = nb := ⟨_, rfl⟩
          have hn64 : n = 64 * nb := by
            rw [← hn, hl, List.length_append]
            have h1 : s.data.toList.length = s.size := by simp
            have h2 : (padW s.size).length = 1 + ((119 - s.size % 64) % 64 + 8) := by simp [padW]; omega
            omega
          have hnbb : nb ≤ 20000000 := by omega
          have HN := Lib.hid hn64
          have HLL := Lib.hid hn
          have HL2 := Lib.hid hl
          have HNB := Lib.hid hnb
          clear hn64 hn hl hnb
          go_wp2_with fail
          go_loopg [8] nb (fun gg av wr => ∃ b : Nat, nb - b ≤ gg ∧ b ≤ nb ∧ av = .int .i64 (64 * (b : Int)) ∧ UX wr gh (blocksW b beginW l) ∧ UX wr gK kW ∧ Ls wr (some ⟨gm, 0, none⟩) n (Lib.byteCells l) ∧ Kp [] w wr)
          case atStart => exact ⟨0, by omega, by omega, rfl, hAm, hKm, hL, hkm⟩
          case round =>
            clear hAm hKm hL hkm
            obtain ⟨b, hgb, hb, rfl, hA, hK, hL, hk⟩ := hrel
            by_cases hlt : b < nb
            · have hbI : 64 * (b : Int) < (n : Int) := by have := HN.out; omega
              have hbn : 64 * b + 64 ≤ n := by have := HN.out; omega
              obtain ⟨B, hB⟩ : ∃ B, (l.drop (64 * b)).take 64 = B := ⟨_, rfl⟩
              have hBl : B.length = 64 := by rw [← hB, List.length_take, List.length_drop, HLL.out]; omega
              have hBj : ∀ j, j < 64 → l[64 * b + j]? = some (B.getD j 0) := by
                intro j hj
                rw [List.getD_eq_getElem?_getD, ← hB, List.getElem?_take, if_pos hj, List.getElem?_drop]
                have : 64 * b + j < l.length := by rw [HLL.out]; omega
                rw [List.getElem?_eq_getElem this]
                rfl
              have hsz : z64.size = 64 := by rw [← HZ.out]; simp [wordCells]
              have hinf : (Tryd.prog.info? 77).map (·.size) = some z64.size := by rw [hsz]; kernel_rfl
              have hone : z64.all (·.oneCell') = true := by
                rw [← HZ.out]
                simp only [List.all_toArray, wordCells, List.all_map, List.all_eq_true]
                intro x _
                rfl
              have hold : ∀ z : Value, (#[z, z, z, z, z, z, z, z, z, z, z, z, z, z, z, z, z, z, z, z, z, z, z, z, z, z, z, z, z, z, z, z, z, z, z, z, z, z, z, z, z, z, z, z, z, z, z, z, z, z, z, z, z, z, z, z, z, z, z, z, z, z, z, z] : Array Value).size = z64.size := fun z => by rw [hsz]; rfl
              have HB := Lib.hid hB
              have HBJ := Lib.hid hBj
              have HBL := Lib.hid hBl
              have hnext : blocksW (b + 1) beginW l = takeW (blocksW b beginW l) B := by rw [blocksW_snoc, hB]
              obtain ⟨H, hH⟩ : ∃ H, blocksW b beginW l = H := ⟨_, rfl⟩
              have hH8 : H.length = 8 := by rw [← hH]; exact blocksW_len _ _ _
              have hH32 : ∀ x ∈ H, x < 4294967296 := by rw [← hH]; exact blocksW_lt _ _ _ (by decide)
              rw [hH] at hA hnext
              have HNEXT := Lib.hid hnext
              clear hB hBj hBl hnext hH
              have hwr : gh < wr.heap.size ∧ gK < wr.heap.size := ⟨hA.lt, hK.lt⟩
              go_wp2_with (first | refine wpl_build64 rfl rfl z64 HZ ?_ | refine wpList_store_row rfl 77 _ _ rfl wr.heap.size z64 rfl rfl 77 _ (heap_alloc_new _ _) hinf (hold _) hone ?_)
              rw [World.setRow_alloc_new]
              have hW : UX (wr.alloc (.cells z64 77)) wr.heap.size (sched B 0 ++ List.replicate (64 - 0) 0) := by
                rw [show sched B 0 = [] from rfl, List.nil_append, Nat.sub_zero, ← HZ.out]; exact ⟨_, At.new _ _ _⟩
              have ka : Kp [] wr (wr.alloc (.cells z64 77)) := (Kp.rfl_ [] wr).alloc _
              have hA2 := hA.kp ka (by simp)
              have hK2 := hK.kp ka (by simp)
              have hL2 := hL.kp ka (by simp)
              have hk2 := hk.trans ka
              obtain ⟨gW, hgW⟩ : ∃ gW, wr.heap.size = gW := ⟨_, rfl⟩
              have hwle := hk.size
              have hmlt : 0 < n → gm < wr.heap.size := fun h => hL.off h _ rfl
              simp only [hgW] at hW hwr hwle hmlt ⊢
              have hmW : gm < gW := hmlt (by omega)
              clear hgW ka hA hK hL hk hinf hone hold hsz hmlt
              generalize wr.alloc (.cells z64 77) = w4 at *
              go_wp2_with fail
              go_loopg [10] 64 (fun gg tv wr => ∃ t : Nat, 64 - t ≤ gg ∧ t ≤ 64 ∧ tv = .int .i64 t ∧ UX wr gW (sched B t ++ List.replicate (64 - t) 0) ∧ UX wr gh H ∧ UX wr gK kW ∧ Ls wr (some ⟨gm, 0, none⟩) n (Lib.byteCells l) ∧ Kp [] w wr)
              case atStart => exact ⟨0, by omega, by omega, rfl, hW, hA2, hK2, hL2, hk2⟩
              case round =>
                clear hW hA2 hK2 hL2 hk2
                obtain ⟨t, hgt, ht, rfl, hW, hA, hK, hL, hk⟩ := hrel
                by_cases ht64 : t < 64
                · have htI : (t : Int) < 64 := by omega
                  by_cases ht16 : t < 16
                  · have htI16 : (t : Int) < 16 := by omega
                    have hsl := sched_len64 B ht
                    have hsz0 := sched_zero B t ht64
                    have hW0 : UX wr gW ((sched B t ++ List.replicate (64 - t) 0).set t (pw B t 0)) := by
                      show UX wr gW ((sched B t ++ List.replicate (64 - t) 0).set t 0)
                      rw [hsz0]; exact hW
                    have HWD := Lib.hid (sched_word B t ht16)
                    obtain ⟨S, hS⟩ : ∃ S, sched B t ++ List.replicate (64 - t) 0 = S := ⟨_, rfl⟩
                    rw [hS] at hW0 hsl HWD
                    clear hsz0 hS hW
                    go_wp2_with fail
                    go_loopg [11] 4 (fun gg iv wr => ∃ i : Nat, 4 - i ≤ gg ∧ i ≤ 4 ∧ iv = .int .i64 i ∧ UX wr gW (S.set t (pw B t i)) ∧ UX wr gh H ∧ UX wr gK kW ∧ Ls wr (some ⟨gm, 0, none⟩) n (Lib.byteCells l) ∧ Kp [] w wr)
                    case atStart => exact ⟨0, by omega, by omega, rfl, hW0, hA, hK, hL, hk⟩
                    case round =>
                      clear hW0 hA hK hL hk
                      obtain ⟨i, hgi, hi, rfl, hW, hA, hK, hL, hk⟩ := hrel
                      by_cases hi4 : i < 4
                      · have hiI : (i : Int) < 4 := by omega
                        have hx32 := pw_lt B t i
                        have hnext : pw B t (i + 1) = (pw B t i * 256 + (B.getD (4 * t + i) 0).toNat) % 4294967296 := rfl
                        have hbj := HBJ.out (4 * t + i) (by omega)
                        obtain ⟨u, hu⟩ : ∃ u, B.getD (4 * t + i) 0 = u := ⟨_, rfl⟩
                        rw [hu] at hnext hbj
                        have hcm : wr.cell? ⟨gm, 64 * b + (4 * t + i), none⟩ = some (.int .u8 (u.toNat : Int)) := by
                          obtain ⟨ad, e, _, hc⟩ := hL.2 (by omega)
                          injection e with e
                          subst e
                          have := hc (64 * b + (4 * t + i)) (.int .u8 (u.toNat : Int)) (by unfold Lib.byteCells; rw [List.getElem?_map, hbj]; rfl)
                          rwa [addr0] at this
                        have hls : (S.set t (pw B t i)).length = 64 := by rw [List.length_set, hsl]
                        have hst : (S.set t (pw B t i))[t]? = some (pw B t i) := by rw [List.getElem?_set_self (by omega)]
                        have c := hW.cell hst
                        have f := hW.free t
                        have hset := hW.set t (pw B t (i + 1))
                        rw [List.set_set] at hset
                        have j1 : (64 * (b : Int) + 4 * (t : Int) + (i : Int)).toNat = 64 * b + (4 * t + i) := by omega
                        have j2 : (0 : Int) ≤ 64 * (b : Int) + 4 * (t : Int) + (i : Int) := by omega
                        have j3 : 64 * (b : Int) + 4 * (t : Int) + (i : Int) < (n : Int) := by omega
                        have u256 := u.toNat_lt
                        obtain ⟨y, hy⟩ : ∃ y, pw B t (i + 1) = y := ⟨_, rfl⟩
                        rw [hy] at hset hnext
                        have HY := Lib.hid hy
                        have hk3 : Kp [] w (wr.setCell ⟨gW, t, none⟩ (.int .u32 (y : Int))) := hk.set (by simp; omega) _
                        have ks : Kp [gW] wr (wr.setCell ⟨gW, t, none⟩ (.int .u32 (y : Int))) := (Kp.rfl_ [gW] wr).set (by simp) _
                        have hA3 := hA.kp ks (by simp; omega)
                        have hK3 := hK.kp ks (by simp; omega)
                        have hL3 := hL.kp ks (by rintro _ ad ⟨⟩; simp; omega)
                        clear hy hbj hu hst hls hW hA hK hL hk ks
                        generalize pw B t i = x at *
                        have F : ((x : Int) * 256 + (u.toNat : Int)) % 4294967296 = (y : Int) := by omega
                        generalize u.toNat = un at *
                        go_wp2_with fail
                        go_region
                        have F2 : (x : Int) * 256 % 4294967296 + (un : Int) = (y : Int) := by omega
                        rw [F2]
                        have hW4 : UX (wr.setCell ⟨gW, t, none⟩ (.int .u32 (y : Int))).drew gW (S.set t y) := hset
                        have hA4 := hA3.drew_
                        have hK4 := hK3.drew_
                        have hL4 : Ls (wr.setCell ⟨gW, t, none⟩ (.int .u32 (y : Int))).drew (some ⟨gm, 0, none⟩) n (Lib.byteCells l) := hL3
                        have hk4 := hk3.drew
                        clear hset hA3 hK3 hL3 hk3 c f hcm F F2
                        generalize (wr.setCell ⟨gW, t, none⟩ (.int .u32 (y : Int))).drew = wq at *
                        go_wp2_with fail
                        go_roundg (4 - (i + 1))
                        case measure => omega
                        case rel => exact ⟨i + 1, by omega, by omega, by go_num, by rw [HY.out]; exact hW4, hA4, hK4, hL4, hk4⟩
                      · obtain rfl : i = 4 := by omega
                        rw [pw_four, HWD.out] at hW
                        go_wp2_with fail
                        go_roundg (64 - (t + 1))
                        case measure => omega
                        case rel => exact ⟨t + 1, by omega, by omega, by go_num, hW, hA, hK, hL, hk⟩
                  · have htI16 : ¬ (t : Int) < 16 := by omega
                    obtain ⟨p, hp, hp2, hp3⟩ := sched_get B t (t - 16) (by omega)
                    obtain ⟨x, hx, hx2, hx3⟩ := sched_get B t (t - 15) (by omega)
                    obtain ⟨qq, hq, hq2, hq3⟩ := sched_get B t (t - 7) (by omega)
                    obtain ⟨y, hy, hy2, hy3⟩ := sched_get B t (t - 2) (by omega)
                    have cp := hW.cell hp
                    have cx := hW.cell hx
                    have cq := hW.cell hq
                    have cy := hW.cell hy
                    have n1 : ((t : Int) - 16).toNat = t - 16 := by omega
                    have n2 : ((t : Int) - 15).toNat = t - 15 := by omega
                    have n3 : ((t : Int) - 7).toNat = t - 7 := by omega
                    have n4 : ((t : Int) - 2).toNat = t - 2 := by omega
                    have m1 : IntKind.i64.wrap ((t : Int) - 16) = (t : Int) - 16 := IntWalk.i64_in _ (by omega)
                    have m2 : IntKind.i64.wrap ((t : Int) - 15) = (t : Int) - 15 := IntWalk.i64_in _ (by omega)
                    have m3 : IntKind.i64.wrap ((t : Int) - 7) = (t : Int) - 7 := IntWalk.i64_in _ (by omega)
                    have m4 : IntKind.i64.wrap ((t : Int) - 2) = (t : Int) - 2 := IntWalk.i64_in _ (by omega)
                    have p0 : (16 : Int) ≤ (t : Int) := by omega
                    have pl2 : (2 : Int) ≤ (t : Int) := by omega
                    have pu2 : (t : Int) < 66 := by omega
                    have pl7 : (7 : Int) ≤ (t : Int) := by omega
                    have pu7 : (t : Int) < 71 := by omega
                    have pl15 : (15 : Int) ≤ (t : Int) := by omega
                    have pu15 : (t : Int) < 79 := by omega
                    have pu16 : (t : Int) < 80 := by omega
                    have nb16 : ¬ (64 : Int) ≤ (t : Int) - 16 := by omega
                    have nb7 : ¬ (64 : Int) ≤ (t : Int) - 7 := by omega
                    have nb16 : ¬ (64 : Int) ≤ (t : Int) - 16 := by omega
                    have nb7 : ¬ (64 : Int) ≤ (t : Int) - 7 := by omega
                    have p1 : (0 : Int) ≤ (t : Int) - 16 := by omega
                    have p2 : (0 : Int) ≤ (t : Int) - 15 := by omega
                    have p3 : (0 : Int) ≤ (t : Int) - 7 := by omega
                    have p4 : (0 : Int) ≤ (t : Int) - 2 := by omega
                    have q1 : (t : Int) - 16 < 64 := by omega
                    have q2 : (t : Int) - 15 < 64 := by omega
                    have q3 : (t : Int) - 7 < 64 := by omega
                    have q4 : (t : Int) - 2 < 64 := by omega
                    have hlen := sched_len64 B ht
                    have ct := hW.cell (getD_at (j := t) (by omega))
                    have ft := hW.free t
                    have hset := sched_set2 B t (by omega) ht64 p qq x y hp2 hx2 hq2 hy2
                    obtain ⟨r1, HR1, br1, e1⟩ := rrot_nat (x := x) (n := 7) hx3 (by omega) (by omega)
                    obtain ⟨r2, HR2, br2, e2⟩ := rrot_nat (x := x) (n := 18) hx3 (by omega) (by omega)
                    obtain ⟨r3, HR3, br3, e3⟩ := rrot_nat (x := y) (n := 17) hy3 (by omega) (by omega)
                    obtain ⟨r4, HR4, br4, e4⟩ := rrot_nat (x := y) (n := 19) hy3 (by omega) (by omega)
                    obtain ⟨y1, X1, l1, f1⟩ := xor_nat br1 br2
                    obtain ⟨y2, X2, l2, f2⟩ := xor_nat (a := y1) (b := x / 8) l1 (by omega)
                    obtain ⟨y3, X3, l3, f3⟩ := xor_nat br3 br4
                    obtain ⟨y4, X4, l4, f4⟩ := xor_nat (a := y3) (b := y / 1024) l3 (by omega)
                    have hlow : lowW x = y2 := by unfold lowW; rw [e1, e2, f1]; exact f2
                    have hhigh : highW y = y4 := by unfold highW; rw [e3, e4, f3]; exact f4
                    rw [hlow, hhigh] at hset
                    rw [show ((x / 8 : Nat) : Int) = (x : Int) / 8 by omega] at X2
                    rw [show ((y / 1024 : Nat) : Int) = (y : Int) / 1024 by omega] at X4
                    obtain ⟨z, hz⟩ : ∃ z, (p + y2 + qq + y4) % 4294967296 = z := ⟨_, rfl⟩
                    rw [hz] at hset
                    have HE := Lib.hid hset
                    obtain ⟨s1, hs1⟩ : ∃ s1, (p + y2) % 4294967296 = s1 := ⟨_, rfl⟩
                    obtain ⟨s2, hs2⟩ : ∃ s2, (s1 + qq) % 4294967296 = s2 := ⟨_, rfl⟩
                    have F1 : IntKind.u32.wrap ((p : Int) + (y2 : Int)) = (s1 : Int) := by rw [IntKind.wrap_u32]; omega
                    have F2 : IntKind.u32.wrap ((s1 : Int) + (qq : Int)) = (s2 : Int) := by rw [IntKind.wrap_u32]; omega
                    have F3 : IntKind.u32.wrap ((s2 : Int) + (y4 : Int)) = (z : Int) := by rw [IntKind.wrap_u32]; omega
                    have hkw := hk
                    have hgWl : gW < wr.heap.size := hW.lt
                    clear hset hz hs1 hs2 hp hx hq hy hp2 hx2 hq2 hy2 hlow hhigh e1 e2 e3 e4 f1 f2 f3 f4 hlen hk
                    generalize (sched B t ++ List.replicate (64 - t) 0).getD t 0 = y0 at *
                    go_wp2_with fail
                    refine region_inv_s (fun q v w' => match q with
                      | 0 => v = .int .i64 t
                      | 1 => v = .int .i64 t
                      | 2 => v = .int .i64 ((t : Int) - 16)
                      | 3 => v = .pointer (some ⟨gW, t - 16, none⟩)
                      | 4 => v = .int .u32 p
                      | 5 => v = .int .u32 x
                      | 6 => v = .int .u32 r1
                      | 7 => v = .int .u32 x
                      | 8 => v = .int .u32 r2
                      | 9 => v = .int .u32 y1
                      | 10 => v = .int .u32 x
                      | 11 => v = .int .u32 ((x : Int) / 8)
                      | 12 => v = .int .u32 y2
                      | 13 => v = .int .u32 s1
                      | 14 => v = .int .i64 t
                      | 15 => v = .int .i64 ((t : Int) - 7)
                      | 16 => v = .pointer (some ⟨gW, t - 7, none⟩)
                      | 17 => v = .int .u32 qq
                      | 18 => v = .int .u32 s2
                      | 19 => v = .int .u32 y
                      | 20 => v = .int .u32 r3
                      | 21 => v = .int .u32 y
                      | 22 => v = .int .u32 r4
                      | 23 => v = .int .u32 y3
                      | 24 => v = .int .u32 y
                      | 25 => v = .int .u32 ((y : Int) / 1024)
                      | 26 => v = .int .u32 y4
                      | 27 => v = .int .u32 z
                      | _ => v = .pointer (some ⟨gW, t, none⟩)) (by kernel_rfl) _ rfl (by kernel_rfl) (by kernel_rfl) (by kernel_rfl) (by kernel_rfl) ?_ ?_ ?_
                    · intro q v w1 w2 hF hK
                      rcases q with _|_|_|_|_|_|_|_|_|_|_|_|_|_|_|_|_|_|_|_|_|_|_|_|_|_|_|_|q
                      all_goals first | exact hF | (obtain ⟨h, e, hl⟩ := hF; exact ⟨h, e, hl.kp hK (by simp)⟩)
                    · intro q o hqn ho av wv K hS hk H hK
                      have hf9 : av.eval (.tmp 9) = .pointer (some ⟨gW, 0, none⟩) := (hS.2.2 9 (nofill (by kernel_rfl))).trans rfl
                      have hf10 : av.eval (.tmp 10) = .int .i64 t := (hS.2.2 10 (nofill (by kernel_rfl))).trans rfl
                      have hf12 : av.eval (.tmp 12) = .int .u32 x := (hS.2.2 12 (nofill (by kernel_rfl))).trans rfl
                      have hf13 : av.eval (.tmp 13) = .int .u32 y := (hS.2.2 13 (nofill (by kernel_rfl))).trans rfl
                      have cp2 := (hk.cell (p := ⟨gW, t - 16, none⟩) hgWl (by simp)).trans cp
                      have cq2 := (hk.cell (p := ⟨gW, t - 7, none⟩) hgWl (by simp)).trans cq
                      have ct2 := (hk.cell (p := ⟨gW, t, none⟩) hgWl (by simp)).trans ct
                      have ft2 := (hk.frozen (p := ⟨gW, t, none⟩) hgWl (by simp)).trans ft
                      rcases q with _|_|_|_|_|_|_|_|_|_|_|_|_|_|_|_|_|_|_|_|_|_|_|_|_|_|_|_|_|q
                      all_goals try (obtain rfl := Option.some.inj ho)
                      · have e10 := gd hf10
                        exact wpOp_value rfl rfl (v := .int .i64 t) (w' := wv) (by simp [execOp, go_sem, e10]) (hK _ _ (Kp.rfl_ _ _) rfl)
                      · have e10 := gd hf10
                        exact wpOp_value rfl rfl (v := .int .i64 t) (w' := wv) (by simp [execOp, go_sem, e10]) (hK _ _ (Kp.rfl_ _ _) rfl)
                      · have e88 := gd (H 1 88 (by kernel_rfl) rfl)
                        exact wpOp_value rfl rfl (v := .int .i64 ((t : Int) - 16)) (w' := wv) (by simp [execOp, go_sem, e88, m1]) (hK _ _ (Kp.rfl_ _ _) rfl)
                      · have e9 := gd hf9
                        have e89 := gd (H 2 89 (by kernel_rfl) rfl)
                        exact wpOp_value rfl rfl (v := .pointer (some ⟨gW, t - 16, none⟩)) (w' := wv) (by simp [execOp, go_sem, e9, e89, p0, nb16, n1]) (hK _ _ (Kp.rfl_ _ _) rfl)
                      · have e90 := gd (H 3 90 (by kernel_rfl) rfl)
                        exact wpOp_value rfl rfl (v := .int .u32 p) (w' := wv) (by simp [execOp, go_sem, e90, cp2]) (hK _ _ (Kp.rfl_ _ _) rfl)
                      · have e12 := gd hf12
                        exact wpOp_value rfl rfl (v := .int .u32 x) (w' := wv) (by simp [execOp, go_sem, e12]) (hK _ _ (Kp.rfl_ _ _) rfl)
                      · have e92 := gd (H 5 92 (by kernel_rfl) rfl)
                        refine wpOp_call rfl rfl (f := 53) (args := #[.int .u32 x, .int .i64 7]) (w1 := wv) (by simp [execOp, go_sem, e92]) ?_
                        refine (HR1 _).mono ?_
                        rintro e w8 ⟨rfl, m, rfl⟩
                        exact ⟨_, rfl, hK _ _ ((Kp.rfl_ _ _).drewN m) rfl⟩
                      · have e12 := gd hf12
                        exact wpOp_value rfl rfl (v := .int .u32 x) (w' := wv) (by simp [execOp, go_sem, e12]) (hK _ _ (Kp.rfl_ _ _) rfl)
                      · have e94 := gd (H 7 94 (by kernel_rfl) rfl)
                        refine wpOp_call rfl rfl (f := 53) (args := #[.int .u32 x, .int .i64 18]) (w1 := wv) (by simp [execOp, go_sem, e94]) ?_
                        refine (HR2 _).mono ?_
                        rintro e w8 ⟨rfl, m, rfl⟩
                        exact ⟨_, rfl, hK _ _ ((Kp.rfl_ _ _).drewN m) rfl⟩
                      · have e93 := gd (H 6 93 (by kernel_rfl) rfl)
                        have e95 := gd (H 8 95 (by kernel_rfl) rfl)
                        exact wpOp_value rfl rfl (v := .int .u32 y1) (w' := wv) (by simp [execOp, go_sem, e93, e95, X1]) (hK _ _ (Kp.rfl_ _ _) rfl)
                      · have e12 := gd hf12
                        exact wpOp_value rfl rfl (v := .int .u32 x) (w' := wv) (by simp [execOp, go_sem, e12]) (hK _ _ (Kp.rfl_ _ _) rfl)
                      · have e97 := gd (H 10 97 (by kernel_rfl) rfl)
                        exact wpOp_value rfl rfl (v := .int .u32 ((x : Int) / 8)) (w' := wv) (by simp [execOp, go_sem, e97]) (hK _ _ (Kp.rfl_ _ _) rfl)
                      · have e96 := gd (H 9 96 (by kernel_rfl) rfl)
                        have e98 := gd (H 11 98 (by kernel_rfl) rfl)
                        exact wpOp_value rfl rfl (v := .int .u32 y2) (w' := wv) (by simp [execOp, go_sem, e96, e98, X2]) (hK _ _ (Kp.rfl_ _ _) rfl)
                      · have e91 := gd (H 4 91 (by kernel_rfl) rfl)
                        have e99 := gd (H 12 99 (by kernel_rfl) rfl)
                        exact wpOp_value rfl rfl (v := .int .u32 s1) (w' := wv) (by simp [execOp, go_sem, e91, e99, F1]) (hK _ _ (Kp.rfl_ _ _) rfl)
                      · have e10 := gd hf10
                        exact wpOp_value rfl rfl (v := .int .i64 t) (w' := wv) (by simp [execOp, go_sem, e10]) (hK _ _ (Kp.rfl_ _ _) rfl)
                      · have e101 := gd (H 14 101 (by kernel_rfl) rfl)
                        exact wpOp_value rfl rfl (v := .int .i64 ((t : Int) - 7)) (w' := wv) (by simp [execOp, go_sem, e101, m3]) (hK _ _ (Kp.rfl_ _ _) rfl)
                      · have e9 := gd hf9
                        have e102 := gd (H 15 102 (by kernel_rfl) rfl)
                        exact wpOp_value rfl rfl (v := .pointer (some ⟨gW, t - 7, none⟩)) (w' := wv) (by simp [execOp, go_sem, e9, e102, pl7, nb7, n3]) (hK _ _ (Kp.rfl_ _ _) rfl)
                      · have e103 := gd (H 16 103 (by kernel_rfl) rfl)
                        exact wpOp_value rfl rfl (v := .int .u32 qq) (w' := wv) (by simp [execOp, go_sem, e103, cq2]) (hK _ _ (Kp.rfl_ _ _) rfl)
                      · have e100 := gd (H 13 100 (by kernel_rfl) rfl)
                        have e104 := gd (H 17 104 (by kernel_rfl) rfl)
                        exact wpOp_value rfl rfl (v := .int .u32 s2) (w' := wv) (by simp [execOp, go_sem, e100, e104, F2]) (hK _ _ (Kp.rfl_ _ _) rfl)
                      · have e13 := gd hf13
                        exact wpOp_value rfl rfl (v := .int .u32 y) (w' := wv) (by simp [execOp, go_sem, e13]) (hK _ _ (Kp.rfl_ _ _) rfl)
                      · have e106 := gd (H 19 106 (by kernel_rfl) rfl)
                        refine wpOp_call rfl rfl (f := 53) (args := #[.int .u32 y, .int .i64 17]) (w1 := wv) (by simp [execOp, go_sem, e106]) ?_
                        refine (HR3 _).mono ?_
                        rintro e w8 ⟨rfl, m, rfl⟩
                        exact ⟨_, rfl, hK _ _ ((Kp.rfl_ _ _).drewN m) rfl⟩
                      · have e13 := gd hf13
                        exact wpOp_value rfl rfl (v := .int .u32 y) (w' := wv) (by simp [execOp, go_sem, e13]) (hK _ _ (Kp.rfl_ _ _) rfl)
                      · have e108 := gd (H 21 108 (by kernel_rfl) rfl)
                        refine wpOp_call rfl rfl (f := 53) (args := #[.int .u32 y, .int .i64 19]) (w1 := wv) (by simp [execOp, go_sem, e108]) ?_
                        refine (HR4 _).mono ?_
                        rintro e w8 ⟨rfl, m, rfl⟩
                        exact ⟨_, rfl, hK _ _ ((Kp.rfl_ _ _).drewN m) rfl⟩
                      · have e107 := gd (H 20 107 (by kernel_rfl) rfl)
                        have e109 := gd (H 22 109 (by kernel_rfl) rfl)
                        exact wpOp_value rfl rfl (v := .int .u32 y3) (w' := wv) (by simp [execOp, go_sem, e107, e109, X3]) (hK _ _ (Kp.rfl_ _ _) rfl)
                      · have e13 := gd hf13
                        exact wpOp_value rfl rfl (v := .int .u32 y) (w' := wv) (by simp [execOp, go_sem, e13]) (hK _ _ (Kp.rfl_ _ _) rfl)
                      · have e111 := gd (H 24 111 (by kernel_rfl) rfl)
                        exact wpOp_value rfl rfl (v := .int .u32 ((y : Int) / 1024)) (w' := wv) (by simp [execOp, go_sem, e111]) (hK _ _ (Kp.rfl_ _ _) rfl)
                      · have e110 := gd (H 23 110 (by kernel_rfl) rfl)
                        have e112 := gd (H 25 112 (by kernel_rfl) rfl)
                        exact wpOp_value rfl rfl (v := .int .u32 y4) (w' := wv) (by simp [execOp, go_sem, e110, e112, X4]) (hK _ _ (Kp.rfl_ _ _) rfl)
                      · have e105 := gd (H 18 105 (by kernel_rfl) rfl)
                        have e113 := gd (H 26 113 (by kernel_rfl) rfl)
                        exact wpOp_value rfl rfl (v := .int .u32 z) (w' := wv) (by simp [execOp, go_sem, e105, e113, F3]) (hK _ _ (Kp.rfl_ _ _) rfl)
                      · have e9 := gd hf9
                        have e87 := gd (H 0 87 (by kernel_rfl) rfl)
                        exact wpOp_value rfl rfl (v := .pointer (some ⟨gW, t, none⟩)) (w' := wv) (by simp [execOp, go_sem, e9, e87, htI]) (hK _ _ (Kp.rfl_ _ _) rfl)
                      · simp at hqn; omega
                    · intro av wv hS hk H
                      have e115 := gd (H 28 115 (by decide) rfl)
                      have e114 := gd (H 27 114 (by decide) rfl)
                      have cp2 := (hk.cell (p := ⟨gW, t - 16, none⟩) hgWl (by simp)).trans cp
                      have cq2 := (hk.cell (p := ⟨gW, t - 7, none⟩) hgWl (by simp)).trans cq
                      have ct2 := (hk.cell (p := ⟨gW, t, none⟩) hgWl (by simp)).trans ct
                      have ft2 := (hk.frozen (p := ⟨gW, t, none⟩) hgWl (by simp)).trans ft
                      refine wpOp_skipped rfl rfl rfl (w' := wv.setCell ⟨gW, t, none⟩ (.int .u32 (z : Int))) (by simp [execOp, go_sem, e115, e114, ct2, ft2]) ?_
                      rw [same_fold hS [87, 88, 89, 90, 91, 92, 93, 94, 95, 96, 97, 98, 99, 100, 101, 102, 103, 104, 105, 106, 107, 108, 109, 110, 111, 112, 113, 114, 115] (by kernel_rfl) (by kernel_rfl)]
                      simp only [List.foldl]
                      generalize av.tmps.getD 87 undef = v87
                      generalize av.tmps.getD 88 undef = v88
                      generalize av.tmps.getD 89 undef = v89
                      generalize av.tmps.getD 90 undef = v90
                      generalize av.tmps.getD 91 undef = v91
                      generalize av.tmps.getD 92 undef = v92
                      generalize av.tmps.getD 93 undef = v93
                      generalize av.tmps.getD 94 undef = v94
                      generalize av.tmps.getD 95 undef = v95
                      generalize av.tmps.getD 96 undef = v96
                      generalize av.tmps.getD 97 undef = v97
                      generalize av.tmps.getD 98 undef = v98
                      generalize av.tmps.getD 99 undef = v99
                      generalize av.tmps.getD 100 undef = v100
                      generalize av.tmps.getD 101 undef = v101
                      generalize av.tmps.getD 102 undef = v102
                      generalize av.tmps.getD 103 undef = v103
                      generalize av.tmps.getD 104 undef = v104
                      generalize av.tmps.getD 105 undef = v105
                      generalize av.tmps.getD 106 undef = v106
                      generalize av.tmps.getD 107 undef = v107
                      generalize av.tmps.getD 108 undef = v108
                      generalize av.tmps.getD 109 undef = v109
                      generalize av.tmps.getD 110 undef = v110
                      generalize av.tmps.getD 111 undef = v111
                      generalize av.tmps.getD 112 undef = v112
                      generalize av.tmps.getD 113 undef = v113
                      generalize av.tmps.getD 114 undef = v114
                      generalize av.tmps.getD 115 undef = v115
                      have hW9 := (hW.kp hk (by simp)).set t z
                      rw [HE.out] at hW9
                      have ks : Kp [gW] wv (wv.setCell ⟨gW, t, none⟩ (.int .u32 (z : Int))) := (Kp.rfl_ [gW] wv).set (by simp) _
                      have hA9 := (hA.kp hk (by simp)).kp ks (by simp; omega)
                      have hK9 := (hK.kp hk (by simp)).kp ks (by simp; omega)
                      have hL9 := (hL.kp hk (by rintro _ ad ⟨⟩; simp)).kp ks (by rintro _ ad ⟨⟩; simp; omega)
                      have hk9 : Kp [] w (wv.setCell ⟨gW, t, none⟩ (.int .u32 (z : Int))) := (hkw.trans hk).set (by simp; omega) _
                      clear ks hW hA hK hL hk hkw cp cx cq cy ct ft cp2 cq2 ct2 ft2 e115 e114 hS H HR1 HR2 HR3 HR4 X1 X2 X3 X4 F1 F2 F3
                      generalize wv.setCell ⟨gW, t, none⟩ (.int .u32 (z : Int)) = wq at *
                      go_wp2_with fail
                      go_roundg (64 - (t + 1))
                      case measure => omega
                      case rel => exact ⟨t + 1, by omega, by omega, by go_num, hW9, hA9, hK9, hL9, hk9⟩
                · obtain rfl : t = 64 := by omega
                  have hW64 : UX wr gW (sched B 64) := by
                    rw [Nat.sub_self, List.replicate_zero, List.append_nil] at hW
                    exact hW
                  obtain ⟨th, hgx⟩ := hA
                  have hgx : wr.heap[gh]? = some (.cells (wordCells H).toArray th (0, 0)) := hgx
                  obtain ⟨CH, hCH⟩ : ∃ CH, (wordCells H).toArray = CH := ⟨_, rfl⟩
                  rw [hCH] at hgx
                  have hsz8 : CH.size = 8 := by rw [← hCH]; simp [wordCells, hH8]
                  have hinf8 : (Tryd.prog.info? 67).map (·.size) = some CH.size := by rw [hsz8]; kernel_rfl
                  have hone8 : CH.all (·.oneCell') = true := by
                    rw [← hCH]
                    simp only [List.all_toArray, wordCells, List.all_map, List.all_eq_true]
                    intro x _
                    rfl
                  have hold8 : ∀ z : Value, (#[z, z, z, z, z, z, z, z] : Array Value).size = CH.size := fun z => by rw [hsz8]; rfl
                  have HCH := Lib.hid hCH
                  have hsz8' := hsz8
                  clear hW hCH hsz8
                  have hgWl : gW < wr.heap.size := hW64.lt
                  have hgKl : gK < wr.heap.size := hK.lt
                  have hghl : gh < wr.heap.size := (Array.getElem?_eq_some_iff.1 hgx).1
                  go_wp2_with (first | refine wpList_load_row rfl 67 _ rfl gh rfl th _ (0, 0) _ hgx Tryd.underlying67 rfl hinf8 ?_ | refine wpList_store_row rfl 67 _ _ rfl wr.heap.size CH rfl rfl 67 _ (heap_alloc_new _ _) hinf8 (hold8 _) hone8 ?_)
                  rw [World.setRow_alloc_new]
                  have hV : UX (wr.alloc (.cells CH 67)) wr.heap.size (rndW H (sched B 64) 0) := by
                    refine ⟨67, ?_⟩
                    have e : (wordCells (rndW H (sched B 64) 0)).toArray = CH := by rw [← HCH.out]; rfl
                    rw [e]
                    exact At.new _ _ _
                  have ka : Kp [] wr (wr.alloc (.cells CH 67)) := (Kp.rfl_ [] wr).alloc _
                  have hA2 : UX (wr.alloc (.cells CH 67)) gh H := by
                    have h0 : UX wr gh H := ⟨th, by rw [HCH.out]; exact hgx⟩
                    exact h0.kp ka (by simp)
                  have hK2 := hK.kp ka (by simp)
                  have hL2 := hL.kp ka (by simp)
                  have hW2 := hW64.kp ka (by simp)
                  have hk2 := hk.trans ka
                  have hwle2 := hk.size
                  have hmV := hL.off (by omega) _ rfl
                  obtain ⟨gV, hgV⟩ : ∃ gV, wr.heap.size = gV := ⟨_, rfl⟩
                  simp only [hgV] at hV hgWl hgKl hghl hwle2 hmV ⊢
                  clear hgV ka hgx hK hL hW64 hk hinf8 hone8 hold8
                  generalize wr.alloc (.cells CH 67) = w5 at *
                  go_wp2_with fail
                  obtain ⟨SS, hSS⟩ : ∃ SS, sched B 64 = SS := ⟨_, rfl⟩
                  have hSl : SS.length = 64 := by rw [← hSS]; exact sched_len B 64
                  have hS32 : ∀ x ∈ SS, x < 4294967296 := by rw [← hSS]; exact sched_lt B 64
                  rw [hSS] at hV hW2
                  have HSS := Lib.hid hSS
                  have HSL := Lib.hid hSl
                  have HS32 := Lib.hid hS32
                  have HH8 := Lib.hid hH8
                  have HH32 := Lib.hid hH32
                  clear hSS hSl hS32 hH8 hH32
                  go_loopg [15] 64 (fun gg tv wr => ∃ t : Nat, 64 - t ≤ gg ∧ t ≤ 64 ∧ tv = .int .i64 t ∧ UX wr gV (rndW H SS t) ∧ UX wr gW SS ∧ UX wr gh H ∧ UX wr gK kW ∧ Ls wr (some ⟨gm, 0, none⟩) n (Lib.byteCells l) ∧ Kp [] w wr)
                  case atStart => exact ⟨0, by omega, by omega, rfl, hV, hW2, hA2, hK2, hL2, hk2⟩
                  case round =>
                    clear hV hW2 hA2 hK2 hL2 hk2
                    obtain ⟨t, hgt, ht, rfl, hV, hW, hA, hK, hL, hk⟩ := hrel
                    obtain ⟨va, vb, vc, vd, ve, vf, vg, vh, hv, hv32⟩ := rnd_parts HH8.out HH32.out SS t
                    rw [hv] at hV
                    by_cases ht64 : t < 64
                    · have htI : (t : Int) < 64 := by omega
                      obtain ⟨ba, bb, bc, bd, be, bf, bg, bh⟩ := hv32
                      obtain ⟨k, hk0⟩ : ∃ k, kW[t]? = some k := ⟨_, kW_at ht64⟩
                      obtain ⟨x, hx⟩ : ∃ x, SS[t]? = some x := ⟨_, List.getElem?_eq_getElem (by rw [HSL.out]; exact ht64)⟩
                      have hxl := HS32.out x (List.mem_of_getElem? hx)
                      have hkl := kW_lt k (List.mem_of_getElem? hk0)
                      have ck := hK.cell hk0
                      have cw := hW.cell hx
                      have hnext := rndW_succ (H := H) hk0 hx
                      rw [hv, round_nat] at hnext
                      have c0 := hV.cell (j := 0) rfl
                      have c1 := hV.cell (j := 1) rfl
                      have c2 := hV.cell (j := 2) rfl
                      have c3 := hV.cell (j := 3) rfl
                      have c4 := hV.cell (j := 4) rfl
                      have c5 := hV.cell (j := 5) rfl
                      have c6 := hV.cell (j := 6) rfl
                      have c7 := hV.cell (j := 7) rfl
                      obtain ⟨r6, HR6, b6, e6⟩ := rrot_nat (x := ve) (n := 6) be (by omega) (by omega)
                      obtain ⟨r11, HR11, b11, e11⟩ := rrot_nat (x := ve) (n := 11) be (by omega) (by omega)
                      obtain ⟨r25, HR25, b25, e25⟩ := rrot_nat (x := ve) (n := 25) be (by omega) (by omega)
                      obtain ⟨r2, HR2, b2, e2⟩ := rrot_nat (x := va) (n := 2) ba (by omega) (by omega)
                      obtain ⟨r13, HR13, b13, e13⟩ := rrot_nat (x := va) (n := 13) ba (by omega) (by omega)
                      obtain ⟨r22, HR22, b22, e22⟩ := rrot_nat (x := va) (n := 22) ba (by omega) (by omega)
                      obtain ⟨y1, X1, l1, f1⟩ := xor_nat b6 b11
                      obtain ⟨y2, X2, l2, f2⟩ := xor_nat l1 b25
                      obtain ⟨y3, X3, l3, f3⟩ := and_nat be bf
                      obtain ⟨y4, X4, l4, f4⟩ := not_nat2 be
                      obtain ⟨y5, X5, l5, f5⟩ := and_nat l4 bg
                      obtain ⟨y6, X6, l6, f6⟩ := xor_nat l3 l5
                      obtain ⟨z1, Z1, m1, g1⟩ := xor_nat b2 b13
                      obtain ⟨z2, Z2, m2, gg2⟩ := xor_nat m1 b22
                      obtain ⟨z3, Z3, m3, g3⟩ := and_nat ba bb
                      obtain ⟨z4, Z4, m4, g4⟩ := and_nat ba bc
                      obtain ⟨z5, Z5, m5, g5⟩ := and_nat bb bc
                      obtain ⟨z6, Z6, m6, g6⟩ := xor_nat m3 m4
                      obtain ⟨z7, Z7, m7, g7⟩ := xor_nat m6 m5
                      rw [e6, e11, e25, e2, e13, e22, f1, f2, f3, f4, f5, f6, g1, gg2, g3, g4, g5, g6, g7] at hnext
                      obtain ⟨t1, ht1⟩ : ∃ t1, (vh + y2 + y6 + k + x) % 4294967296 = t1 := ⟨_, rfl⟩
                      obtain ⟨t2, ht2⟩ : ∃ t2, (z2 + z7) % 4294967296 = t2 := ⟨_, rfl⟩
                      rw [ht1, ht2] at hnext
                      have HNEXT := Lib.hid hnext
                      clear e6 e11 e25 e2 e13 e22 f1 f2 f3 f4 f5 f6 g1 gg2 g3 g4 g5 g6 g7 b6 b11 b25 b2 b13 b22 l1 l2 l3 l4 l5 l6 m1 m2 m3 m4 m5 m6 m7 hnext hx hk0 hv
                      go_wp2_with fail
                      go_quiet ((go_at_call 53; first | with_reducible exact Calls.quiet_of (HR6 _) | with_reducible exact Calls.quiet_of (HR11 _) | with_reducible exact Calls.quiet_of (HR25 _)))
                      have hv1 : ((((vh : Int) + (y2 : Int) + (y6 : Int) + (k : Int)) % 4294967296 + (x : Int)) % 4294967296) = ((t1 : Nat) : Int) := by omega
                      rw [hv1]
                      have hV := hV.drewN_ nq
                      have hW := hW.drewN_ nq
                      have hA := hA.drewN_ nq
                      have hK := hK.drewN_ nq
                      have hL := hL.kp ((Kp.rfl_ [] wr).drewN nq) (by simp)
                      have hk := hk.drewN nq
                      clear X1 X2 X3 X4 X5 X6 HR6 HR11 HR25 hv1 ck cw c0 c1 c2 c3 c4 c5 c6 c7
                      generalize wr.drewN nq = wq at *
                      have c0 := hV.cell (j := 0) rfl
                      have c1 := hV.cell (j := 1) rfl
                      have c2 := hV.cell (j := 2) rfl
                      have c3 := hV.cell (j := 3) rfl
                      have c4 := hV.cell (j := 4) rfl
                      have c5 := hV.cell (j := 5) rfl
                      have c6 := hV.cell (j := 6) rfl
                      have c7 := hV.cell (j := 7) rfl
                      go_wp2_with fail
                      go_quiet ((go_at_call 53; first | with_reducible exact Calls.quiet_of (HR2 _) | with_reducible exact Calls.quiet_of (HR13 _) | with_reducible exact Calls.quiet_of (HR22 _)))
                      have hv2 : ((z2 : Int) + (z7 : Int)) % 4294967296 = ((t2 : Nat) : Int) := by omega
                      rw [hv2]
                      have hV := hV.drewN_ nq
                      have hW := hW.drewN_ nq
                      have hA := hA.drewN_ nq
                      have hK := hK.drewN_ nq
                      have hL := hL.kp ((Kp.rfl_ [] wq).drewN nq) (by simp)
                      have hk := hk.drewN nq
                      clear Z1 Z2 Z3 Z4 Z5 Z6 Z7 HR2 HR13 HR22 hv2 c0 c1 c2 c3 c4 c5 c6 c7
                      generalize wq.drewN nq = wz at *
                      have c0 := hV.cell (j := 0) rfl
                      have c1 := hV.cell (j := 1) rfl
                      have c2 := hV.cell (j := 2) rfl
                      have c3 := hV.cell (j := 3) rfl
                      have c4 := hV.cell (j := 4) rfl
                      have c5 := hV.cell (j := 5) rfl
                      have c6 := hV.cell (j := 6) rfl
                      obtain ⟨s0, hs0⟩ : ∃ s0, add32 t1 t2 = s0 := ⟨_, rfl⟩
                      obtain ⟨s4, hs4⟩ : ∃ s4, add32 vd t1 = s4 := ⟨_, rfl⟩
                      have F0 : ((t1 : Int) + (t2 : Int)) % 4294967296 = (s0 : Int) := by rw [← hs0]; unfold add32; omega
                      have F4 : ((vd : Int) + (t1 : Int)) % 4294967296 = (s4 : Int) := by rw [← hs4]; unfold add32; omega
                      have F0w : IntKind.u32.wrap ((t1 : Int) + (t2 : Int)) = (s0 : Int) := by rw [IntKind.wrap_u32]; exact F0
                      have F4w : IntKind.u32.wrap ((vd : Int) + (t1 : Int)) = (s4 : Int) := by rw [IntKind.wrap_u32]; exact F4
                      have hnx := HNEXT.out
                      rw [hs0, hs4] at hnx
                      have HNX := Lib.hid hnx
                      obtain ⟨tv, hgv⟩ := hV
                      have hgv0 : wz.heap[gV]? = some (.cells (wordCells [va, vb, vc, vd, ve, vf, vg, vh]).toArray tv (0, 0)) := hgv
                      have hV9 : UX (wz.setRow gV (wordCells [s0, va, vb, vc, s4, ve, vf, vg]).toArray) gV [s0, va, vb, vc, s4, ve, vf, vg] := UX.row ⟨tv, hgv⟩ _
                      have ks : Kp [gV] wz (wz.setRow gV (wordCells [s0, va, vb, vc, s4, ve, vf, vg]).toArray) := (Kp.rfl_ [gV] wz).row (by simp) _
                      have hW9 := hW.kp ks (by simp; omega)
                      have hA9 := hA.kp ks (by simp; omega)
                      have hK9 := hK.kp ks (by simp; omega)
                      have hL9 := hL.kp ks (by rintro _ ad ⟨⟩; simp; omega)
                      have hk9 : Kp [] w (wz.setRow gV (wordCells [s0, va, vb, vc, s4, ve, vf, vg]).toArray) := hk.row (by omega) _
                      obtain ⟨CN, hCN⟩ : ∃ CN, (wordCells [s0, va, vb, vc, s4, ve, vf, vg]).toArray = CN := ⟨_, rfl⟩
                      have hcn : (#[.int .u32 (s0 : Int), .int .u32 (va : Int), .int .u32 (vb : Int), .int .u32 (vc : Int), .int .u32 (s4 : Int), .int .u32 (ve : Int), .int .u32 (vf : Int), .int .u32 (vg : Int)] : Array Value) = CN := by rw [← hCN]; rfl
                      have hszn : CN.size = 8 := by rw [← hCN]; rfl
                      have hinf9 : (Tryd.prog.info? 67).map (·.size) = some CN.size := by rw [hszn]; kernel_rfl
                      have honen : CN.all (·.oneCell') = true := by
                        rw [← hCN]
                        simp only [List.all_toArray, wordCells, List.all_map, List.all_eq_true]
                        intro x _
                        rfl
                      obtain ⟨CO, hCO⟩ : ∃ CO, (wordCells [va, vb, vc, vd, ve, vf, vg, vh]).toArray = CO := ⟨_, rfl⟩
                      have hszo : CO.size = CN.size := by rw [hszn, ← hCO]; rfl
                      rw [hCO] at hgv0
                      rw [hCN] at hV9 hW9 hA9 hK9 hL9 hk9
                      have HCN := Lib.hid hcn
                      clear hCN hCO hszn hcn
                      clear hs0 hs4 hnx HNEXT hgv hW hA hK hL hk ks
                      go_wp2_with (refine wpList_store_row rfl 67 _ _ rfl gV CN rfl (HCN.out ▸ rfl) tv _ hgv0 hinf9 hszo honen ?_)
                      go_roundg (64 - (t + 1))
                      case measure => omega
                      case rel => exact ⟨t + 1, by omega, by omega, by go_num, by rw [HNX.out]; exact hV9, hW9, hA9, hK9, hL9, hk9⟩
                    · obtain rfl : t = 64 := by omega
                      have hrw : roundsW H SS = [va, vb, vc, vd, ve, vf, vg, vh] := by rw [← hv, rndW_all HSL.out]
                      obtain ⟨V, hVV⟩ : ∃ V, [va, vb, vc, vd, ve, vf, vg, vh] = V := ⟨_, rfl⟩
                      rw [hVV] at hV hrw
                      have hV8 : V.length = 8 := by rw [← hVV]; rfl
                      have htake : addW H V = blocksW (b + 1) beginW l := by rw [HNEXT.out, takeW, HSS.out, hrw]
                      have HTAKE := Lib.hid htake
                      have HV8 := Lib.hid hV8
                      have hA0 : UX wr gh (addK H V 0) := by rw [addK_zero]; exact hA
                      clear hVV htake hrw hv hv32 hW hA hV8
                      go_wp2_with fail
                      go_loopg [20] 8 (fun gg iv wr => ∃ i : Nat, 8 - i ≤ gg ∧ i ≤ 8 ∧ iv = .int .i64 i ∧ UX wr gh (addK H V i) ∧ UX wr gV V ∧ UX wr gK kW ∧ Ls wr (some ⟨gm, 0, none⟩) n (Lib.byteCells l) ∧ Kp [] w wr)
                      case atStart => exact ⟨0, by omega, by omega, rfl, hA0, hV, hK, hL, hk⟩
                      case round =>
                        clear hA0 hV hK hL hk
                        obtain ⟨i, hgi, hi, rfl, hA, hV, hK, hL, hk⟩ := hrel
                        by_cases hi8 : i < 8
                        · have hiI : (i : Int) < 8 := by omega
                          obtain ⟨x, hx⟩ : ∃ x, H[i]? = some x := ⟨_, List.getElem?_eq_getElem (by rw [HH8.out]; exact hi8)⟩
                          obtain ⟨y, hy⟩ : ∃ y, V[i]? = some y := ⟨_, List.getElem?_eq_getElem (by rw [HV8.out]; exact hi8)⟩
                          obtain ⟨hk1, hk2⟩ := addK_at hx hy
                          have cx := hA.cell hk1
                          have fx := hA.free i
                          have cy := hV.cell hy
                          have hset := hA.set i (add32 x y)
                          rw [hk2] at hset
                          have hxy : ((x : Int) + (y : Int)) % 4294967296 = ((add32 x y : Nat) : Int) := by unfold add32; omega
                          have ks : Kp [gh] wr (wr.setCell ⟨gh, i, none⟩ (.int .u32 (add32 x y : Nat))) := (Kp.rfl_ [gh] wr).set (by simp) _
                          have hV9 := hV.kp ks (by simp; omega)
                          have hK9 := hK.kp ks (by simp; omega)
                          have hL9 := hL.kp ks (by rintro _ ad ⟨⟩; simp; omega)
                          have hk9 : Kp [] w (wr.setCell ⟨gh, i, none⟩ (.int .u32 (add32 x y : Nat))) := hk.set (by simp; omega) _
                          clear hk1 hk2 hx hy hA hV hK hL hk ks
                          generalize add32 x y = z at *
                          go_wp2_with fail
                          go_region
                          have hA4 : UX (wr.setCell ⟨gh, i, none⟩ (.int .u32 (z : Int))).drew gh (addK H V (i + 1)) := hset
                          have hV4 := hV9.drew_
                          have hK4 := hK9.drew_
                          have hL4 : Ls (wr.setCell ⟨gh, i, none⟩ (.int .u32 (z : Int))).drew (some ⟨gm, 0, none⟩) n (Lib.byteCells l) := hL9
                          have hk4 := hk9.drew
                          clear hset hV9 hK9 hL9 hk9 cx fx cy hxy
                          generalize (wr.setCell ⟨gh, i, none⟩ (.int .u32 (z : Int))).drew = wq at *
                          go_wp2_with fail
                          go_roundg (8 - (i + 1))
                          case measure => omega
                          case rel => exact ⟨i + 1, by omega, by omega, by go_num, hA4, hV4, hK4, hL4, hk4⟩
                        · obtain rfl : i = 8 := by omega
                          have hA8 : UX wr gh (blocksW (b + 1) beginW l) := by
                            have h2 := addK_all (a := H) (b := V) (by rw [HH8.out, HV8.out])
                            rw [HH8.out] at h2
                            rw [h2, HTAKE.out] at hA
                            exact hA
                          clear hA hV
                          go_wp2_with fail
                          go_roundg (nb - (b + 1))
                          case measure => omega
                          case rel => exact ⟨b + 1, by omega, by omega, by go_num, hA8, hK, hL, hk⟩
            · obtain rfl : b = nb := by omega
              obtain ⟨wo, hwo⟩ : ∃ wo, wo = wr := ⟨_, rfl⟩
              subst hwo
              obtain ⟨Hf, hHf⟩ : ∃ Hf, blocksW b beginW l = Hf := ⟨_, rfl⟩
              have hdig : bs (beW Hf) = d := by
                rw [← HD.out, ← hHf]
                unfold shaW
                rw [show s.data.toList.length = s.size by simp, HNB.out, ← HL2.out]
              have hf8 : Hf.length = 8 := by rw [← hHf]; exact blocksW_len _ _ _
              have hf32 : ∀ x ∈ Hf, x < 4294967296 := by rw [← hHf]; exact blocksW_lt _ _ _ (by decide)
              rw [hHf] at hA
              have HDIG := Lib.hid hdig
              have HF8 := Lib.hid hf8
              have HF32 := Lib.hid hf32
              have hnI : ¬ 64 * (b : Int) < (n : Int) := by have := HN.out; omega
              have hsw := hk.size
              obtain ⟨gO, hgO⟩ : ∃ gO, wo.heap.size = gO := ⟨_, rfl⟩
              have hghO : gh < gO := by rw [← hgO]; exact hA.lt
              have hwO : w.heap.size ≤ gO := by rw [← hgO]; exact hsw
              have hown1 : OwnB gO (wo.alloc (.cells #[] 5)) (.slice (some ⟨gO, 0, none⟩) 0 0) [] := by
                have := own_emptyS wo.heap.size wo (Nat.le_refl _)
                rw [hgO] at this
                exact this
              have hb1 : Below gO wo (wo.alloc (.cells #[] 5)) := (Below.refl _ _).alloc (by omega) _
              have hs1 : gO ≤ (wo.alloc (.cells #[] 5)).heap.size := by simp; omega
              have HA := Lib.hid hA
              have HK := Lib.hid hk
              clear hHf hdig hf8 hf32 hK hL hA hk
              go_wp2_with fail
              try simp only [hgO]
              have HGO := Lib.hid hgO
              clear hgO
              go_loopg [21, 22] 8 (fun gg ov iv wv => ∃ i : Nat, 8 - i ≤ gg ∧ i ≤ 8 ∧ iv = .int .i64 i ∧ OwnB gO wv ov (beW (Hf.take i)) ∧ Below gO wo wv ∧ gO ≤ wv.heap.size)
              case atStart => exact ⟨0, by omega, by omega, rfl, hown1, hb1, hs1⟩
              case round =>
                clear hown1 hb1 hs1
                obtain ⟨i, hgi, hi, rfl, hown, hbel, hsz⟩ := hrel
                by_cases hi8 : i < 8
                · have hiI : (i : Int) < 8 := by omega
                  obtain ⟨x, hx⟩ : ∃ x, Hf[i]? = some x := ⟨_, List.getElem?_eq_getElem (by rw [HF8.out]; exact hi8)⟩
                  have hx32 := HF32.out x (List.mem_of_getElem? hx)
                  have c0 := HA.out.cell hx
                  have hcell : ∀ w', Below gO wo w' → w'.cell? ⟨gh, i, none⟩ = some (.int .u32 (x : Int)) := fun w' hb => (World.cell?_of_block (a := ⟨gh, i, none⟩) (hb.block gh hghO)).trans c0
                  have HC := Lib.hid hcell
                  have c := hcell wr hbel
                  have hst := beW_succ hx
                  have hln : (beW (Hf.take i)).length ≤ 32 := by rw [beW_len, List.length_take]; omega
                  have HST := Lib.hid hst
                  clear hst hx c0 hcell
                  generalize beW (Hf.take i) = lo at *
                  obtain ⟨q0, q1, q2, q3, hbe, hv0, hv1, hv2, hv3⟩ := be4_parts x hx32
                  rw [hbe] at HST
                  clear hbe
                  go_wp2_with fail
                  have wq0 : IntKind.u8.wrap ((q0.toNat : Int)) = (q0.toNat : Int) := by have hq0 := q0.toNat_lt; rw [IntKind.wrap_u8]; omega
                  have wq1 : IntKind.u8.wrap ((x : Int) / 65536) = (q1.toNat : Int) := by have hq0 := q0.toNat_lt; rw [IntKind.wrap_u8]; omega
                  have wq2 : IntKind.u8.wrap ((x : Int) / 256) = (q2.toNat : Int) := by have hq0 := q0.toNat_lt; rw [IntKind.wrap_u8]; omega
                  have wq3 : IntKind.u8.wrap ((x : Int)) = (q3.toNat : Int) := by have hq0 := q0.toNat_lt; rw [IntKind.wrap_u8]; omega
                  go_region_held3 (fun w' => w'.cell? ⟨gh, i, none⟩ = some (.int .u32 (x : Int))) (first | exact c | exact c9 | go_keep)
                    (first | (refine step_bytes gO rfl (.tmp 216) (.tmp 236) rfl (some ⟨wr.heap.size, 0, none⟩) 4 4 _ lo [q0, q1, q2, q3] rfl rfl (own_kp (S := []) hown (((Kp.rfl_ [] wr).alloc _).drew) (by simp)) (Ls.kp (S := []) (Ls.of_at (At.new wr 5 #[.int .u8 (q0.toNat : Int), .int .u8 (q1.toNat : Int), .int .u8 (q2.toNat : Int), .int .u8 (q3.toNat : Int)])) ((Kp.rfl_ [] _).drew) (by simp)) (by simp; omega) (by omega) (by omega) ?_; intro v2 w2 hown2 hbel2 hsz2; have hbel3 : Below gO wo w2 := (hbel.alloc hsz _).drew.trans hbel2; have c9 := HC.out w2 hbel3))
                  have hs9 : gO ≤ w2.heap.size := by simp at hsz2; omega
                  have hown9 : OwnB gO w2 v2 (beW (Hf.take (i + 1))) := by rw [HST.out]; exact hown2
                  have HO := Lib.hid hown9
                  clear hown2 hown9 hsz2 hbel2 c wq0 wq1 wq2 wq3
                  go_wp2_with fail
                  go_roundg (8 - (i + 1))
                  case measure => omega
                  case rel => exact ⟨i + 1, by omega, by omega, by go_num, HO.out, hbel3, hs9⟩
                · obtain rfl : i = 8 := by omega
                  have hkn : Hf.take 8 = Hf := List.take_of_length_le (by rw [HF8.out]; exact Nat.le_refl _)
                  rw [hkn] at hown
                  have hcv := conv_bytes hown
                  rw [show ByteArray.mk (beW Hf).toArray = d from HDIG.out] at hcv
                  have hkf : Kp [] w wr := HK.out.trans (Kp.of_below (by rw [HGO.out]; exact hbel))
                  clear hkn hown
                  go_wp2_with fail
                  go_ret
                  exact ⟨rfl, hkf⟩
end Go.Proofs.YtencpplopdogmaaDoor
