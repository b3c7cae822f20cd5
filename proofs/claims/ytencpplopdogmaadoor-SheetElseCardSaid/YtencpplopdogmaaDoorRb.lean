/- The document's own: cube roots. -/
import Derived.Test.YtencpplopdogmaaDoorRa
import Derived.Test.YtencpplopdogmaaDoorSm
namespace Go.Proofs.YtencpplopdogmaaDoor
set_option maxRecDepth 100000
open Go.RowKit
set_option linter.unusedVariables false

def addY : Nat → List Nat → Nat → Nat → List Nat
  | 0, A, _, _ => A
  | f + 1, A, n, y => if y = 0 then A else addY f (A.set n ((A.getD n 0 + y % 65536) % 18446744073709551616)) (n + 1) (y / 65536)
def stepT (o A : List Nat) (t : Nat) : List Nat := addY 3 A (t / 9 + t / 3 % 3 + t % 3) (o.getD (t / 9) 0 * o.getD (t / 3 % 3) 0 * o.getD (t % 3) 0)
def lessA (o : List Nat) : Nat → List Nat
  | 0 => List.replicate 12 0
  | t + 1 => stepT o (lessA o t) t
def normA (A : List Nat) : Nat → List Nat
  | 0 => A
  | n + 1 =>
    let B := normA A n
    (B.set (n + 1) ((B.getD (n + 1) 0 + B.getD n 0 / 65536) % 18446744073709551616)).set n (B.getD n 0 % 65536)
def topA (B : List Nat) : Nat → Nat
  | 0 => 0
  | k + 1 => (topA B k * 65536 % 18446744073709551616 + B.getD (11 - k) 0) % 18446744073709551616
def restA (B : List Nat) : Nat → Nat
  | 0 => B.getD 0 0
  | k + 1 => (restA B k + B.getD (k + 1) 0) % 18446744073709551616
def lessM (x p : Nat) : Bool :=
  let B := normA (lessA [x % 65536, x / 65536 % 65536, x / 4294967296] 27) 11
  decide (topA B 6 < p ∨ (topA B 6 = p ∧ restA B 5 = 0))
def cuR (p : Nat) : Nat → Nat
  | 0 => 0
  | k + 1 => if lessM (cuR p k + 2 ^ (34 - k)) p then cuR p k + 2 ^ (34 - k) else cuR p k
def cells64 (l : List Nat) : List Value := l.map fun (x : Nat) => .int .u64 (x : Int)
/-- Block g is just these numbers, and they may be written. -/
def UU (w : World) (g : Nat) (l : List Nat) : Prop := ∃ t, At w g t (cells64 l).toArray
theorem UU.lt {w : World} {g : Nat} {l : List Nat} (h : UU w g l) : g < w.heap.size := by
  obtain ⟨t, h⟩ := h
  exact h.lt
theorem UU.kp {w w' : World} {g : Nat} {l : List Nat} {S : List Nat} (h : UU w g l) (k : Kp S w w') (hS : g ∉ S) : UU w' g l := by
  obtain ⟨t, h⟩ := h
  exact ⟨t, h.kp k hS⟩
theorem UU.cell {w : World} {g j : Nat} {l : List Nat} {b : Nat} (h : UU w g l) (hb : l[j]? = some b) : w.cell? ⟨g, j, none⟩ = some (.int .u64 (b : Int)) := by
  obtain ⟨t, h⟩ := h
  rw [h.cell j]
  simp [cells64, hb]
theorem UU.free {w : World} {g : Nat} {l : List Nat} (h : UU w g l) (j : Nat) : w.frozen? ⟨g, j, none⟩ = false := by
  obtain ⟨t, h⟩ := h
  exact h.frozen j
theorem UU.set {w : World} {g : Nat} {l : List Nat} (h : UU w g l) (j b : Nat) : UU (w.setCell ⟨g, j, none⟩ (.int .u64 (b : Int))) g (l.set j b) := by
  obtain ⟨t, h⟩ := h
  refine ⟨t, ?_⟩
  have h2 := h.set j (.int .u64 (b : Int))
  have e : (cells64 (l.set j b)).toArray = (cells64 l).toArray.setIfInBounds j (.int .u64 (b : Int)) := by
    simp [cells64, List.map_set]
  rw [e]
  exact h2
theorem UU.drew_ {w : World} {g : Nat} {l : List Nat} (h : UU w g l) : UU w.drew g l := h
theorem UU.drewN_ {w : World} {g : Nat} {l : List Nat} (h : UU w g l) (n : Nat) : UU (w.drewN n) g l := h
theorem getD_at {l : List Nat} {j : Nat} (h : j < l.length) : l[j]? = some (l.getD j 0) := by
  rw [List.getD_eq_getElem?_getD, List.getElem?_eq_getElem h]
  rfl
theorem addY_len : ∀ (f : Nat) (A : List Nat) (n y : Nat), (addY f A n y).length = A.length := by
  intro f
  induction f with
  | zero => intro A n y; rfl
  | succ f ih =>
    intro A n y
    rw [addY]
    split
    · rfl
    · rw [ih, List.length_set]
theorem lessA_len (o : List Nat) : ∀ t, (lessA o t).length = 12 := by
  intro t
  induction t with
  | zero => rfl
  | succ t ih => rw [lessA, stepT, addY_len, ih]
theorem normA_len (A : List Nat) : ∀ n, (normA A n).length = A.length := by
  intro n
  induction n with
  | zero => rfl
  | succ n ih => rw [normA]; simp [ih]
theorem set_lt64 {A : List Nat} {n v : Nat} (h : ∀ x ∈ A, x < 18446744073709551616) (hv : v < 18446744073709551616) : ∀ x ∈ A.set n v, x < 18446744073709551616 := by
  intro x hx
  rcases List.mem_or_eq_of_mem_set hx with h1 | rfl
  · exact h x h1
  · exact hv
theorem addY_lt : ∀ (f : Nat) (A : List Nat) (n y : Nat), (∀ x ∈ A, x < 18446744073709551616) → ∀ x ∈ addY f A n y, x < 18446744073709551616 := by
  intro f
  induction f with
  | zero => intro A n y h; exact h
  | succ f ih =>
    intro A n y h
    rw [addY]
    split
    · exact h
    · exact ih _ _ _ (set_lt64 h (Nat.mod_lt _ (by decide)))
theorem lessA_lt (o : List Nat) : ∀ t, ∀ x ∈ lessA o t, x < 18446744073709551616 := by
  intro t
  induction t with
  | zero => intro x hx; rw [lessA] at hx; rw [List.eq_of_mem_replicate hx]; decide
  | succ t ih => rw [lessA, stepT]; exact addY_lt _ _ _ _ ih
theorem getD_lt64 {A : List Nat} (h : ∀ x ∈ A, x < 18446744073709551616) (n : Nat) : A.getD n 0 < 18446744073709551616 := by
  rw [List.getD_eq_getElem?_getD]
  cases hn : A[n]? with
  | none => decide
  | some x => exact h x (List.mem_of_getElem? hn)
theorem normA_lt (A : List Nat) (h : ∀ x ∈ A, x < 18446744073709551616) : ∀ n, ∀ x ∈ normA A n, x < 18446744073709551616 := by
  intro n
  induction n with
  | zero => exact h
  | succ n ih =>
    rw [normA]
    refine set_lt64 (set_lt64 ih (Nat.mod_lt _ (by decide))) ?_
    have := Nat.mod_lt ((normA A n).getD n 0) (show 0 < 65536 by decide)
    omega
theorem u64_mask16 (a : Nat) (h : a < 18446744073709551616) : bits .and .u64 (a : Int) 65535 = ((a % 65536 : Nat) : Int) := by
  rw [show (65535 : Int) = ((65535 : Nat) : Int) from rfl, u64_and_nat a 65535 h (by decide)]
  congr 1
  exact Nat.and_two_pow_sub_one_eq_mod a 16
theorem addY_end (f : Nat) (A : List Nat) (n : Nat) : addY f A n 0 = A := by
  cases f <;> simp [addY]
theorem addY_go {f : Nat} {A : List Nat} {n y : Nat} (h : y ≠ 0) : addY (f + 1) A n y = addY f (A.set n ((A.getD n 0 + y % 65536) % 18446744073709551616)) (n + 1) (y / 65536) := by
  rw [addY, if_neg h]
set_option maxHeartbeats 2000000 in
theorem less_any (x p : Nat) (w : World) (hx : x < 281474976710656) (hp : p < 1000) :
    Calls Tryd.prog 69 #[.int .u64 x, .int .u64 p] w fun e w' => e = .returned (.bool (lessM x p)) ∧ Kp [] w w' := by
  obtain ⟨o0, h0⟩ : ∃ o, x % 65536 = o := ⟨_, rfl⟩
  obtain ⟨o1, h1⟩ : ∃ o, x / 65536 % 65536 = o := ⟨_, rfl⟩
  obtain ⟨o2, h2⟩ : ∃ o, x / 4294967296 = o := ⟨_, rfl⟩
  obtain ⟨o, ho⟩ : ∃ o, [o0, o1, o2] = o := ⟨_, rfl⟩
  have hless : lessM x p = decide (topA (normA (lessA o 27) 11) 6 < p ∨ (topA (normA (lessA o 27) 11) 6 = p ∧ restA (normA (lessA o 27) 11) 5 = 0)) := by
    rw [← ho, ← h0, ← h1, ← h2]
    rfl
  obtain ⟨rr, hrr⟩ : ∃ rr, lessM x p = rr := ⟨_, rfl⟩
  rw [hrr]
  rw [hless] at hrr
  have HRR := Lib.hid hrr
  clear hrr
  have hol : o.length = 3 := by rw [← ho]; rfl
  have ho16 : ∀ i, i < 3 → o.getD i 0 < 65536 := by
    intro i hi
    rw [← ho]
    rcases i with _ | _ | _ | i
    · show o0 < 65536; omega
    · show o1 < 65536; omega
    · show o2 < 65536; omega
    · omega
  have m0 : bits .and .u64 (x : Int) 65535 = (o0 : Int) := by rw [u64_mask16 x (by omega), h0]
  have m1 : bits .and .u64 ((x : Int) / 65536) 65535 = (o1 : Int) := by
    rw [show (x : Int) / 65536 = ((x / 65536 : Nat) : Int) by omega, u64_mask16 (x / 65536) (by omega), h1]
  have m2 : (x : Int) / 4294967296 = (o2 : Int) := by omega
  have m0' : (x : Int) % 65536 = (o0 : Int) := by omega
  have hz : (#[.int .u64 0, .int .u64 0, .int .u64 0, .int .u64 0, .int .u64 0, .int .u64 0, .int .u64 0, .int .u64 0, .int .u64 0, .int .u64 0, .int .u64 0, .int .u64 0] : Array Value) = (cells64 (List.replicate 12 0)).toArray := rfl
  have hoc : (#[.int .u64 (o0 : Int), .int .u64 (o1 : Int), .int .u64 (o2 : Int)] : Array Value) = (cells64 o).toArray := by rw [← ho]; rfl
  have HOC := Lib.hid hoc
  clear hless h0 h1 h2 hz hoc
  go_enter Tryd.func69, Tryd.ntmps69
  go_wp2_with fail
  rw [HOC.out]
  have hz : (#[.int .u64 0, .int .u64 0, .int .u64 0, .int .u64 0, .int .u64 0, .int .u64 0, .int .u64 0, .int .u64 0, .int .u64 0, .int .u64 0, .int .u64 0, .int .u64 0] : Array Value) = (cells64 (List.replicate 12 0)).toArray := rfl
  rw [hz]
  clear hz
  have k0 : Kp [] w ((w.alloc (.cells (cells64 (List.replicate 12 0)).toArray 106)).alloc (.cells (cells64 o).toArray 107)) := ((Kp.rfl_ [] w).alloc _).alloc _
  have ha0 : UU ((w.alloc (.cells (cells64 (List.replicate 12 0)).toArray 106)).alloc (.cells (cells64 o).toArray 107)) w.heap.size (lessA o 0) := ⟨_, (At.new w 106 (cells64 (List.replicate 12 0)).toArray).alloc _⟩
  have hb0 : UU ((w.alloc (.cells (cells64 (List.replicate 12 0)).toArray 106)).alloc (.cells (cells64 o).toArray 107)) (w.heap.size + 1) o := ⟨_, At.new_ (by simp)⟩
  obtain ⟨ga, hga⟩ : ∃ ga, w.heap.size = ga := ⟨_, rfl⟩
  have hgw : w.heap.size ≤ ga := by omega
  simp only [hga] at ha0 hb0 ⊢
  clear hga m0 m1 m2 m0' HOC ho
  generalize (w.alloc (.cells (cells64 (List.replicate 12 0)).toArray 106)).alloc (.cells (cells64 o).toArray 107) = w0 at *
  go_loopg [7] 3 (fun gk iv wr => ∃ i : Nat, 3 - i ≤ gk ∧ i ≤ 3 ∧ iv = .int .i64 i ∧ UU wr ga (lessA o (9 * i)) ∧ UU wr (ga + 1) o ∧ Kp [] w wr)
  case atStart => exact ⟨0, by omega, by omega, rfl, ha0, hb0, k0⟩
  case round =>
    clear ha0 hb0 k0
    obtain ⟨i, hgi, hi, rfl, ha, hb, hk⟩ := hrel
    by_cases hi3 : i < 3
    · have hiI : (i : Int) < 3 := by omega
      go_wp2_with fail
      go_loopg [8] 3 (fun gk jv wr => ∃ j : Nat, 3 - j ≤ gk ∧ j ≤ 3 ∧ jv = .int .i64 j ∧ UU wr ga (lessA o (9 * i + 3 * j)) ∧ UU wr (ga + 1) o ∧ Kp [] w wr)
      case atStart => exact ⟨0, by omega, by omega, rfl, ha, hb, hk⟩
      case round =>
        clear ha hb hk
        obtain ⟨j, hgj, hj, rfl, ha, hb, hk⟩ := hrel
        by_cases hj3 : j < 3
        · have hjI : (j : Int) < 3 := by omega
          go_wp2_with fail
          go_loopg [9] 3 (fun gk kv wr => ∃ k : Nat, 3 - k ≤ gk ∧ k ≤ 3 ∧ kv = .int .i64 k ∧ UU wr ga (lessA o (9 * i + 3 * j + k)) ∧ UU wr (ga + 1) o ∧ Kp [] w wr)
          case atStart => exact ⟨0, by omega, by omega, rfl, ha, hb, hk⟩
          case round =>
            clear ha hb hk
            obtain ⟨k, hgk, hk3', rfl, ha, hb, hk⟩ := hrel
            by_cases hk3 : k < 3
            · have hkI : (k : Int) < 3 := by omega
              have ci := hb.cell (getD_at (j := i) (by omega))
              have cj := hb.cell (getD_at (j := j) (by omega))
              have ck := hb.cell (getD_at (j := k) (by omega))
              have bi := ho16 i hi3
              have bj := ho16 j hj3
              have bk := ho16 k hk3
              have hstep : lessA o (9 * i + 3 * j + k + 1) = addY 3 (lessA o (9 * i + 3 * j + k)) (i + j + k) (o.getD i 0 * o.getD j 0 * o.getD k 0) := by
                rw [lessA, stepT, show (9 * i + 3 * j + k) / 9 = i by omega, show (9 * i + 3 * j + k) / 3 % 3 = j by omega, show (9 * i + 3 * j + k) % 3 = k by omega]
              obtain ⟨y1, hy1⟩ : ∃ y1, o.getD i 0 * o.getD j 0 = y1 := ⟨_, rfl⟩
              have b1 : y1 ≤ 65535 * 65535 := by rw [← hy1]; exact Nat.mul_le_mul (by omega) (by omega)
              have F1 : ((o.getD i 0 : Nat) : Int) * ((o.getD j 0 : Nat) : Int) = (y1 : Int) := by rw [← hy1]; push_cast; rfl
              obtain ⟨y, hy⟩ : ∃ y, y1 * o.getD k 0 = y := ⟨_, rfl⟩
              have b2 : y ≤ 65535 * 65535 * 65535 := by rw [← hy]; exact Nat.mul_le_mul b1 (by omega)
              have F2 : (y1 : Int) * ((o.getD k 0 : Nat) : Int) = (y : Int) := by rw [← hy]; push_cast; rfl
              rw [hy1, hy] at hstep
              have hlA := lessA_len o (9 * i + 3 * j + k)
              have HSTEP := Lib.hid hstep
              obtain ⟨A, hA⟩ : ∃ A, lessA o (9 * i + 3 * j + k) = A := ⟨_, rfl⟩
              rw [hA] at ha hlA HSTEP
              clear hstep hy1 hy hA
              generalize o.getD i 0 = oi at *
              generalize o.getD j 0 = oj at *
              generalize o.getD k 0 = ok at *
              go_wp2_with fail
              go_quiet (fail)
              have ha := ha.drewN_ nq
              have hb := hb.drewN_ nq
              have hk := hk.drewN nq
              generalize wr.drewN nq = wq at *
              clear ci cj ck F1 F2
              go_wp2_with fail
              go_loopg [10, 11] 4 (fun gk yv nv wr => ∃ (f n y : Nat) (A : List Nat), f + 1 ≤ gk ∧ f ≤ 3 ∧ yv = .int .u64 y ∧ nv = .int .i64 n ∧ n + f ≤ 12 ∧ y < 65536 ^ f ∧ A.length = 12 ∧ Hid (lessA o (9 * i + 3 * j + k + 1) = addY f A n y) ∧ UU wr ga A ∧ UU wr (ga + 1) o ∧ Kp [] w wr)
              case atStart => exact ⟨3, i + j + k, y, A, by omega, by omega, rfl, by push_cast; rfl, by omega, by omega, hlA, HSTEP, ha, hb, hk⟩
              case round =>
                clear ha hb hk HSTEP hlA b2
                obtain ⟨f, n, y, A, hgf, hf3, rfl, rfl, hn, hyf, hlA, HSTEP, ha, hb, hk⟩ := hrel
                by_cases hy0 : y = 0
                · subst hy0
                  have hs := HSTEP.out
                  rw [addY_end] at hs
                  have HS := Lib.hid hs
                  clear hs HSTEP
                  go_wp2_with fail
                  go_roundg (3 - (k + 1))
                  case measure => omega
                  case rel => exact ⟨k + 1, by omega, by omega, by go_num, by rw [show 9 * i + 3 * j + (k + 1) = 9 * i + 3 * j + k + 1 by omega, HS.out]; exact ha, hb, hk⟩
                · obtain ⟨f, rfl⟩ : ∃ g, f = g + 1 := by
                    cases f with
                    | zero => exact absurd (by simpa using hyf) hy0
                    | succ g => exact ⟨g, rfl⟩
                  have hs := HSTEP.out
                  rw [addY_go hy0] at hs
                  have hy64 : y < 281474976710656 := by
                    have : 65536 ^ (f + 1) ≤ 65536 ^ 3 := Nat.pow_le_pow_right (by omega) hf3
                    omega
                  have hdiv : y / 65536 < 65536 ^ f := by rw [Nat.pow_succ] at hyf; omega
                  have hy0I : (0 : Int) < (y : Int) := by omega
                  have hmask := u64_mask16 y (by omega)
                  have cn := ha.cell (getD_at (j := n) (by omega))
                  have fn := ha.free n
                  have hset := ha.set n ((A.getD n 0 + y % 65536) % 18446744073709551616)
                  have hls : (A.set n ((A.getD n 0 + y % 65536) % 18446744073709551616)).length = 12 := by rw [List.length_set, hlA]
                  obtain ⟨A', hA'⟩ : ∃ A', A.set n ((A.getD n 0 + y % 65536) % 18446744073709551616) = A' := ⟨_, rfl⟩
                  rw [hA'] at hs hset hls
                  obtain ⟨q, hq⟩ : ∃ q, y % 65536 = q := ⟨_, rfl⟩
                  rw [hq] at hmask hset
                  obtain ⟨v, hv⟩ : ∃ v, (A.getD n 0 + q) % 18446744073709551616 = v := ⟨_, rfl⟩
                  rw [hv] at hset
                  have F1 : IntKind.u64.wrap (((A.getD n 0 : Nat) : Int) + (q : Int)) = (v : Int) := by rw [IntKind.wrap_u64]; omega
                  have F1' : (((A.getD n 0 : Nat) : Int) + (q : Int)) % 18446744073709551616 = (v : Int) := by omega
                  have hn12 : (n : Int) < 12 := by omega
                  have hqI : (y : Int) % 65536 = (q : Int) := by omega
                  have HS := Lib.hid hs
                  have HD := Lib.hid hdiv
                  have HSET := Lib.hid hset
                  have hk3 : Kp [] w (wr.setCell ⟨ga, n, none⟩ (.int .u64 (v : Int))) := hk.set (by simp; omega) _
                  have hb3 : UU (wr.setCell ⟨ga, n, none⟩ (.int .u64 (v : Int))) (ga + 1) o := hb.kp ((Kp.rfl_ [ga] wr).set (by simp) _) (by simp)
                  clear hs hdiv hset HSTEP hyf hA' hq hv hb ha
                  generalize A.getD n 0 = an at *
                  go_wp2_with fail
                  go_roundg (f + 1)
                  case measure => omega
                  case rel => exact ⟨f, n + 1, y / 65536, A', Nat.le_refl _, by omega, congrArg (Value.int .u64) (by omega), by go_num, by omega, HD.out, hls, HS, HSET.out, hb3, hk3⟩
            · obtain rfl : k = 3 := by omega
              go_wp2_with fail
              go_roundg (3 - (j + 1))
              case measure => omega
              case rel => exact ⟨j + 1, by omega, by omega, by go_num, by rw [show 9 * i + 3 * (j + 1) = 9 * i + 3 * j + 3 by omega]; exact ha, hb, hk⟩
        · obtain rfl : j = 3 := by omega
          go_wp2_with fail
          go_roundg (3 - (i + 1))
          case measure => omega
          case rel => exact ⟨i + 1, by omega, by omega, by go_num, by rw [show 9 * (i + 1) = 9 * i + 3 * 3 by omega]; exact ha, hb, hk⟩
    · obtain rfl : i = 3 := by omega
      have hlA := lessA_len o 27
      have hA64 := lessA_lt o 27
      obtain ⟨A0, hA0⟩ : ∃ A, lessA o 27 = A := ⟨_, rfl⟩
      have ha' : UU wr ga A0 := by rw [← hA0]; exact ha
      have HA0 := Lib.hid hA0
      rw [hA0] at hlA hA64
      clear ha hb hA0
      go_wp2_with fail
      go_loopg [12] 11 (fun gk nv wr => ∃ n : Nat, 11 - n ≤ gk ∧ n ≤ 11 ∧ nv = .int .i64 n ∧ UU wr ga (normA A0 n) ∧ Kp [] w wr)
      case atStart => exact ⟨0, by omega, by omega, rfl, ha', hk⟩
      case round =>
        clear ha' hk
        obtain ⟨n, hgn, hn, rfl, ha, hk⟩ := hrel
        have hlB := normA_len A0 n
        rw [hlA] at hlB
        by_cases hn11 : n < 11
        · have hnext : normA A0 (n + 1) = ((normA A0 n).set (n + 1) (((normA A0 n).getD (n + 1) 0 + (normA A0 n).getD n 0 / 65536) % 18446744073709551616)).set n ((normA A0 n).getD n 0 % 65536) := rfl
          have hBlt := getD_lt64 (normA_lt A0 hA64 n) n
          obtain ⟨B, hB⟩ : ∃ B, normA A0 n = B := ⟨_, rfl⟩
          rw [hB] at ha hlB hnext hBlt
          have cn := ha.cell (getD_at (j := n) (by omega))
          have cn1 := ha.cell (getD_at (j := n + 1) (by omega))
          have fn1 := ha.free (n + 1)
          obtain ⟨b0, hb0⟩ : ∃ b, B.getD n 0 = b := ⟨_, rfl⟩
          obtain ⟨b1, hb1⟩ : ∃ b, B.getD (n + 1) 0 = b := ⟨_, rfl⟩
          rw [hb0] at cn hnext hBlt
          rw [hb1] at cn1 hnext
          obtain ⟨q, hq⟩ : ∃ q, b0 / 65536 = q := ⟨_, rfl⟩
          obtain ⟨v, hv⟩ : ∃ v, (b1 + q) % 18446744073709551616 = v := ⟨_, rfl⟩
          rw [hq, hv] at hnext
          have F0 : (b0 : Int) / 65536 = (q : Int) := by omega
          have F1 : IntKind.u64.wrap ((b1 : Int) + (q : Int)) = (v : Int) := by rw [IntKind.wrap_u64]; omega
          have F1' : ((b1 : Int) + (q : Int)) % 18446744073709551616 = (v : Int) := by omega
          have hset := ha.set (n + 1) v
          have hnI : (n : Int) < 11 := by omega
          have hnI1 : (n : Int) + 1 < 12 := by omega
          have hnI2 : (n : Int) < 12 := by omega
          have hnt : ((n : Int) + 1).toNat = n + 1 := by omega
          have hk2 : Kp [] w (wr.setCell ⟨ga, n + 1, none⟩ (.int .u64 (v : Int))) := hk.set (by simp; omega) _
          have hlen1 : (B.set (n + 1) v).length = 12 := by rw [List.length_set, hlB]
          have hbn : (B.set (n + 1) v)[n]? = some b0 := by rw [List.getElem?_set_ne (by omega), getD_at (by omega), hb0]
          have HSET := Lib.hid hset
          have HN := Lib.hid hnext
          clear hset hnext ha hk hb0 hb1 hq hv
          go_wp2_with fail
          go_region
          have ha2 : UU (wr.setCell ⟨ga, n + 1, none⟩ (.int .u64 (v : Int))).drew ga (B.set (n + 1) v) := HSET.out
          have hk3 : Kp [] w (wr.setCell ⟨ga, n + 1, none⟩ (.int .u64 (v : Int))).drew := hk2.drew
          clear HSET hk2 cn cn1 fn1 F0 F1 F1'
          generalize (wr.setCell ⟨ga, n + 1, none⟩ (.int .u64 (v : Int))).drew = w4 at *
          have cn := ha2.cell hbn
          have fn := ha2.free n
          have hmask := u64_mask16 b0 hBlt
          have hset := ha2.set n (b0 % 65536)
          rw [← HN.out] at hset
          obtain ⟨r, hr⟩ : ∃ r, b0 % 65536 = r := ⟨_, rfl⟩
          rw [hr] at hset hmask
          have hr' : (b0 : Int) % 65536 = (r : Int) := by omega
          have hk4 : Kp [] w (w4.setCell ⟨ga, n, none⟩ (.int .u64 (r : Int))) := hk3.set (by simp; omega) _
          have HSET := Lib.hid hset
          clear hset HN ha2 hr hbn
          go_wp2_with fail
          go_roundg (11 - (n + 1))
          case measure => omega
          case rel => exact ⟨n + 1, by omega, by omega, by go_num, HSET.out, hk4⟩
        · obtain rfl : n = 11 := by omega
          obtain ⟨B, hB⟩ : ∃ B, normA A0 11 = B := ⟨_, rfl⟩
          have HB : Hid (normA (lessA o 27) 11 = B) := Lib.hid (by rw [HA0.out]; exact hB)
          rw [hB] at ha hlB
          clear hB
          go_wp2_with fail
          go_loopg [13, 14] 6 (fun gk tv nv wr => ∃ k : Nat, 6 - k ≤ gk ∧ k ≤ 6 ∧ tv = .int .u64 (topA B k) ∧ nv = .int .i64 (11 - (k : Int)) ∧ UU wr ga B ∧ Kp [] w wr)
          case atStart => exact ⟨0, by omega, by omega, rfl, rfl, ha, hk⟩
          case round =>
            clear ha hk
            obtain ⟨k, hgk, hk6, rfl, rfl, ha, hk⟩ := hrel
            by_cases hlt : k < 6
            · have c := ha.cell (getD_at (j := 11 - k) (by omega))
              have i1 : (6 : Int) ≤ 11 - (k : Int) := by omega
              have i2 : (0 : Int) ≤ 11 - (k : Int) := by omega
              have i3 : 11 - (k : Int) < 12 := by omega
              have i4 : (11 - (k : Int)).toNat = 11 - k := by omega
              have i5 : IntKind.i64.wrap (11 - (k : Int) - 1) = 11 - ((k + 1 : Nat) : Int) := by rw [IntWalk.i64_in _ (by omega)]; omega
              have hnext : topA B (k + 1) = (topA B k * 65536 % 18446744073709551616 + B.getD (11 - k) 0) % 18446744073709551616 := rfl
              obtain ⟨s, hs⟩ : ∃ s, topA B k * 65536 % 18446744073709551616 = s := ⟨_, rfl⟩
              rw [hs] at hnext
              obtain ⟨bb, hbb⟩ : ∃ bb, B.getD (11 - k) 0 = bb := ⟨_, rfl⟩
              rw [hbb] at hnext c
              have F1 : IntKind.u64.wrap (((topA B k : Nat) : Int) * 65536) = (s : Int) := by rw [IntKind.wrap_u64]; omega
              have F1' : ((topA B k : Nat) : Int) * 65536 % 18446744073709551616 = (s : Int) := by omega
              obtain ⟨tn, htn⟩ : ∃ tn, (s + bb) % 18446744073709551616 = tn := ⟨_, rfl⟩
              rw [htn] at hnext
              have F2 : IntKind.u64.wrap ((s : Int) + (bb : Int)) = (tn : Int) := by rw [IntKind.wrap_u64]; omega
              have F2' : ((s : Int) + (bb : Int)) % 18446744073709551616 = (tn : Int) := by omega
              have HN := Lib.hid hnext
              clear hnext hs hbb htn
              generalize topA B k = tk at *
              go_wp2_with fail
              go_roundg (6 - (k + 1))
              case measure => omega
              case rel => exact ⟨k + 1, by omega, by omega, by rw [HN.out], by go_num, ha, hk⟩
            · obtain rfl : k = 6 := by omega
              have i1 : ¬ (6 : Int) ≤ 11 - ((6 : Nat) : Int) := by omega
              have c0 := ha.cell (getD_at (j := 0) (by omega))
              have c1 := ha.cell (getD_at (j := 1) (by omega))
              have c2 := ha.cell (getD_at (j := 2) (by omega))
              have c3 := ha.cell (getD_at (j := 3) (by omega))
              have c4 := ha.cell (getD_at (j := 4) (by omega))
              have c5 := ha.cell (getD_at (j := 5) (by omega))
              obtain ⟨a0, ha0⟩ : ∃ a, B.getD 0 0 = a := ⟨_, rfl⟩
              obtain ⟨a1, ha1⟩ : ∃ a, B.getD 1 0 = a := ⟨_, rfl⟩
              obtain ⟨a2, ha2⟩ : ∃ a, B.getD 2 0 = a := ⟨_, rfl⟩
              obtain ⟨a3, ha3⟩ : ∃ a, B.getD 3 0 = a := ⟨_, rfl⟩
              obtain ⟨a4, ha4⟩ : ∃ a, B.getD 4 0 = a := ⟨_, rfl⟩
              obtain ⟨a5, ha5⟩ : ∃ a, B.getD 5 0 = a := ⟨_, rfl⟩
              have hrest : restA B 5 = ((((((a0 + a1) % 18446744073709551616 + a2) % 18446744073709551616 + a3) % 18446744073709551616 + a4) % 18446744073709551616) + a5) % 18446744073709551616 := by
                rw [← ha0, ← ha1, ← ha2, ← ha3, ← ha4, ← ha5]; rfl
              rw [ha0] at c0
              rw [ha1] at c1
              rw [ha2] at c2
              rw [ha3] at c3
              rw [ha4] at c4
              rw [ha5] at c5
              obtain ⟨s1, hs1⟩ : ∃ s, (a0 + a1) % 18446744073709551616 = s := ⟨_, rfl⟩
              have F1 : IntKind.u64.wrap ((a0 : Int) + (a1 : Int)) = (s1 : Int) := by rw [IntKind.wrap_u64]; omega
              have F1' : ((a0 : Int) + (a1 : Int)) % 18446744073709551616 = (s1 : Int) := by omega
              obtain ⟨s2, hs2⟩ : ∃ s, (s1 + a2) % 18446744073709551616 = s := ⟨_, rfl⟩
              have F2 : IntKind.u64.wrap ((s1 : Int) + (a2 : Int)) = (s2 : Int) := by rw [IntKind.wrap_u64]; omega
              have F2' : ((s1 : Int) + (a2 : Int)) % 18446744073709551616 = (s2 : Int) := by omega
              obtain ⟨s3, hs3⟩ : ∃ s, (s2 + a3) % 18446744073709551616 = s := ⟨_, rfl⟩
              have F3 : IntKind.u64.wrap ((s2 : Int) + (a3 : Int)) = (s3 : Int) := by rw [IntKind.wrap_u64]; omega
              have F3' : ((s2 : Int) + (a3 : Int)) % 18446744073709551616 = (s3 : Int) := by omega
              obtain ⟨s4, hs4⟩ : ∃ s, (s3 + a4) % 18446744073709551616 = s := ⟨_, rfl⟩
              have F4 : IntKind.u64.wrap ((s3 : Int) + (a4 : Int)) = (s4 : Int) := by rw [IntKind.wrap_u64]; omega
              have F4' : ((s3 : Int) + (a4 : Int)) % 18446744073709551616 = (s4 : Int) := by omega
              obtain ⟨s5, hs5⟩ : ∃ s, (s4 + a5) % 18446744073709551616 = s := ⟨_, rfl⟩
              have F5 : IntKind.u64.wrap ((s4 : Int) + (a5 : Int)) = (s5 : Int) := by rw [IntKind.wrap_u64]; omega
              have F5' : ((s4 : Int) + (a5 : Int)) % 18446744073709551616 = (s5 : Int) := by omega
              rw [hs1, hs2, hs3, hs4, hs5] at hrest
              obtain ⟨tp, htp⟩ : ∃ tp, topA B 6 = tp := ⟨_, rfl⟩
              have HR : Hid (rr = decide (tp < p ∨ (tp = p ∧ s5 = 0))) := Lib.hid (by rw [← HRR.out, HB.out, htp, hrest])
              rw [htp]
              clear hrest htp ha0 ha1 ha2 ha3 ha4 ha5 hs1 hs2 hs3 hs4 hs5 ha HRR F1' F2' F3' F4' F5'
              by_cases c2 : tp < p
              · have hc2 : (tp : Int) < (p : Int) := by omega
                have hr : rr = true := by rw [HR.out]; simp [c2]
                have HR2 := Lib.hid hr
                clear hr HR 
                go_wp2_with fail
                go_ret
                exact ⟨ret_bool (by rw [HR2.out]), hk⟩
              · have hc2 : ¬ (tp : Int) < (p : Int) := by omega
                by_cases c3 : tp = p
                · have hc3 : ((tp : Int) == (p : Int)) = true := by rw [beq_iff_eq]; omega
                  by_cases c4 : s5 = 0
                  · have hc4 : ((s5 : Int) == 0) = true := by rw [beq_iff_eq]; omega
                    have hr : rr = true := by rw [HR.out]; simp [c3, c4]
                    have HR2 := Lib.hid hr
                    clear hr HR c3 c4
                    go_wp2_with fail
                    go_ret
                    exact ⟨ret_bool (by rw [HR2.out]), hk⟩
                  · have hc4 : ((s5 : Int) == 0) = false := by rw [beq_eq_false_iff_ne]; omega
                    have hr : rr = false := by rw [HR.out]; simp [c2, c4]
                    have HR2 := Lib.hid hr
                    clear hr HR c3 c4
                    go_wp2_with fail
                    go_ret
                    exact ⟨ret_bool (by rw [HR2.out]), hk⟩
                · have hc3 : ((tp : Int) == (p : Int)) = false := by rw [beq_eq_false_iff_ne]; omega
                  have hr : rr = false := by rw [HR.out]; simp [c2, c3]
                  have HR2 := Lib.hid hr
                  clear hr HR c3
                  go_wp2_with fail
                  go_ret
                  exact ⟨ret_bool (by rw [HR2.out]), hk⟩
theorem cuR_le (p : Nat) : ∀ k, k ≤ 35 → cuR p k + 2 ^ (35 - k) ≤ 2 ^ 35 := by
  intro k
  induction k with
  | zero => intro _; simp [cuR]
  | succ k ih =>
    intro h
    have h1 := ih (by omega)
    have h2 : 2 ^ (35 - k) = 2 ^ (35 - (k + 1)) * 2 := by rw [← Nat.pow_succ]; congr 1; omega
    rw [cuR, show 34 - k = 35 - (k + 1) by omega]
    split <;> omega
set_option maxHeartbeats 1000000 in
theorem cube_any (p : Nat) (w : World) (hp : p < 1000) :
    Calls Tryd.prog 51 #[.int .u64 p] w fun e w' => e = .returned (.int .u32 (cuR p 35 % 4294967296 : Nat)) ∧ Kp [] w w' := by
  go_enter Tryd.func51, Tryd.ntmps51
  go_wp2_with fail
  go_loopg [3, 4] 35 (fun gk rv bv wr => ∃ k : Nat, 35 - k ≤ gk ∧ k ≤ 35 ∧ rv = .int .u64 (cuR p k) ∧ bv = .int .i64 (34 - (k : Int)) ∧ Kp [] w wr)
  case atStart => exact ⟨0, by omega, by omega, rfl, rfl, Kp.rfl_ _ _⟩
  case round =>
    obtain ⟨k, hgk, hk, rfl, rfl, hkp⟩ := hrel
    have hle := cuR_le p k hk
    by_cases hlt : k < 35
    · have hb0 : (0 : Int) ≤ 34 - (k : Int) := by omega
      have hbn : (34 - (k : Int)).toNat = 34 - k := by omega
      have hb2 : IntKind.i64.wrap (34 - (k : Int) - 1) = 34 - ((k + 1 : Nat) : Int) := by rw [IntWalk.i64_in _ (by omega)]; omega
      obtain ⟨pw, hpw⟩ : ∃ pw, 2 ^ (34 - k) = pw := ⟨_, rfl⟩
      have h2 : 2 ^ (35 - k) = 2 ^ (34 - k) * 2 := by rw [← Nat.pow_succ]; congr 1; omega
      have F0 : (2 : Int) ^ (34 - k) = (pw : Int) := by rw [← hpw]; push_cast; rfl
      have hpw36 : pw < 68719476736 := by omega
      obtain ⟨x, hx⟩ : ∃ x, cuR p k + 2 ^ (34 - k) = x := ⟨_, rfl⟩
      have hx36 : x < 68719476736 := by have := Nat.two_pow_pos (34 - k); omega
      have hxI : ((cuR p k : Nat) : Int) + (pw : Int) = (x : Int) := by omega
      have hres : cuR p (k + 1) = if lessM x p then x else cuR p k := by rw [cuR, hx]
      have hrk : cuR p k < 68719476736 := by omega
      have hless := less_any x p
      cases hl : lessM x p with
      | true =>
        rw [hl, if_pos rfl] at hres
        have HRES := Lib.hid hres
        rw [hl] at hless
        have HLESS := Lib.hid hless
        clear hres hl hx hpw h2 hle hless
        generalize cuR p k = rk at *
        go_wp2_with fail
        refine (HLESS.out _ (by omega) hp).mono ?_
        rintro e w2 ⟨rfl, k2⟩
        have hkp2 := hkp.trans k2
        go_wp2_with fail
        go_roundg (35 - (k + 1))
        case measure => omega
        case rel => exact ⟨k + 1, by omega, by omega, by rw [HRES.out], by go_num, hkp2⟩
      | false =>
        rw [hl] at hres
        have HRES := Lib.hid hres
        rw [hl] at hless
        have HLESS := Lib.hid hless
        clear hres hl hx hpw h2 hle hless
        generalize cuR p k = rk at *
        go_wp2_with fail
        refine (HLESS.out _ (by omega) hp).mono ?_
        rintro e w2 ⟨rfl, k2⟩
        have hkp2 := hkp.trans k2
        go_wp2_with fail
        go_roundg (35 - (k + 1))
        case measure => omega
        case rel => exact ⟨k + 1, by omega, by omega, by rw [HRES.out]; rfl, by go_num, hkp2⟩
    · obtain rfl : k = 35 := by omega
      have hb0 : ¬ (0 : Int) ≤ 34 - ((35 : Nat) : Int) := by omega
      have hlt36 : cuR p 35 < 18446744073709551616 := by omega
      obtain ⟨rk, hrk⟩ : ∃ rk, cuR p 35 = rk := ⟨_, rfl⟩
      rw [hrk] at hlt36
      rw [hrk]
      have HRK := Lib.hid hrk
      clear hle hrk
      go_wp2_with fail
      go_ret
      exact ⟨ret_int (by rw [HRK.out]), hkp⟩
end Go.Proofs.YtencpplopdogmaaDoor
