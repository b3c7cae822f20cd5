/- The 64 words of a block. -/
import Derived.Test.YtencpplopdogmaaDoorSm
import Derived.Test.YtencpplopdogmaaDoorSi
import Derived.Laws.CopyRow
namespace Go.Proofs.YtencpplopdogmaaDoor
set_option maxRecDepth 100000
open Go.RowKit
set_option linter.unusedVariables false

/-- The block holds these bytes. -/
def Blk (w : World) (g : Nat) (b : List UInt8) : Prop := g < w.heap.size ∧ ∀ (j : Nat) (x : UInt8), b[j]? = some x → w.cell? ⟨g, j, none⟩ = some (.int .u8 (x.toNat : Int))
theorem Blk.kp {w w' : World} {g : Nat} {b : List UInt8} {S : List Nat} (h : Blk w g b) (k : Kp S w w') (hS : g ∉ S) : Blk w' g b :=
  ⟨Nat.lt_of_lt_of_le h.1 k.size, fun j x hj => by rw [k.cell h.1 hS]; exact h.2 j x hj⟩
theorem zero_wb (w : World) (t : TypeId) : WB (w.alloc (.cells (Array.replicate 64 (.int .u32 0)) t)) w.heap.size (List.replicate 64 0) :=
  ⟨_, _, _, heap_alloc_new w _, by simp [wordCells], by simp, .inr rfl⟩
/-- Block g has n cells. -/
def Szc (w : World) (g n : Nat) : Prop := ∃ cs t, w.heap[g]? = some (.cells cs t) ∧ cs.size = n
theorem zero_sz (w : World) (t : TypeId) : Szc (w.alloc (.cells (Array.replicate 64 (.int .u32 0)) t)) w.heap.size 64 :=
  ⟨_, _, heap_alloc_new w _, by simp⟩
theorem Szc.set {w : World} {g n : Nat} (h : Szc w g n) (a : Addr) (v : Value) : Szc (w.setCell a v) g n := by
  obtain ⟨cs, t, h1, h2⟩ := h
  by_cases e : g = a.block
  · subst e
    simp only [Szc, World.setCell]
    refine ⟨if a.spot.isSome = true then cs else cs.setIfInBounds a.off v, t, ?_, ?_⟩
    · simp [Array.getElem?_modify, h1]
    · split <;> simpa using h2
  · exact ⟨cs, t, (heap_setCell_other w a g v e).trans h1, h2⟩
theorem Szc.kp {w w' : World} {g n : Nat} {S : List Nat} (h : Szc w g n) (k : Kp S w w') (hS : g ∉ S) : Szc w' g n := by
  obtain ⟨cs, t, h1, h2⟩ := h
  have hlt : g < w.heap.size := by
    rcases Nat.lt_or_ge g w.heap.size with hlt | hge
    · exact hlt
    · rw [Array.getElem?_eq_none hge] at h1; cases h1
  exact ⟨cs, t, (k.block g hlt hS).trans h1, h2⟩
/-- All cells of a block that holds just these words. -/
theorem WB.all {w : World} {g : Nat} {l : List Nat} (h : WB w g l) (hs : Szc w g l.length) : ∃ t, w.heap[g]? = some (.cells (wordCells l).toArray t) := by
  obtain ⟨cs, t, fr, h1, h2, h3, h4⟩ := h
  obtain ⟨cs', t', h1', h5⟩ := hs
  rw [h1] at h1'
  injection h1' with h1'
  injection h1' with e1 e2 e3
  subst e1
  subst e3
  refine ⟨t, ?_⟩
  rw [h1, ← h2, List.take_of_length_le (by simp [h5])]
theorem sched_len (b : List UInt8) : ∀ t, (sched b t).length = t := by
  intro t
  induction t with
  | zero => rfl
  | succ t ih => rw [sched]; simp [ih]
theorem word_or (a b c d : Nat) (ha : a < 256) (hb : b < 256) (hc : c < 256) (hd : d < 256) :
    bits .or .u32 (bits .or .u32 (bits .or .u32 ((a : Int) % 4294967296 * 16777216 % 4294967296) ((b : Int) % 4294967296 * 65536 % 4294967296)) ((c : Int) % 4294967296 * 256 % 4294967296)) ((d : Int) % 4294967296)
      = ((a * 2 ^ 24 + b * 2 ^ 16 + c * 2 ^ 8 + d : Nat) : Int) := by
  rw [show (a : Int) % 4294967296 * 16777216 % 4294967296 = ((2 ^ 24 * a : Nat) : Int) by omega, show (b : Int) % 4294967296 * 65536 % 4294967296 = ((2 ^ 16 * b : Nat) : Int) by omega,
    show (c : Int) % 4294967296 * 256 % 4294967296 = ((2 ^ 8 * c : Nat) : Int) by omega, show (d : Int) % 4294967296 = (d : Int) by omega,
    u32_or_nat _ _ (by omega) (by omega), ← Nat.two_pow_add_eq_or_of_lt (by omega), show 2 ^ 24 * a + 2 ^ 16 * b = 2 ^ 16 * (2 ^ 8 * a + b) by omega,
    u32_or_nat _ _ (by omega) (by omega), ← Nat.two_pow_add_eq_or_of_lt (by omega), show 2 ^ 16 * (2 ^ 8 * a + b) + 2 ^ 8 * c = 2 ^ 8 * (2 ^ 16 * a + 2 ^ 8 * b + c) by omega,
    u32_or_nat _ _ (by omega) (by omega), ← Nat.two_pow_add_eq_or_of_lt (by omega)]
  omega
theorem sched_set (b : List UInt8) (t : Nat) (ht : t < 16) (x0 x1 x2 x3 : UInt8) (h0 : b[4 * t]? = some x0) (h1 : b[4 * t + 1]? = some x1) (h2 : b[4 * t + 2]? = some x2) (h3 : b[4 * t + 3]? = some x3) :
    (sched b t ++ List.replicate (64 - t) 0).set t (x0.toNat * 2 ^ 24 + x1.toNat * 2 ^ 16 + x2.toNat * 2 ^ 8 + x3.toNat) = sched b (t + 1) ++ List.replicate (64 - (t + 1)) 0 := by
  have hw : wordAt b t = x0.toNat * 2 ^ 24 + x1.toNat * 2 ^ 16 + x2.toNat * 2 ^ 8 + x3.toNat := by
    unfold wordAt
    simp only [List.getD_eq_getElem?_getD, h0, h1, h2, h3, Option.getD_some]
  rw [List.set_append, if_neg (by rw [sched_len]; omega), sched_len, Nat.sub_self, show 64 - t = (64 - (t + 1)) + 1 by omega, List.replicate_succ, List.set_cons_zero, ← hw, sched]
  simp only [if_pos ht, List.append_assoc, List.singleton_append]
theorem xor_lt32 {a b : Nat} (ha : a < 4294967296) (hb : b < 4294967296) : a ^^^ b < 4294967296 := Nat.xor_lt_two_pow (n := 32) ha hb
theorem sched_lt (b : List UInt8) : ∀ t, ∀ x ∈ sched b t, x < 4294967296 := by
  intro t
  induction t with
  | zero => intro x h; simp [sched] at h
  | succ t ih =>
    intro x h
    rw [sched] at h
    simp only [List.mem_append, List.mem_singleton] at h
    rcases h with h | rfl
    · exact ih x h
    · split
      · unfold wordAt
        have h0 := (b.getD (4 * t) 0).toNat_lt
        have h1 := (b.getD (4 * t + 1) 0).toNat_lt
        have h2 := (b.getD (4 * t + 2) 0).toNat_lt
        have h3 := (b.getD (4 * t + 3) 0).toNat_lt
        omega
      · exact Nat.mod_lt _ (by decide)
theorem sched_get (b : List UInt8) (t i : Nat) (h : i < t) : ∃ x, (sched b t ++ List.replicate (64 - t) 0)[i]? = some x ∧ (sched b t).getD i 0 = x ∧ x < 4294967296 := by
  have hl : i < (sched b t).length := by rw [sched_len]; exact h
  refine ⟨(sched b t)[i], ?_, ?_, sched_lt b t _ (List.getElem_mem hl)⟩
  · rw [List.getElem?_append_left hl, List.getElem?_eq_getElem hl]
  · rw [List.getD_eq_getElem?_getD, List.getElem?_eq_getElem hl]; rfl
theorem sched_set2 (b : List UInt8) (t : Nat) (h1 : 16 ≤ t) (h2 : t < 64) (p q x y : Nat) (hp : (sched b t).getD (t - 16) 0 = p) (hx : (sched b t).getD (t - 15) 0 = x) (hq : (sched b t).getD (t - 7) 0 = q) (hy : (sched b t).getD (t - 2) 0 = y) :
    (sched b t ++ List.replicate (64 - t) 0).set t ((p + lowW x + q + highW y) % 4294967296) = sched b (t + 1) ++ List.replicate (64 - (t + 1)) 0 := by
  rw [List.set_append, if_neg (by rw [sched_len]; omega), sched_len, Nat.sub_self, show 64 - t = (64 - (t + 1)) + 1 by omega, List.replicate_succ, List.set_cons_zero, sched]
  simp only [if_neg (show ¬ t < 16 by omega), hp, hx, hq, hy, List.append_assoc, List.singleton_append]
theorem slice64 (g t : Nat) (ht : t < 16) (w : World) : (Instr.sliceAt 70 (.pointer (some ⟨g, 0, none⟩)) (some (.int .i64 (4 * (t : Int)))) none none).run Tryd.prog w = .ok (.slice (some ⟨g, 4 * t, none⟩) (64 - 4 * t) (64 - 4 * t)) w := by
  have har : Tryd.prog.arrayLen 70 = 64 := by kernel_rfl
  have hel : Tryd.prog.elem 70 = 5 := by kernel_rfl
  have hsz : (sizeOf 5).run Tryd.prog w = .ok 1 w := by kernel_rfl
  have hu : Tryd.prog.underlying 70 = some (.array (Tryd.prog.arrayLen 70) (Tryd.prog.elem 70)) := by kernel_rfl
  have e1 : (4 * (t : Int)).toNat = 4 * t := by omega
  rw [run_sliceAt_array_l (ht := hu) (h0 := by omega) (h1 := by rw [har]; omega), hel, hsz, har, e1]
  simp only [Result.andThen_ok, slicedAt]
  rw [if_neg (by omega)]
  simp [Addr.add]
  omega
set_option maxHeartbeats 1000000 in
theorem spread_any (w : World) (g : Nat) (b : List UInt8) (hb : Blk w g b) (hl : b.length = 64) :
    Calls Tryd.prog 66 #[.pointer (some ⟨g, 0, none⟩)] w fun e w' => e = .returned (.agg (wordCells (sched b 64)).toArray) ∧ Kp [] w w' := by
  have HL := Lib.hid hl
  clear hl
  have hz := zero_wb w 77
  have hz0 := zero_sz w 77
  have hk0 : Kp [] w (w.alloc (.cells (Array.replicate 64 (.int .u32 0)) 77)) := (Kp.rfl_ _ _).alloc _
  have hrep : (Array.replicate 64 (Value.int .u32 0)) = #[.int .u32 0, .int .u32 0, .int .u32 0, .int .u32 0, .int .u32 0, .int .u32 0, .int .u32 0, .int .u32 0, .int .u32 0, .int .u32 0, .int .u32 0, .int .u32 0, .int .u32 0, .int .u32 0, .int .u32 0, .int .u32 0, .int .u32 0, .int .u32 0, .int .u32 0, .int .u32 0, .int .u32 0, .int .u32 0, .int .u32 0, .int .u32 0, .int .u32 0, .int .u32 0, .int .u32 0, .int .u32 0, .int .u32 0, .int .u32 0, .int .u32 0, .int .u32 0, .int .u32 0, .int .u32 0, .int .u32 0, .int .u32 0, .int .u32 0, .int .u32 0, .int .u32 0, .int .u32 0, .int .u32 0, .int .u32 0, .int .u32 0, .int .u32 0, .int .u32 0, .int .u32 0, .int .u32 0, .int .u32 0, .int .u32 0, .int .u32 0, .int .u32 0, .int .u32 0, .int .u32 0, .int .u32 0, .int .u32 0, .int .u32 0, .int .u32 0, .int .u32 0, .int .u32 0, .int .u32 0, .int .u32 0, .int .u32 0, .int .u32 0, .int .u32 0] := rfl
  rw [hrep] at hz hz0 hk0
  clear hrep
  obtain ⟨g2, hg2⟩ : ∃ g2, w.heap.size = g2 := ⟨_, rfl⟩
  have hgge : w.heap.size ≤ g2 := by omega
  have hgl := hb.1
  obtain ⟨CS, hCS⟩ : ∃ CS, (wordCells (sched b 64)).toArray = CS := ⟨_, rfl⟩
  rw [hCS]
  have HCS := Lib.hid hCS
  have HSZ : Hid ((Tryd.prog.info? 77).map (·.size) = some CS.size) := Lib.hid (by
    rw [← hCS, show (wordCells (sched b 64)).toArray.size = 64 by simp [wordCells, sched_len]]
    kernel_rfl)
  have HONE : Hid (CS.all (·.oneCell') = true) := Lib.hid (by
    rw [← hCS]
    simp only [List.all_toArray, wordCells, List.all_map, List.all_eq_true]
    intro x _
    rfl)
  clear hCS
  go_enter Tryd.func66, Tryd.ntmps66
  go_wp2_with fail
  simp only [hg2] at hz hz0 ⊢
  clear hg2
  generalize (w.alloc (.cells _ 77)) = w1 at *
  go_loopg [10] 16 (fun gk i wr => ∃ t : Nat, 16 - t ≤ gk ∧ i = .int .i64 t ∧ t ≤ 16 ∧ WB wr g2 (sched b t ++ List.replicate (64 - t) 0) ∧ Szc wr g2 64 ∧ Kp [] w wr)
  case atStart => exact ⟨0, by omega, rfl, Nat.zero_le _, hz, hz0, hk0⟩
  case round =>
    clear hz hz0 hk0
    obtain ⟨t, hgk, rfl, ht, hwb, hsc, hkp⟩ := hrel
    by_cases hlt : t < 16
    · have hbw := hb.kp hkp (by simp)
      obtain ⟨x0, h0⟩ : ∃ x, b[4 * t]? = some x := ⟨_, List.getElem?_eq_getElem (by rw [HL.out]; omega)⟩
      obtain ⟨x1, h1⟩ : ∃ x, b[4 * t + 1]? = some x := ⟨_, List.getElem?_eq_getElem (by rw [HL.out]; omega)⟩
      obtain ⟨x2, h2⟩ : ∃ x, b[4 * t + 2]? = some x := ⟨_, List.getElem?_eq_getElem (by rw [HL.out]; omega)⟩
      obtain ⟨x3, h3⟩ : ∃ x, b[4 * t + 3]? = some x := ⟨_, List.getElem?_eq_getElem (by rw [HL.out]; omega)⟩
      have c0 := hbw.2 _ _ h0
      have c1 := hbw.2 _ _ h1
      have c2 := hbw.2 _ _ h2
      have c3 := hbw.2 _ _ h3
      have hsl := slice64 g t (by omega) wr
      clear hb hgl
      have hlen : (sched b t ++ List.replicate (64 - t) 0).length = 64 := by rw [List.length_append, sched_len, List.length_replicate]; omega
      obtain ⟨y, hy⟩ : ∃ y, (sched b t ++ List.replicate (64 - t) 0)[t]? = some y := ⟨_, List.getElem?_eq_getElem (by rw [hlen]; omega)⟩
      have hcy := hwb.cell hy
      have hfy := hwb.free (j := t) (by rw [hlen]; omega)
      have k1 : (1 : Int) < ((64 - 4 * t : Nat) : Int) := by omega
      have k2 : (2 : Int) < ((64 - 4 * t : Nat) : Int) := by omega
      have k3 : (3 : Int) < ((64 - 4 * t : Nat) : Int) := by omega
      have k0 : (0 : Int) < ((64 - 4 * t : Nat) : Int) := by omega
      have hset := hwb.set (j := t) (x0.toNat * 2 ^ 24 + x1.toNat * 2 ^ 16 + x2.toNat * 2 ^ 8 + x3.toNat)
      rw [sched_set b t hlt x0 x1 x2 x3 h0 h1 h2 h3, ← word_or _ _ _ _ x0.toNat_lt x1.toNat_lt x2.toNat_lt x3.toNat_lt] at hset
      have HSET := Lib.hid hset
      clear hlen hy h0 h1 h2 h3 hset
      go_wp2_with fail
      go_region
      have hset := HSET.out
      clear HSET
      obtain ⟨z, hz⟩ : ∃ z, bits .or .u32 (bits .or .u32 (bits .or .u32 ((x0.toNat : Int) % 4294967296 * 16777216 % 4294967296) ((x1.toNat : Int) % 4294967296 * 65536 % 4294967296)) ((x2.toNat : Int) % 4294967296 * 256 % 4294967296)) ((x3.toNat : Int) % 4294967296) = z := ⟨_, rfl⟩
      rw [hz] at hset ⊢
      have hb3 : WB (wr.setCell ⟨g2, t, none⟩ (.int .u32 z)).drew g2 (sched b (t + 1) ++ List.replicate (64 - (t + 1)) 0) := hset
      have hsc3 : Szc (wr.setCell ⟨g2, t, none⟩ (.int .u32 z)).drew g2 64 := hsc.set _ _
      have hkp3 : Kp [] w (wr.setCell ⟨g2, t, none⟩ (.int .u32 z)).drew := (hkp.set (by simp; omega) _).drew
      clear hset hcy hfy hwb hsc hkp c0 c1 c2 c3
      generalize (wr.setCell ⟨g2, t, none⟩ (.int .u32 z)).drew = wq at *
      go_wp2_with fail
      go_roundg (16 - (t + 1))
      case measure => omega
      case rel => exact ⟨t + 1, by omega, by go_num, by omega, hb3, hsc3, hkp3⟩
    · obtain rfl : t = 16 := by omega
      clear hb hgl
      go_wp2_with fail
      go_loopg [5] 64 (fun gk i wr => ∃ t : Nat, 64 - t ≤ gk ∧ i = .int .i64 t ∧ 16 ≤ t ∧ t ≤ 64 ∧ WB wr g2 (sched b t ++ List.replicate (64 - t) 0) ∧ Szc wr g2 64 ∧ Kp [] w wr)
      case atStart => exact ⟨16, by omega, rfl, by omega, by omega, hwb, hsc, hkp⟩
      case round =>
        clear hwb hsc hkp
        obtain ⟨t, hgk, rfl, ht16, ht, hwb, hsc, hkp⟩ := hrel
        by_cases hlt : t < 64
        · obtain ⟨p, hp, hp2, hp3⟩ := sched_get b t (t - 16) (by omega)
          obtain ⟨x, hx, hx2, hx3⟩ := sched_get b t (t - 15) (by omega)
          obtain ⟨q, hq, hq2, hq3⟩ := sched_get b t (t - 7) (by omega)
          obtain ⟨y, hy, hy2, hy3⟩ := sched_get b t (t - 2) (by omega)
          have cp := hwb.cell hp
          have cx := hwb.cell hx
          have cq := hwb.cell hq
          have cy := hwb.cell hy
          have n1 : ((t : Int) - 16).toNat = t - 16 := by omega
          have n2 : ((t : Int) - 15).toNat = t - 15 := by omega
          have n3 : ((t : Int) - 7).toNat = t - 7 := by omega
          have n4 : ((t : Int) - 2).toNat = t - 2 := by omega
          have m1 : IntKind.i64.wrap ((t : Int) - 16) = (t : Int) - 16 := IntWalk.i64_in _ (by omega)
          have m2 : IntKind.i64.wrap ((t : Int) - 15) = (t : Int) - 15 := IntWalk.i64_in _ (by omega)
          have m3 : IntKind.i64.wrap ((t : Int) - 7) = (t : Int) - 7 := IntWalk.i64_in _ (by omega)
          have m4 : IntKind.i64.wrap ((t : Int) - 2) = (t : Int) - 2 := IntWalk.i64_in _ (by omega)
          have p1 : (0 : Int) ≤ (t : Int) - 16 := by omega
          have p2 : (0 : Int) ≤ (t : Int) - 15 := by omega
          have p3 : (0 : Int) ≤ (t : Int) - 7 := by omega
          have p4 : (0 : Int) ≤ (t : Int) - 2 := by omega
          have q1 : (t : Int) - 16 < 64 := by omega
          have q2 : (t : Int) - 15 < 64 := by omega
          have q3 : (t : Int) - 7 < 64 := by omega
          have q4 : (t : Int) - 2 < 64 := by omega
          have hlen : (sched b t ++ List.replicate (64 - t) 0).length = 64 := by rw [List.length_append, sched_len, List.length_replicate]; omega
          have hfy := hwb.free (j := t) (by rw [hlen]; omega)
          obtain ⟨y0, hy0⟩ : ∃ y0, (sched b t ++ List.replicate (64 - t) 0)[t]? = some y0 := ⟨_, List.getElem?_eq_getElem (by rw [hlen]; omega)⟩
          have ct := hwb.cell hy0
          have p0 : (16 : Int) ≤ (t : Int) := by omega
          clear hy0
          have hset := hwb.set (j := t) ((p + lowW x + q + highW y) % 4294967296)
          rw [sched_set2 b t ht16 hlt p q x y hp2 hx2 hq2 hy2] at hset
          have e1 := u32_xor_nat _ _ (rotn_lt x 7 hx3) (rotn_lt x 18 hx3)
          have e2 : bits .xor .u32 ((rotn x 7 ^^^ rotn x 18 : Nat) : Int) ((x : Int) / 8) = ((lowW x : Nat) : Int) := by
            rw [show (x : Int) / 8 = ((x / 8 : Nat) : Int) by omega]
            exact u32_xor_nat _ (x / 8) (xor_lt32 (rotn_lt x 7 hx3) (rotn_lt x 18 hx3)) (by omega)
          have e3 := u32_xor_nat _ _ (rotn_lt y 17 hy3) (rotn_lt y 19 hy3)
          have e4 : bits .xor .u32 ((rotn y 17 ^^^ rotn y 19 : Nat) : Int) ((y : Int) / 1024) = ((highW y : Nat) : Int) := by
            rw [show (y : Int) / 1024 = ((y / 1024 : Nat) : Int) by omega]
            exact u32_xor_nat _ (y / 1024) (xor_lt32 (rotn_lt y 17 hy3) (rotn_lt y 19 hy3)) (by omega)
          generalize lowW x = lo at *
          generalize highW y = hi at *
          have HR1 : ∀ w', Calls Tryd.prog 67 #[.int .u32 x, .int .i64 7] w' fun e w'' => e = .returned (.int .u32 (rotn x 7 : Nat)) ∧ w' = w'' := fun w' => rot_any x 7 w' hx3 (by omega) (by omega)
          have HR2 : ∀ w', Calls Tryd.prog 67 #[.int .u32 x, .int .i64 18] w' fun e w'' => e = .returned (.int .u32 (rotn x 18 : Nat)) ∧ w' = w'' := fun w' => rot_any x 18 w' hx3 (by omega) (by omega)
          have HR3 : ∀ w', Calls Tryd.prog 67 #[.int .u32 y, .int .i64 17] w' fun e w'' => e = .returned (.int .u32 (rotn y 17 : Nat)) ∧ w' = w'' := fun w' => rot_any y 17 w' hy3 (by omega) (by omega)
          have HR4 : ∀ w', Calls Tryd.prog 67 #[.int .u32 y, .int .i64 19] w' fun e w'' => e = .returned (.int .u32 (rotn y 19 : Nat)) ∧ w' = w'' := fun w' => rot_any y 19 w' hy3 (by omega) (by omega)
          generalize rotn x 7 = r1 at *
          generalize rotn x 18 = r2 at *
          generalize rotn y 17 = r3 at *
          generalize rotn y 19 = r4 at *
          clear hp hx hq hy hlen hp2 hx2 hq2 hy2
          go_wp2_with fail
          go_region
          go_wp2_with fail
          refine (HR1 _).mono ?_
          rintro e w8 ⟨rfl, rfl⟩
          go_wp2_with fail
          refine (HR2 _).mono ?_
          rintro e w8 ⟨rfl, rfl⟩
          go_wp2_with fail
          refine (HR3 _).mono ?_
          rintro e w8 ⟨rfl, rfl⟩
          go_wp2_with fail
          refine (HR4 _).mono ?_
          rintro e w8 ⟨rfl, rfl⟩
          go_wp2_with fail
          go_region
          have hv : ((p : Int) + (lo : Int) + (q : Int) + (hi : Int)) % 4294967296 = (((p + lo + q + hi) % 4294967296 : Nat) : Int) := by omega
          try simp only [hv]
          have hb3 : WB (wr.setCell ⟨g2, t, none⟩ (.int .u32 (((p + lo + q + hi) % 4294967296 : Nat) : Int))).drew.drew g2 (sched b (t + 1) ++ List.replicate (64 - (t + 1)) 0) := hset
          have hsc3 : Szc (wr.setCell ⟨g2, t, none⟩ (.int .u32 (((p + lo + q + hi) % 4294967296 : Nat) : Int))).drew.drew g2 64 := hsc.set _ _
          have hkp3 : Kp [] w (wr.setCell ⟨g2, t, none⟩ (.int .u32 (((p + lo + q + hi) % 4294967296 : Nat) : Int))).drew.drew := (hkp.set (by simp; omega) _).drew.drew
          clear hset hv hwb hsc hkp cp cx cq cy ct hfy
          generalize (wr.setCell ⟨g2, t, none⟩ (.int .u32 (((p + lo + q + hi) % 4294967296 : Nat) : Int))).drew.drew = wq at *
          go_wp2_with fail
          go_roundg (64 - (t + 1))
          case measure => omega
          case rel => exact ⟨t + 1, by omega, by go_num, by omega, by omega, hb3, hsc3, hkp3⟩
        · obtain rfl : t = 64 := by omega
          rw [Nat.sub_self, List.replicate_zero, List.append_nil] at hwb
          obtain ⟨tt, hgx⟩ := hwb.all (by rw [sched_len]; exact hsc)
          have hinf := HSZ.out
          have hone := HONE.out
          rw [HCS.out] at hgx
          clear HSZ HONE HCS hwb hsc
          go_wp2_with (first | refine wpList_load_row rfl 77 _ rfl g2 rfl tt _ (0, 0) _ hgx Tryd.underlying77 rfl hinf ?_ | refine wpList_store_row rfl 77 _ _ rfl g2 CS rfl rfl tt CS hgx hinf rfl hone ?_)
          rw [setRow_self _ _ _ _ _ hgx]
          exact bodyPost_ret (results_cell_row (P := Tryd.prog) rfl _ _ g2 _ _ _ _ rfl hgx Tryd.underlying77 rfl hinf) rfl ⟨rfl, hkp⟩
end Go.Proofs.YtencpplopdogmaaDoor
