/- Package disk: DiskFull. -/
import Derived.Test.YtnmogfjbbibeiaaDy
import Derived.Test.YtnmogfjbbibeiaaRi
namespace Go.Proofs.Ytnmogfjbbibeiaa
set_option maxRecDepth 100000
open Go.RowKit
set_option linter.unusedVariables false

theorem append_fit {A : AD} {s x : ByteArray} (h1 : refE s A.down = 0) (h2 : (A.F.last s).size + (A.F.wait s).size + x.size ≤ 1048576) (h3 : A.fused = false) :
    A.append s x = (0, A.tick (A.F.set s (some ⟨A.F.last s, A.F.wait s ++ x, A.F.sy s⟩))) := by
  unfold AD.append
  rw [if_neg (by rw [h1]; simp), if_neg (by omega), if_neg (by rw [h3]; simp)]
theorem append_full {A : AD} {s x : ByteArray} (h1 : refE s A.down = 0) (h2 : 1048576 < (A.F.last s).size + (A.F.wait s).size + x.size) : A.append s x = (52, A) := by
  unfold AD.append
  rw [if_neg (by rw [h1]; simp), if_pos h2]
def sF : ByteArray := ⟨#[102]⟩
def zs (n : Nat) : ByteArray := bs (List.replicate n 0)
theorem zs_size (n : Nat) : (zs n).size = n := by unfold zs; rw [bs_size, List.length_replicate]
/-- A drive of one file, of which m bytes wait. -/
def oneF (x : ByteArray) (k : Nat) : AD := ⟨FA.set (fun _ => none) sF (some ⟨⟨#[]⟩, x, false⟩), false, false, 0, k⟩
theorem oneF_last (x : ByteArray) (k : Nat) : (oneF x k).F.last sF = ⟨#[]⟩ := by unfold oneF FA.last FA.set; simp
theorem oneF_wait (x : ByteArray) (k : Nat) : (oneF x k).F.wait sF = x := by unfold oneF FA.wait FA.set; simp
theorem oneF_sy (x : ByteArray) (k : Nat) : (oneF x k).F.sy sF = false := by unfold oneF FA.sy FA.set; simp
theorem refF : refE sF false = 0 := by kernel_rfl
theorem set_set (F : FA) (s : ByteArray) (x y : Option AF) : FA.set (FA.set F s x) s y = FA.set F s y := by
  funext s'
  unfold FA.set
  split <;> rfl
theorem full_0 {m : Nat} (h : m ≤ 1048576) : dw0.append sF (zs m) = (0, oneF (zs m) 1) := by
  rw [append_fit refF (by rw [zs_size]; show 0 + 0 + m ≤ _; omega) rfl]
  have e : FA.wait dw0.F sF ++ zs m = zs m := ByteArray.empty_append
  rw [e]
  rfl
theorem full_no {x y : ByteArray} {k : Nat} (h : 1048576 < x.size + y.size) : (oneF x k).append sF y = (52, oneF x k) :=
  append_full refF (by rw [oneF_last, oneF_wait]; show 1048576 < 0 + x.size + y.size; omega)
theorem full_yes {x y : ByteArray} {k : Nat} (h : x.size + y.size ≤ 1048576) : (oneF x k).append sF y = (0, oneF (x ++ y) (k + 1)) := by
  rw [append_fit refF (by rw [oneF_last, oneF_wait]; show 0 + x.size + y.size ≤ _; omega) rfl, oneF_last, oneF_wait, oneF_sy]
  unfold oneF AD.tick
  simp only [set_set]
  rfl
theorem full_read (x : ByteArray) (k : Nat) : (oneF x k).read sF = x ∧ (oneF x k).has sF = true := by
  constructor
  · unfold AD.read
    rw [if_neg (by unfold oneF FA.set; simp), oneF_last, oneF_wait]
    exact ByteArray.empty_append
  · unfold AD.has oneF FA.set
    simp
theorem zmade_conv {base g n : Nat} {w : World} (h : w.ownsRow base 5 1 (.slice (some ⟨g, 0, none⟩) n n) n (madeCells (Value.int .u8 0).cells (n * 1)).toList) :
    (convert 49 9 (.slice (some ⟨g, 0, none⟩) n n)).run Try.prog w = .ok (.string (zs n)) w := by
  rw [made_bytes] at h
  have := conv_bytes (l := List.replicate n 0) (v := .slice (some ⟨g, 0, none⟩) n n) (base := base) (w := w) (by rw [List.length_replicate]; exact h)
  exact this
def Made (B : Nat) (w : World) (v : Value) (n : Nat) : Prop := ∃ g, v = .slice (some ⟨g, 0, none⟩) n n ∧ B ≤ g ∧ w.ownsRow B 5 1 v n (madeCells (Value.int .u8 0).cells (n * 1)).toList
theorem Made.kx {B n : Nat} {w w' : World} {v : Value} {P : Nat → Prop} (h : Made B w v n) (k : KX P w w') (hP : ∀ x, P x → x < B) : Made B w' v n := by
  obtain ⟨g, rfl, hg, ho⟩ := h
  obtain ⟨S, k1, k2⟩ := k
  exact ⟨g, rfl, hg, own_kp ho k1 fun g' e hm => by
    have e : g = g' := by simpa [Value.ownBlock] using e
    have := hP _ (k2 _ hm)
    omega⟩
/-- What the two Appends' operations leave. -/
def FuF (w0 w3 : World) (d n m : Nat) (q : Nat) (v : Value) (w : World) : Prop := match q with
  | 0 => v = .pointer (some ⟨d, 0, none⟩)
  | 1 => v = .int .i64 n
  | 2 => v = .int .i64 m
  | 3 => Made w3.heap.size w v m
  | 4 => v = .string (zs m)
  | 5 => v = .int .i64 0 ∧ ∃ P, Drv w d (oneF (zs m) 1) 3 P ∧ ∀ x, P x → w0.heap.size ≤ x
  | 6 => v = .pointer (some ⟨d, 0, none⟩)
  | 7 => v = .int .i64 n
  | 8 => v = .int .i64 (n + 1 : Nat)
  | 9 => Made w3.heap.size w v (n + 1)
  | 10 => v = .string (zs (n + 1))
  | 11 => v = .int .i64 52
  | 12 => v = .int .i64 0
  | 13 => v = .int .i64 52
  | 14 => Drv w d dw0 0 (fun x => w0.heap.size ≤ x ∧ x < w3.heap.size)
  | _ => Kp [] w0 w ∧ w3.heap.size ≤ w.heap.size
theorem FuF.kp {w0 w3 w w' : World} {d n m q : Nat} {v : Value} (h : FuF w0 w3 d n m q v w) (k : Kp [] w w') : FuF w0 w3 d n m q v w' := by
  rcases q with _|_|_|_|_|_|_|_|_|_|_|_|_|_|_|q
  all_goals first
    | exact h
    | exact Made.kx h (KX.of (P := fun _ => False) k (by simp)) (fun _ h => h.elim)
    | (obtain ⟨h1, P, h2, h3⟩ := h; exact ⟨h1, P, h2.kp k, h3⟩)
    | exact Drv.kp h k
    | exact ⟨h.1.trans k, Nat.le_trans h.2 k.size⟩
theorem drv_append_no {w : World} {d N : Nat} {A : AD} {P : Nat → Prop} (s x : ByteArray) (h : Drv w d A N P) (hno : (A.append s x).1 ≠ 0) (hs : s.size ≤ maxLen) (hx : x.size ≤ 1099511627776) (hN : N < 1000000) (hl : A.left ≤ 9223372036854775807) (hst : A.steps ≤ 1000000000000) :
    Calls Try.prog 25 #[.pointer (some ⟨d, 0, none⟩), .string s, .string x] w fun e w' => e = .returned (.int .i64 (A.append s x).1) ∧ Left w d (A.append s x).2 N P w' := by
  have h0 := h
  obtain ⟨b, F, h1, h2, h3, h4⟩ := h
  have e1 : (A.F.last s).size + (A.F.wait s).size = (lastOf F s).size + (waitOf F s).size := by rw [← h2, strip_last, strip_wait]
  refine (append_any s x w h1 hs hx hN h3 hl hst).mono ?_
  rintro e w' (⟨a1, rfl, rfl⟩ | ⟨a1, a2, rfl, a3, a4⟩ | ⟨a1, a2, a3, rfl, a4, a5⟩ | ⟨a1, a2, a3, rfl, g, a4, a5, a6, a7⟩) <;> unfold AD.append <;> unfold AD.append at hno
  · rw [if_pos a1]
    exact ⟨rfl, h0.mono (Nat.le_refl _) fun _ h _ => .inl h, KX.rfl_ _ _⟩
  · rw [if_neg (by rw [a1]; simp), if_pos (by rw [e1]; exact a2)]
    exact ⟨rfl, ⟨b, F, a3, h2, h3, fun x hx => .inl (h4 x hx)⟩, KX.of a4 (by simp)⟩
  · rw [if_neg (by rw [a1]; simp), if_neg (by rw [e1]; omega), if_pos a3]
    exact ⟨rfl, ⟨b, F, a4, h2, h3, fun x hx => .inl (h4 x hx)⟩, KX.of a5 (fun z hz => by simp at hz; rw [hz]; exact h4 _ (.inl rfl))⟩
  · rw [if_neg (by rw [a1]; simp), if_neg (by rw [e1]; omega), if_neg a3] at hno
    exact absurd rfl hno
theorem dmodn (a : Int) (n : Nat) (h0 : 0 < n) (hn : n ≤ 1000) : ∃ k : Nat, wrap64 ((IntKind.u64.wrap a).tmod (n : Int)) = (k : Int) ∧ k < n := by
  obtain ⟨u, hu⟩ : ∃ u : Nat, IntKind.u64.wrap a = u := by
    rw [IntKind.wrap_u64]
    exact ⟨(a % 18446744073709551616).toNat, by omega⟩
  rw [hu]
  have e : (u : Int).tmod (n : Int) = ((u % n : Nat) : Int) := by rw [Int.tmod_eq_emod_of_nonneg (by omega)]; push_cast; rfl
  have hlt : u % n < n := Nat.mod_lt _ h0
  rw [e]
  exact ⟨u % n, IntWalk.wrap64_in _ ⟨by omega, by omega⟩, hlt⟩
set_option maxHeartbeats 8000000 in
theorem dfull_walk (v0 : Value) (w : World) (ia : In w 3 v0) : Calls Try.prog 7 #[v0] w (Yes w) := by
  obtain ⟨a, rfl, _⟩ := in_int Try.underlying3 ia
  clear ia
  obtain ⟨n, hn, hn1⟩ := dmodn a 1000 (by omega) (by omega)
  have hn : wrap64 ((IntKind.u64.wrap a).tmod 1000) = (n : Int) := hn
  obtain ⟨m, hm⟩ : ∃ m, 1048576 - n = m := ⟨_, rfl⟩
  have hmi : 1048576 - (n : Int) = (m : Int) := by omega
  have hwm : IntKind.i64.wrap (m : Int) = (m : Int) := IntWalk.i64_in _ (by omega)
  have hwn : IntKind.i64.wrap ((n : Int) + 1) = (n : Int) + 1 := IntWalk.i64_in _ (by omega)
  have hmle : m ≤ 1048576 := by omega
  obtain ⟨i0, hi0, hz0, hz1, hz2⟩ := info_parts info_u8
  go_enter Try.func7, Try.ntmps7
  go_wp2_with fail
  refine (drv_new w).mono ?_
  rintro e w3 ⟨d, rfl, h3, hk3⟩
  have HM := Lib.hid hm
  clear hm
  go_wp2_with fail
  refine region_gen2 (FuF w w3 d n m) (fun i j => (i == 5 && (j == 14 || j == 3)) || (i == 11 && (j == 3 || j == 9 || j == 14))) (by kernel_rfl) _ rfl (by kernel_rfl) (by kernel_rfl) (by kernel_rfl) (by kernel_rfl) ?_ ?_ ?_
  · intro q hq
    rcases q with _|_|_|_|_|_|_|_|_|_|_|_|_|_|_|q
    all_goals first
      | exact absurd hq (by decide)
      | exact (h3.mono (Nat.le_refl _) fun x h1 h2 => ⟨h1, h2⟩).kp ((Kp.rfl_ _ _).drew)
      | exact ⟨hk3.drew, Nat.le_refl _⟩
  · intro q o hqn ho av wv K hS H hK
    have hf3 : av.eval (.tmp 3) = .pointer (some ⟨d, 0, none⟩) := (hS.2.2 3 (nofill (by kernel_rfl))).trans rfl
    have hf0 : av.eval (.tmp 0) = .int .i64 n := (hS.2.2 0 (nofill (by kernel_rfl))).trans (congrArg (Value.int .i64) hn)
    rcases q with _|_|_|_|_|_|_|_|_|_|_|_|_|q
    all_goals try (obtain rfl := Option.some.inj ho)
    · have e3 := gd hf3
      exact wpOp_value rfl rfl (v := .pointer (some ⟨d, 0, none⟩)) (w' := wv) (by simp [execOp, go_sem, e3]) (hK _ _ (fun h => by cases h) rfl fun _ _ _ _ h => h)
    · have e0 := gd hf0
      exact wpOp_value rfl rfl (v := .int .i64 n) (w' := wv) (by simp [execOp, go_sem, e0]) (hK _ _ (fun h => by cases h) rfl fun _ _ _ _ h => h)
    · have e16 := gd (t := 16) (H 1 (by kernel_rfl) (by kernel_rfl))
      exact wpOp_value rfl rfl (v := .int .i64 m) (w' := wv) (by simp [execOp, go_sem, e16, hmi, hwm]) (hK _ _ (fun h => by cases h) rfl fun _ _ _ _ h => h)
    · have e17 := gd (t := 17) (H 2 (by kernel_rfl) (by kernel_rfl))
      obtain ⟨hkw, hsz⟩ : Kp [] w wv ∧ w3.heap.size ≤ wv.heap.size := H 15 (by kernel_rfl) (by kernel_rfl)
      obtain ⟨w', hrun, r1, r2⟩ := run_make_full (P := Try.prog) wv w3.heap.size 49 5 i0 _ 1 Try.underlying49 hi0 hz0 hz1 .i64 .i64 (m) (by rw [hz2]; omega) (by unfold maxLen; omega) hsz
      refine wpOp_value rfl rfl (v := .slice (some ⟨wv.heap.size, 0, none⟩) (m) (m)) (w' := w') (by simp [execOp, go_sem, e17, hrun]) (hK _ _ (fun h => by cases h) ⟨_, rfl, hsz, r1⟩ fun j u _ _ h => h.kp (Kp.of_grown r2 (by simp)))
    · obtain ⟨g, hv, hg, ho⟩ : Made w3.heap.size wv _ (m) := H 3 (by kernel_rfl) (by kernel_rfl)
      have e18 := gd (t := 18) hv
      rw [hv] at ho
      have hcv := zmade_conv ho
      exact wpOp_value rfl rfl (v := .string (zs (m))) (w' := wv) (by simp [execOp, go_sem, e18, hcv]) (hK _ _ (fun h => by cases h) rfl fun _ _ _ _ h => h)
    · have e15 := gd (t := 15) (H 0 (by kernel_rfl) (by kernel_rfl))
      have e19 := gd (t := 19) (H 4 (by kernel_rfl) (by kernel_rfl))
      have h14 : Drv wv d dw0 0 (fun x => w.heap.size ≤ x ∧ x < w3.heap.size) := H 14 (by kernel_rfl) (by kernel_rfl)
      obtain ⟨hkw, hsz⟩ : Kp [] w wv ∧ w3.heap.size ≤ wv.heap.size := H 15 (by kernel_rfl) (by kernel_rfl)
      refine wpOp_call rfl rfl (f := 25) (args := #[.pointer (some ⟨d, 0, none⟩), .string sF, .string (zs m)]) (w1 := wv) (by simp [execOp, go_sem, e15, e19]; rfl) ?_
      refine (drv_append sF (zs m) h14 (by decide) (by rw [zs_size]; omega) (by omega) (by decide) (by decide)).mono ?_
      rintro e w5 ⟨rfl, hl5⟩
      rw [full_0 (by omega)] at hl5 ⊢
      refine ⟨_, rfl, hK _ _ (fun h => by cases h) ⟨rfl, _, hl5.1.mono (by omega) (fun x hx _ => hx), fun x hx => ?_⟩ fun j u hj hD h => ?_⟩
      · rcases hx with hx | hx
        · exact hx.1
        · have := hkw.size; omega
      · rcases j with _|_|_|_|_|_|_|_|_|_|_|_|_|_|_|j
        all_goals first
          | exact h
          | exact absurd rfl hj
          | exact Made.kx h hl5.2 (fun x hx => hx.2)
          | exact absurd hD (by decide)
          | exact ⟨hl5.2.base h.1 (fun x hx => hx.1), Nat.le_trans h.2 hl5.2.size⟩
    · have e3 := gd hf3
      exact wpOp_value rfl rfl (v := .pointer (some ⟨d, 0, none⟩)) (w' := wv) (by simp [execOp, go_sem, e3]) (hK _ _ (fun h => by cases h) rfl fun _ _ _ _ h => h)
    · have e0 := gd hf0
      exact wpOp_value rfl rfl (v := .int .i64 n) (w' := wv) (by simp [execOp, go_sem, e0]) (hK _ _ (fun h => by cases h) rfl fun _ _ _ _ h => h)
    · have e22 := gd (t := 22) (H 7 (by kernel_rfl) (by kernel_rfl))
      exact wpOp_value rfl rfl (v := .int .i64 (n + 1 : Nat)) (w' := wv) (by simp [execOp, go_sem, e22, hwn]) (hK _ _ (fun h => by cases h) rfl fun _ _ _ _ h => h)
    · have e23 := gd (t := 23) (H 8 (by kernel_rfl) (by kernel_rfl))
      obtain ⟨hkw, hsz⟩ : Kp [] w wv ∧ w3.heap.size ≤ wv.heap.size := H 15 (by kernel_rfl) (by kernel_rfl)
      obtain ⟨w', hrun, r1, r2⟩ := run_make_full (P := Try.prog) wv w3.heap.size 49 5 i0 _ 1 Try.underlying49 hi0 hz0 hz1 .i64 .i64 (n + 1) (by rw [hz2]; omega) (by unfold maxLen; omega) hsz
      rw [show ((n + 1 : Nat) : Int) = (n : Int) + 1 from rfl] at hrun
      refine wpOp_value rfl rfl (v := .slice (some ⟨wv.heap.size, 0, none⟩) (n + 1) (n + 1)) (w' := w') (by simp [execOp, go_sem, e23, hrun]) (hK _ _ (fun h => by cases h) ⟨_, rfl, hsz, r1⟩ fun j u _ _ h => h.kp (Kp.of_grown r2 (by simp)))
    · obtain ⟨g, hv, hg, ho⟩ : Made w3.heap.size wv _ (n + 1) := H 9 (by kernel_rfl) (by kernel_rfl)
      have e24 := gd (t := 24) hv
      rw [hv] at ho
      have hcv := zmade_conv ho
      exact wpOp_value rfl rfl (v := .string (zs (n + 1))) (w' := wv) (by simp [execOp, go_sem, e24, hcv]) (hK _ _ (fun h => by cases h) rfl fun _ _ _ _ h => h)
    · have e21 := gd (t := 21) (H 6 (by kernel_rfl) (by kernel_rfl))
      have e25 := gd (t := 25) (H 10 (by kernel_rfl) (by kernel_rfl))
      obtain ⟨h50, P, h5, hP5⟩ : _ ∧ ∃ P, Drv wv d (oneF (zs m) 1) 3 P ∧ ∀ x, P x → w.heap.size ≤ x := H 5 (by kernel_rfl) (by kernel_rfl)
      obtain ⟨hkw, hsz⟩ : Kp [] w wv ∧ w3.heap.size ≤ wv.heap.size := H 15 (by kernel_rfl) (by kernel_rfl)
      refine wpOp_call rfl rfl (f := 25) (args := #[.pointer (some ⟨d, 0, none⟩), .string sF, .string (zs (n + 1))]) (w1 := wv) (by simp [execOp, go_sem, e21, e25]; rfl) ?_
      refine (drv_append_no sF (zs (n + 1)) h5 (by rw [full_no (by rw [zs_size, zs_size]; omega)]; exact fun e => by cases e) (by decide) (by rw [zs_size]; omega) (by omega) (Nat.zero_le _) (by show 1 ≤ _; omega)).mono ?_
      rintro e w5 ⟨rfl, hl5⟩
      rw [full_no (by rw [zs_size, zs_size]; omega)] at hl5 ⊢
      refine ⟨_, rfl, hK _ _ (fun h => by cases h) rfl fun j u hj hD h => ?_⟩
      rcases j with _|_|_|_|_|_|_|_|_|_|_|_|_|_|_|j
      all_goals first
        | exact h
        | exact absurd rfl hj
        | exact absurd hD (by decide)
        | exact ⟨hl5.2.base h.1 hP5, Nat.le_trans h.2 hl5.2.size⟩
        | skip
      exact ⟨h.1, _, hl5.1.mono (N' := 3) (by omega) (fun x hx _ => hx), fun x hx => hx.elim (hP5 x) (fun h2 => Nat.le_trans hkw.size h2)⟩
    · have e20 := gd (t := 20) (H 5 (by kernel_rfl) (by kernel_rfl)).1
      exact wpOp_value rfl rfl (v := .int .i64 0) (w' := wv) (by simp [execOp, go_sem, e20]) (hK _ _ (fun h => by cases h) rfl fun _ _ _ _ h => h)
    · simp at hqn; omega
  · intro av wv hS H
    have e26 := gd (t := 26) (H 11 (by decide) (by kernel_rfl))
    have e4 : av.tmps.getD 4 undef = .int .i64 0 := H 12 (by decide) (by kernel_rfl)
    obtain ⟨h50, P, h5, hP5⟩ : _ ∧ ∃ P, Drv wv d (oneF (zs m) 1) 3 P ∧ ∀ x, P x → w.heap.size ≤ x := H 5 (by decide) (by kernel_rfl)
    obtain ⟨hkw, hsz⟩ : Kp [] w wv ∧ w3.heap.size ≤ wv.heap.size := H 15 (by decide) (by kernel_rfl)
    refine wpOp_value rfl rfl (v := .int .i64 52) (w' := wv) (by simp [execOp, go_sem, e26]) ?_
    rw [same_fold hS [15, 16, 17, 18, 19, 20, 21, 22, 23, 24, 25, 26, 4, 5] (by kernel_rfl) (by kernel_rfl)]
    simp only [List.foldl]
    rw [e4]
    simp only [Act.put, List.setIfInBounds_toArray, List.set_cons_succ, List.set_cons_zero]
    generalize av.tmps.getD 15 undef = v15
    generalize av.tmps.getD 16 undef = v16
    generalize av.tmps.getD 17 undef = v17
    generalize av.tmps.getD 18 undef = v18
    generalize av.tmps.getD 19 undef = v19
    generalize av.tmps.getD 20 undef = v20
    generalize av.tmps.getD 21 undef = v21
    generalize av.tmps.getD 22 undef = v22
    generalize av.tmps.getD 23 undef = v23
    generalize av.tmps.getD 24 undef = v24
    generalize av.tmps.getD 25 undef = v25
    generalize av.tmps.getD 26 undef = v26
    generalize av.tmps.getD 5 undef = v5
    clear hS H e26 e4
    rw [hn]
    clear hn hi0
    obtain ⟨i0, hi0, hz0, hz1, hz2⟩ := info_parts info_u8
    go_wp2_with (at_make; go_must (refine wpList_make_full _ rfl _ _ 49 rfl wv.heap.size 5 i0 _ 1 Try.underlying49 hi0 hz0 hz1 .i64 .i64 n n n rfl rfl rfl rfl (by rw [hz2]; omega) (by unfold maxLen; omega) (Nat.le_refl _) ?_); intro w4 hown4 hg4; have hcv := zmade_conv hown4)
    have hk4 : Kp [] wv w4 := Kp.of_grown hg4 (by simp)
    have h4 := h5.kp hk4
    have hk04 := hkw.trans hk4
    clear hown4 hg4 hcv
    refine (drv_append sF (zs n) h4 (by decide) (by rw [zs_size]; omega) (by omega) (Nat.zero_le _) (by show 1 ≤ _; omega)).mono ?_
    rintro e w6 ⟨rfl, hl6⟩
    rw [full_yes (by rw [zs_size, zs_size]; omega)] at hl6 ⊢
    obtain ⟨x, hx⟩ : ∃ x, zs m ++ zs n = x := ⟨_, rfl⟩
    have hxz : x.size = 1048576 := by rw [← hx, ByteArray.size_append, zs_size, zs_size]; omega
    rw [hx] at hl6
    have hP6 : ∀ z, (P z ∨ w4.heap.size ≤ z) → w.heap.size ≤ z := fun z hz => hz.elim (hP5 z) (fun h2 => Nat.le_trans hk04.size h2)
    have hk06 := hl6.2.base hk04 hP5
    have h6 := hl6.1
    have HXZ := Lib.hid hxz
    clear hl6 hx hxz
    go_wp2_with fail
    refine (drv_append_no sF ⟨#[120]⟩ h6 (by rw [full_no (by rw [HXZ.out]; decide)]; exact fun e => by cases e) (by decide) (by decide) (by omega) (Nat.zero_le _) (by show 1 + 1 ≤ _; omega)).mono ?_
    rintro e w7 ⟨rfl, hl7⟩
    rw [full_no (by rw [HXZ.out]; decide)] at hl7 ⊢
    have hk07 := hl7.2.base hk06 hP6
    have h7 := hl7.1
    clear hl7
    go_wp2_with fail
    refine (drv_read sF h7 (by decide)).mono ?_
    rintro e w8 ⟨rfl, k8⟩
    rw [(full_read x (1 + 1)).1, (full_read x (1 + 1)).2]
    have h8 := h7.kp k8
    have hk08 := hk07.trans k8
    go_wp2_with fail
    refine (dawake_any w8).mono ?_
    rintro e w9 ⟨rfl, k9⟩
    have h9 := h8.kp k9
    have hk09 := hk08.trans k9
    have hxi : (x.size : Int) = 1048576 := by have := HXZ.out; omega
    go_wp2_with fail
    refine (drv_steps h9).mono ?_
    rintro e w10 ⟨rfl, rfl⟩
    rw [show ((oneF x (1 + 1)).steps : Int) = 2 from rfl]
    go_wp2_with fail
    go_ret
    exact ⟨rfl, hk09⟩
end Go.Proofs.Ytnmogfjbbibeiaa
