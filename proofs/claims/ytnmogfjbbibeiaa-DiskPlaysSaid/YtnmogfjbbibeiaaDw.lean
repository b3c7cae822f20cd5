/- The law's words of a drive: awake. -/
import Derived.Test.YtnmogfjbbibeiaaDv
namespace Go.Proofs.Ytnmogfjbbibeiaa
set_option maxRecDepth 100000
open Go.RowKit
set_option linter.unusedVariables false

def sA : ByteArray := ⟨#[97]⟩
def sB : ByteArray := ⟨#[98]⟩
def sXY : ByteArray := ⟨#[120, 121]⟩
def sZ : ByteArray := ⟨#[122]⟩
def sQ : ByteArray := ⟨#[113]⟩
def dw0 : AD := ⟨fun _ => none, false, false, 0, 0⟩
def dw1 : AD := (dw0.append sA sXY).2
def dw2 : AD := (dw1.sync sA).2
def dw3 : AD := (dw2.append sA sZ).2
def dw4 : AD := ⟨crashA [sA] [1] dw3.F, false, false, 0, 3⟩
def dw5 : AD := dw4.fuse 1
def dw6 : AD := (dw5.append sB sQ).2
def dw7 : AD := (dw6.sync sB).2
theorem dw_1 : (dw0.append sA sXY).1 = 0 := by kernel_rfl
theorem dw_2 : (dw1.sync sA).1 = 0 := by kernel_rfl
theorem dw_3 : (dw2.append sA sZ).1 = 0 := by kernel_rfl
theorem dw_4 : dw4.read sA = ⟨#[120, 121, 122]⟩ := by kernel_rfl
theorem dw_5 : dw4.has sA = true := by kernel_rfl
theorem dw_6 : (dw5.append sB sQ).1 = 0 := by kernel_rfl
theorem dw_7 : (dw6.sync sB).1 = 50 := by kernel_rfl
theorem dw_8 : dw7.down = true := by kernel_rfl
theorem dw_9 : (dw7.append ⟨#[65]⟩ ⟨#[]⟩).1 = 1 := by kernel_rfl
theorem dw_10 : (dw7.append ⟨#[65]⟩ ⟨#[]⟩).2.steps = 4 := by kernel_rfl
theorem dw3_F : ∃ x y z, dw3.F = FA.set (FA.set (FA.set (fun _ => none) sA x) sA y) sA (some z) := ⟨some ⟨⟨#[]⟩, sXY, false⟩, some ⟨sXY, ⟨#[]⟩, true⟩, ⟨sXY, sZ, true⟩, by unfold dw3; kernel_rfl⟩
theorem dw4_eq : (⟨crashA [sA] [1] dw3.F, false, false, 0, dw3.steps⟩ : AD) = dw4 := by kernel_rfl
theorem dw_crash {A' : AD} (h : dw3.crash [1] A') : A' = dw4 := by
  obtain ⟨L, h1, rfl⟩ := h
  have h2 : NamesA dw3.F ⟨#[]⟩ [sA] := by
    obtain ⟨x, y, z, e⟩ := dw3_F
    rw [e]
    refine ⟨List.pairwise_singleton _ _, fun s => ?_⟩
    rw [hpre_nil]
    unfold FA.set
    by_cases hs : s = sA <;> simp [hs]
  rw [h1.eq h2]
  exact dw4_eq
def big5 (A : AD) : Bool := decide (A.left ≤ 9223372036854775807) && decide (A.steps ≤ 1000000000000)
theorem big5_of {A : AD} (h : big5 A = true) : A.left ≤ 9223372036854775807 ∧ A.steps ≤ 1000000000000 := by
  unfold big5 at h
  simpa using h
theorem Drv.behind {w w' : World} {d N : Nat} {A : AD} {B : Nat} (h : Drv w' d A N (fun x => (fun x => B ≤ x) x ∨ w.heap.size ≤ x)) (hB : B ≤ w.heap.size) : Drv w' d A N (fun x => B ≤ x) :=
  h.mono (Nat.le_refl _) fun x hx _ => by
    rcases hx with hx | hx
    · exact hx
    · exact Nat.le_trans hB hx
theorem Left.own {w w' : World} {d N B : Nat} {A : AD} (h : Left w d A N (fun x => B ≤ x) w') (hB : B ≤ w.heap.size) : Drv w' d A N (fun x => B ≤ x) ∧ ∀ w0 : World, w0.heap.size = B → Kp [] w0 w → Kp [] w0 w' :=
  ⟨h.1.behind hB, fun w0 h0 hk => h.2.base hk fun x hx => by rw [h0]; exact hx⟩
set_option maxHeartbeats 4000000 in
theorem dawake_any (w : World) : Calls Try.prog 9 #[] w fun e w' => e = .returned (.bool true) ∧ Kp [] w w' := by
  go_enter Try.func9, Try.ntmps9
  go_wp2_with fail
  refine (drv_new w).mono ?_
  rintro e w1 ⟨d, rfl, h1, hk1⟩
  have h1 : Drv w1 d dw0 0 (fun x => w.heap.size ≤ x) := h1
  go_wp2_with fail
  refine (drv_append sA sXY h1 (by decide) (by decide) (by omega) (by decide) (by decide)).mono ?_
  rintro e w2 ⟨rfl, hl2⟩
  obtain ⟨h2, hk2⟩ := hl2.own hk1.size
  have hk2 := hk2 w rfl hk1
  rw [dw_1]
  have h2 : Drv w2 d dw1 1 (fun x => w.heap.size ≤ x) := h2
  clear hl2
  go_wp2_with fail
  refine (drv_sync sA h2 (by decide) (big5_of (by kernel_rfl)).1 (big5_of (by kernel_rfl)).2).mono ?_
  rintro e w3 ⟨rfl, hl3⟩
  obtain ⟨h3, hk3⟩ := hl3.own hk2.size
  have hk3 := hk3 w rfl hk2
  rw [dw_2]
  have h3 : Drv w3 d dw2 2 (fun x => w.heap.size ≤ x) := h3
  clear hl3
  go_wp2_with fail
  refine (drv_append sA sZ h3 (by decide) (by decide) (by omega) (big5_of (by kernel_rfl)).1 (big5_of (by kernel_rfl)).2).mono ?_
  rintro e w4 ⟨rfl, hl4⟩
  obtain ⟨h4, hk4⟩ := hl4.own hk3.size
  have hk4 := hk4 w rfl hk3
  rw [dw_3]
  have h4 : Drv w4 d dw3 3 (fun x => w.heap.size ≤ x) := h4
  clear hl4
  go_wp2_with fail
  have k5 : Kp [] w4 (w4.alloc (.cells #[.int .i64 1] 3)) := (Kp.rfl_ [] w4).alloc _
  refine (drv_crash (some ⟨w4.heap.size, 0, none⟩) 1 1 [1] ((h4.mono (N' := 3) (Q := fun x => w.heap.size ≤ x ∧ x < w4.heap.size) (by omega) (fun x h1 h2 => ⟨h1, h2⟩)).kp k5) (by omega) (Ls.of_at (At.new w4 3 #[.int .i64 1])) (by omega) (by unfold maxLen; omega) (fun _ ad e => by injection e with e; subst e; simp)).mono ?_
  rintro e w6 ⟨rfl, A', hA', hl6⟩
  obtain rfl := dw_crash hA'
  have h6 : Drv w6 d dw4 3 (fun x => w.heap.size ≤ x) := hl6.1.mono (by omega) fun x hx _ => by
    have := hk4.size
    rcases hx with hx | hx
    · exact hx.1
    · simp at hx; omega
  have hk6 : Kp [] w w6 := hl6.2.base (hk4.trans k5) fun x hx => hx.1
  clear hl6 hA' k5
  go_wp2_with fail
  refine (drv_read sA h6 (by decide)).mono ?_
  rintro e w7 ⟨rfl, k7⟩
  rw [dw_4, dw_5]
  have h7 := h6.kp k7
  have hk7 := hk6.trans k7
  clear k7 h6 hk6
  go_wp2_with fail
  refine (drv_fuse 1 h7).mono ?_
  rintro e w8 ⟨rfl, hl8⟩
  obtain ⟨h8, hk8⟩ := hl8.own hk7.size
  have hk8 := hk8 w rfl hk7
  have h8 : Drv w8 d dw5 3 (fun x => w.heap.size ≤ x) := h8
  clear hl8
  go_wp2_with fail
  refine (drv_append sB sQ h8 (by decide) (by decide) (by omega) (big5_of (by kernel_rfl)).1 (big5_of (by kernel_rfl)).2).mono ?_
  rintro e w9 ⟨rfl, hl9⟩
  obtain ⟨h9, hk9⟩ := hl9.own hk8.size
  have hk9 := hk9 w rfl hk8
  rw [dw_6]
  have h9 : Drv w9 d dw6 4 (fun x => w.heap.size ≤ x) := h9
  clear hl9
  go_wp2_with fail
  refine (drv_sync sB h9 (by decide) (big5_of (by kernel_rfl)).1 (big5_of (by kernel_rfl)).2).mono ?_
  rintro e w10 ⟨rfl, hl10⟩
  obtain ⟨h10, hk10⟩ := hl10.own hk9.size
  have hk10 := hk10 w rfl hk9
  rw [dw_7]
  have h10 : Drv w10 d dw7 5 (fun x => w.heap.size ≤ x) := h10
  clear hl10
  go_wp2_with fail
  refine (drv_down h10).mono ?_
  rintro e w11 ⟨rfl, rfl⟩
  rw [dw_8]
  go_wp2_with fail
  refine (drv_append ⟨#[65]⟩ ⟨#[]⟩ h10 (by decide) (by decide) (by omega) (big5_of (by kernel_rfl)).1 (big5_of (by kernel_rfl)).2).mono ?_
  rintro e w12 ⟨rfl, hl12⟩
  obtain ⟨h12, hk12⟩ := hl12.own hk10.size
  have hk12 := hk12 w rfl hk10
  rw [dw_9]
  clear hl12
  go_wp2_with fail
  refine (drv_steps h12).mono ?_
  rintro e w13 ⟨rfl, rfl⟩
  rw [dw_10]
  go_wp2_with fail
  go_ret
  exact ⟨rfl, hk12⟩
end Go.Proofs.Ytnmogfjbbibeiaa
