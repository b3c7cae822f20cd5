/- The document's own reader: a text, a count; the program's count. -/
import Derived.Test.YthnfjkinliekoaaDoorPkV
namespace Go.Proofs.YthnfjkinliekoaaDoor
set_option maxRecDepth 100000
open Go.RowKit
set_option linter.unusedVariables false

/-- What a text is refused for. -/
def NoText (s : ByteArray) (k : Nat) (n : Int) (u : Nat) : Prop := u = 0 ∨ n < 0 ∨ (s.size : Int) - ((k + u : Nat) : Int) < n
def RText (g : Nat) (s : ByteArray) (w : World) (e : Ending) (w' : World) : Prop := e = .returned (.string ⟨#[]⟩) ∧ (∃ k, Rrd w' g s k true) ∧ Kp [g] w w'
def RCount (g : Nat) (s : ByteArray) (w : World) (e : Ending) (w' : World) : Prop := e = .returned (.int .i64 0) ∧ (∃ k, Rrd w' g s k true) ∧ Kp [g] w w'

/-- The program's count. -/
def PCount (g : Nat) (w : World) (e : Ending) (w' : World) : Prop := e = .returned (.int .i64 0) ∧ (∃ r, Rdr w' g r true) ∧ Kp [g] w w'
set_option maxHeartbeats 2000000 in
theorem count_bad (g : Nat) (r : ByteArray) (w : World) (h : Rdr w g r true) :
    Calls Tryd.prog 46 #[.pointer (some ⟨g, 0, none⟩)] w (PCount g w) := by
  go_enter Tryd.func46, Tryd.ntmps46
  go_wp2_with fail
  refine (num_bad g r _ h).mono ?_
  rintro e w1 ⟨rfl, h1, hk1⟩
  go_wp2_with fail
  refine (left_any g _ _ _ h1).mono ?_
  rintro e w2 ⟨rfl, rfl⟩
  go_wp2_with fail
  go_ret
  exact ⟨rfl, ⟨_, h1⟩, hk1⟩
set_option maxHeartbeats 2000000 in
theorem count_no0 (g : Nat) (s : ByteArray) (w : World) (h : Rdr w g s false) (hd : decN s.data.toList = (0, 0)) (hs : s.size ≤ 1000000000) :
    Calls Tryd.prog 46 #[.pointer (some ⟨g, 0, none⟩)] w (PCount g w) := by
  have HD := Lib.hid hd
  clear hd
  go_enter Tryd.func46, Tryd.ntmps46
  go_wp2_with fail
  refine (num_no g s _ h HD.out hs).mono ?_
  rintro e w1 ⟨rfl, h1, hk1⟩
  go_wp2_with fail
  refine (left_any g _ _ _ h1).mono ?_
  rintro e w2 ⟨rfl, rfl⟩
  go_wp2_with fail
  go_ret
  exact ⟨rfl, ⟨_, h1⟩, hk1⟩
set_option maxHeartbeats 2000000 in
theorem count_no (g : Nat) (s r : ByteArray) (n : Int) (u : Nat) (w : World) (h : Rdr w g s false) (hd : decN s.data.toList = (n, u)) (hu : 0 < u) (hus : u ≤ s.size) (hr : s.extract u s.size = r) (hno : n < 0 ∨ (¬ n < 0 ∧ (r.size : Int) < n)) (hs : s.size ≤ 1000000000) :
    Calls Tryd.prog 46 #[.pointer (some ⟨g, 0, none⟩)] w (PCount g w) := by
  have HD := Lib.hid hd
  have HR := Lib.hid hr
  clear hd hr
  rcases hno with hno | ⟨hno, hn2⟩
  · go_enter Tryd.func46, Tryd.ntmps46
    go_wp2_with fail
    refine (num_to g s r n u _ h HD.out hu hus hs HR.out).mono ?_
    rintro e w1 ⟨rfl, h1, hk1⟩
    go_wp2_with fail
    refine (spoil_any g r _ _ h1).mono ?_
    rintro e w2 ⟨rfl, h2, hk2⟩
    go_wp2_with fail
    go_ret
    exact ⟨rfl, ⟨_, h2⟩, hk1.trans hk2⟩
  · go_enter Tryd.func46, Tryd.ntmps46
    go_wp2_with fail
    refine (num_to g s r n u _ h HD.out hu hus hs HR.out).mono ?_
    rintro e w1 ⟨rfl, h1, hk1⟩
    go_wp2_with fail
    refine (left_any g _ _ _ h1).mono ?_
    rintro e w2 ⟨rfl, rfl⟩
    go_wp2_with fail
    refine (spoil_any g r _ _ h1).mono ?_
    rintro e w2 ⟨rfl, h2, hk2⟩
    go_wp2_with fail
    go_ret
    exact ⟨rfl, ⟨_, h2⟩, hk1.trans hk2⟩
set_option maxHeartbeats 2000000 in
theorem count_yes (g : Nat) (s r : ByteArray) (m u : Nat) (w : World) (h : Rdr w g s false) (hd : decN s.data.toList = ((m : Int), u)) (hu : 0 < u) (hus : u ≤ s.size) (hr : s.extract u s.size = r) (hm : m ≤ r.size) (hs : s.size ≤ 1000000000) :
    Calls Tryd.prog 46 #[.pointer (some ⟨g, 0, none⟩)] w fun e w' => e = .returned (.int .i64 m) ∧ Rdr w' g r false ∧ Kp [g] w w' := by
  have HD := Lib.hid hd
  have HR := Lib.hid hr
  clear hd hr
  have hm0 : ¬ (m : Int) < 0 := by omega
  go_enter Tryd.func46, Tryd.ntmps46
  go_wp2_with fail
  refine (num_to g s r m u _ h HD.out hu hus hs HR.out).mono ?_
  rintro e w1 ⟨rfl, h1, hk1⟩
  go_wp2_with fail
  refine (left_any g _ _ _ h1).mono ?_
  rintro e w2 ⟨rfl, rfl⟩
  go_wp2_with fail
  go_ret
  exact ⟨rfl, h1, hk1⟩
end Go.Proofs.YthnfjkinliekoaaDoor
