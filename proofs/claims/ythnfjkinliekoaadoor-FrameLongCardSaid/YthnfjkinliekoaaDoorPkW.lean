/- awake of pack's laws; PackNil, PackOrder. -/
import Derived.Test.YthnfjkinliekoaaDoorPkR
import Derived.Test.YthnfjkinliekoaaDoorPkT
namespace Go.Proofs.YthnfjkinliekoaaDoor
set_option maxRecDepth 100000
open Go.RowKit
set_option linter.unusedVariables false

theorem ext1 : (ByteArray.mk #[3, 4, 97, 98, 33]).extract 1 5 = ByteArray.mk #[4, 97, 98, 33] := by decide
theorem ext2 : (ByteArray.mk #[4, 97, 98, 33]).extract 1 3 = ByteArray.mk #[97, 98] := by decide
theorem ext3 : (ByteArray.mk #[4, 97, 98, 33]).extract 3 4 = ByteArray.mk #[33] := by decide
theorem dec1 : decN [3, 4, 97, 98, 33] = (-2, 1) := by decide
theorem dec2 : decN [4, 97, 98, 33] = (((2 : Nat) : Int), 1) := by decide
theorem nums1 : ([0, -1, 1, 64] : List Int).flatMap numB = [0, 1, 2, 128, 1] := by decide
theorem texts1 : texts [⟨#[97, 98]⟩, ⟨#[]⟩] = [4, 97, 98, 0] := by decide

theorem num_to (g : Nat) (s r : ByteArray) (n : Int) (u : Nat) (w : World) (h : Rdr w g s false) (hd : decN s.data.toList = (n, u)) (hu : 0 < u) (hus : u ≤ s.size) (hs : s.size ≤ 1000000000) (hr : s.extract u s.size = r) :
    Calls Tryd.prog 59 #[.pointer (some ⟨g, 0, none⟩)] w fun e w' => e = .returned (.int .i64 n) ∧ Rdr w' g r false ∧ Kp [g] w w' :=
  (num_yes g s n u w h hd hu hus hs).mono fun _ _ ⟨a, b, c⟩ => ⟨a, by rw [← hr]; exact b, c⟩
theorem nums_to (A : Option Addr) (n c : Nat) (zs : List Int) (b : ByteArray) (w : World) (hb : ByteArray.mk (zs.flatMap numB).toArray = b) (hL : Ls w A n (zs.map (Value.int .i64))) (hwf : ∀ z ∈ zs, (Lit.int .i64 z).wf = true) (hn : n ≤ 20000) :
    Calls Tryd.prog 41 #[.slice A n c] w fun e w' => e = .returned (.string b) ∧ Kp [] w w' :=
  (nums_any A n c zs w hL hwf hn).mono fun _ _ ⟨h1, h2⟩ => ⟨by rw [h1, hb], h2⟩
end Go.Proofs.YthnfjkinliekoaaDoor
