/- The laws of sha: awake. -/
import Derived.Test.YthnfjkinliekoaaDoorTs
namespace Go.Proofs.YthnfjkinliekoaaDoor
set_option maxRecDepth 100000
open Go.RowKit
set_option linter.unusedVariables false

/-- What the row says of the listed variable. -/
def LaidSha (w : World) : Prop := 0 < w.heap.size ∧ ∀ j, j < 64 → w.cell? ⟨0, j, none⟩ = some (.int .u32 (([1116352408, 1899447441, 3049323471, 3921009573, 961987163, 1508970993, 2453635748, 2870763221, 3624381080, 310598401, 607225278, 1426881987, 1925078388, 2162078206, 2614888103, 3248222580, 3835390401, 4022224774, 264347078, 604807628, 770255983, 1249150122, 1555081692, 1996064986, 2554220882, 2821834349, 2952996808, 3210313671, 3336571891, 3584528711, 113926993, 338241895, 666307205, 773529912, 1294757372, 1396182291, 1695183700, 1986661051, 2177026350, 2456956037, 2730485921, 2820302411, 3259730800, 3345764771, 3516065817, 3600352804, 4094571909, 275423344, 430227734, 506948616, 659060556, 883997877, 958139571, 1322822218, 1537002063, 1747873779, 1955562222, 2024104815, 2227730452, 2361852424, 2428436474, 2756734187, 3204031479, 3329325298] : List Int).getD j 0))
theorem roots_all : ∀ j : Fin 64, ([1116352408, 1899447441, 3049323471, 3921009573, 961987163, 1508970993, 2453635748, 2870763221, 3624381080, 310598401, 607225278, 1426881987, 1925078388, 2162078206, 2614888103, 3248222580, 3835390401, 4022224774, 264347078, 604807628, 770255983, 1249150122, 1555081692, 1996064986, 2554220882, 2821834349, 2952996808, 3210313671, 3336571891, 3584528711, 113926993, 338241895, 666307205, 773529912, 1294757372, 1396182291, 1695183700, 1986661051, 2177026350, 2456956037, 2730485921, 2820302411, 3259730800, 3345764771, 3516065817, 3600352804, 4094571909, 275423344, 430227734, 506948616, 659060556, 883997877, 958139571, 1322822218, 1537002063, 1747873779, 1955562222, 2024104815, 2227730452, 2361852424, 2428436474, 2756734187, 3204031479, 3329325298] : List Int).getD j.val 0 = ((kW.getD j.val 0 : Nat) : Int) := by decide +kernel
theorem tbk_of {w : World} (h : LaidSha w) : Tbk w := ⟨h.1, fun j hj => by rw [h.2 j hj, roots_all ⟨j, hj⟩]⟩
theorem sum_to (A : Option Addr) (n c : Nat) (ss : List ByteArray) (d : ByteArray) (w : World) (hd : bs (shaW (flat ss)) = d) (ht : Tbk w) (hL : Ls w A n (ss.map Value.string)) (hz : ∀ z ∈ ss, z.size ≤ maxLen) (hn : (flat ss).length ≤ maxLen) (hn2 : n ≤ maxLen) :
    Calls Tryd.prog 15 #[.slice A n c] w fun e w' => e = .returned (.string d) ∧ Kp [] w w' := by
  rw [← hd]
  exact sum_any A n c ss w ht hL hz hn hn2
theorem shaW_len (l : List UInt8) : (shaW l).length = 32 := by
  unfold shaW
  rw [beW_len, blocksW_len]
  rfl
theorem name_to (s r : ByteArray) (w : World) (hr : bs (hexN s.data.toList) = r) (hs : s.size ≤ 1000000) :
    Calls Tryd.prog 19 #[.string s] w fun e w' => e = .returned (.string r) ∧ Kp [] w w' := by
  rw [← hr]
  exact name_any s w hs
theorem rname_to (s r : ByteArray) (w : World) (hr : bs (hexN s.data.toList) = r) (hs : s.size ≤ 1000000) :
    Calls Tryd.prog 20 #[.string s] w fun e w' => e = .returned (.string r) ∧ Kp [] w w' := by
  rw [← hr]
  exact rname_any s w hs
theorem hash_no (s : ByteArray) (w : World) (h : unhex s.data.toList = none) (hs : s.size ≤ 1000000) :
    Calls Tryd.prog 17 #[.string s] w fun e w' => e = .returned (.tuple #[.string ⟨#[]⟩, .bool false]) ∧ Kp [] w w' :=
  (hash_any s w hs).mono fun e w' ⟨k, h'⟩ => by
    rcases h' with ⟨_, rfl⟩ | ⟨r, h', _⟩
    · exact ⟨rfl, k⟩
    · rw [h] at h'; cases h'
theorem hash_yes (s x : ByteArray) (w : World) (h : unhex s.data.toList = some x.data.toList) (hs : s.size ≤ 1000000) :
    Calls Tryd.prog 17 #[.string s] w fun e w' => e = .returned (.tuple #[.string x, .bool true]) ∧ Kp [] w w' :=
  (hash_any s w hs).mono fun e w' ⟨k, h'⟩ => by
    rcases h' with ⟨h', _⟩ | ⟨r, h', rfl⟩
    · rw [h] at h'; cases h'
    · rw [h] at h'
      injection h' with h'
      subst h'
      exact ⟨rfl, k⟩
theorem rhash_no (s : ByteArray) (w : World) (h : unhex s.data.toList = none) (hs : s.size ≤ 1000000) :
    Calls Tryd.prog 18 #[.string s] w fun e w' => e = .returned (.tuple #[.string ⟨#[]⟩, .bool false]) ∧ Kp [] w w' :=
  (rhash_any s w hs).mono fun e w' ⟨k, h'⟩ => by
    rcases h' with ⟨_, rfl⟩ | ⟨r, h', _⟩
    · exact ⟨rfl, k⟩
    · rw [h] at h'; cases h'
theorem rhash_yes (s x : ByteArray) (w : World) (h : unhex s.data.toList = some x.data.toList) (hs : s.size ≤ 1000000) :
    Calls Tryd.prog 18 #[.string s] w fun e w' => e = .returned (.tuple #[.string x, .bool true]) ∧ Kp [] w w' :=
  (rhash_any s w hs).mono fun e w' ⟨k, h'⟩ => by
    rcases h' with ⟨h', _⟩ | ⟨r, h', rfl⟩
    · rw [h] at h'; cases h'
    · rw [h] at h'
      injection h' with h'
      subst h'
      exact ⟨rfl, k⟩
set_option maxHeartbeats 1000000 in
theorem hawake (w : World) (ht : Tbk w) : Calls Tryd.prog 14 #[] w fun e w' => e = .returned (.bool true) ∧ Kp [] w w' := by
  obtain ⟨d, hd⟩ : ∃ d, bs (shaW (flat [⟨#[97]⟩, ⟨#[98, 99]⟩])) = d := ⟨_, rfl⟩
  have hds : d.size = 32 := by rw [← hd, bs_size, shaW_len]
  obtain ⟨x, hx⟩ : ∃ x, bs (hexN d.data.toList) = x := ⟨_, rfl⟩
  have hx2 : x = bs "ba7816bf8f01cfea414140de5dae2223b00361a396177a9cb410ff61f20015ad".toUTF8.data.toList := by
    rw [← hx, ← hd, bs_list, show flat [⟨#[97]⟩, ⟨#[98, 99]⟩] = [97, 98, 99] from rfl, abc_name]
  have HD := Lib.hid hd
  have HX := Lib.hid hx
  have HX2 := Lib.hid hx2
  clear hd hx hx2
  go_enter Tryd.func14, Tryd.ntmps14
  go_wp2_with fail
  refine (sum_to (some ⟨w.heap.size, 0, none⟩) 2 2 [⟨#[97]⟩, ⟨#[98, 99]⟩] d _ HD.out (ht.kp ((Kp.rfl_ [] _).alloc _) (by simp)) (Ls.of_at (At.new w 9 #[.string ⟨#[97]⟩, .string ⟨#[98, 99]⟩])) (by intro z hz; simp at hz; unfold maxLen; rcases hz with rfl | rfl <;> decide) (by unfold maxLen; decide) (by unfold maxLen; omega)).mono ?_
  rintro e w1 ⟨rfl, k1⟩
  have k2 := ((Kp.rfl_ [] w).alloc _).trans k1
  clear k1
  go_wp2_with fail
  refine (name_to d x _ HX.out (by omega)).mono ?_
  rintro e w3 ⟨rfl, k3⟩
  have k4 := k2.trans k3
  go_wp2_with fail
  go_ret
  exact ⟨ret_bool (by rw [HX2.out]; decide +kernel), k4⟩
end Go.Proofs.YthnfjkinliekoaaDoor
