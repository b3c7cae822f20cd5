/- The laws of sha: ShaParts. -/
import Derived.Test.YthnfjkinliekoaaDoorTb
import Derived.Test.YthnfjkinliekoaaDoorRg
namespace Go.Proofs.YthnfjkinliekoaaDoor
set_option maxRecDepth 100000
open Go.RowKit
set_option linter.unusedVariables false

set_option maxHeartbeats 1000000 in
theorem sparts (s : ByteArray) (a b : Int) (w : World) (ht : Tbk w) (hs : s.size ≤ 4096) (h1 : -9223372036854775808 ≤ a) (h2 : a ≤ 9223372036854775807) (h3 : -9223372036854775808 ≤ b) (h4 : b ≤ 9223372036854775807) :
    Calls Tryd.prog 4 #[.string s, .int .i64 a, .int .i64 b] w (Yes w) := by
  obtain ⟨d, hd⟩ : ∃ d, bs (shaW (flat [s])) = d := ⟨_, rfl⟩
  have hds : d.size = 32 := by rw [← hd, bs_size, shaW_len]
  obtain ⟨k, hk, hkn⟩ := modk a s.size h1 h2 (by omega)
  obtain ⟨j, hj, hjn⟩ := modk b s.size h3 h4 (by omega)
  go_enter Tryd.func4, Tryd.ntmps4
  go_wp2_with fail
  refine (hawake _ ht).mono ?_
  rintro e w1 ⟨rfl, k1⟩
  go_wp2_with fail
  go_quiet (fail)
  rw [hk, hj]
  go_wp2_with fail
  have hws : (w1.drewN nq).heap.size = w1.heap.size := rfl
  have k2 := k1.drewN nq
  rw [← hws]
  clear hws k1
  generalize w1.drewN nq = w2 at *
  have ht2 := ht.kp k2 (by simp)
  refine (sum_to (some ⟨w2.heap.size, 0, none⟩) 1 1 [s] d _ hd (ht2.kp ((Kp.rfl_ [] _).alloc _) (by simp)) (Ls.of_at (At.new w2 9 #[.string s])) (by intro z hz; simp at hz; unfold maxLen; subst hz; omega) (by simp [flat]; unfold maxLen; omega) (by unfold maxLen; omega)).mono ?_
  rintro e w3 ⟨rfl, k3⟩
  have k4 := (k2.alloc _).trans k3
  have ht4 := ht.kp k4 (by simp)
  clear k2 k3 ht2 hk hj
  have hdI : ((d.size : Int) == 32) = true := by rw [beq_iff_eq]; omega
  obtain ⟨lo, hlo⟩ : ∃ lo, min k j = lo := ⟨_, rfl⟩
  obtain ⟨hi, hhi⟩ : ∃ hi, max k j = hi := ⟨_, rfl⟩
  have hmin : (if j < k then (j : Int) else (k : Int)) = (lo : Int) := by split <;> omega
  have hmax : (if k < j then (j : Int) else (k : Int)) = (hi : Int) := by split <;> omega
  have b1 : (lo : Int) ≤ (hi : Int) := by omega
  have b2 : (hi : Int) ≤ (s.size : Int) := by omega
  have b3 : (lo : Int) ≤ (s.size : Int) := by omega
  have b4 : (0 : Int) ≤ (lo : Int) := by omega
  have b5 : (0 : Int) ≤ (hi : Int) := by omega
  have hf4 : flat [s.extract 0 lo, s.extract lo hi, ⟨#[]⟩, s.extract hi s.size] = flat [s] := by
    simp only [flat, List.flatMap_cons, List.flatMap_nil, List.append_nil]
    have e1 : (s.extract 0 lo).data.toList = s.data.toList.take lo := by simp [ByteArray.data_extract]
    have e2 : (s.extract lo hi).data.toList = (s.data.toList.take hi).drop lo := by simp [ByteArray.data_extract, List.extract, List.drop_take]
    have e3 : (s.extract hi s.size).data.toList = s.data.toList.drop hi := by simp [ByteArray.data_extract, List.take_of_length_le]
    rw [e1, e2, e3]
    have h2 : s.data.toList.take lo = (s.data.toList.take hi).take lo := by rw [List.take_take, show min lo hi = lo by omega]
    rw [h2]
    simp only [List.nil_append]
    rw [← List.append_assoc, List.take_append_drop, List.take_append_drop]
  have hsl1 : (flat [s]).length = s.size := by simp [flat]
  have HD4 : Hid (bs (shaW (flat [s.extract 0 lo, s.extract lo hi, ⟨#[]⟩, s.extract hi s.size])) = d) := Lib.hid (by rw [hf4]; exact hd)
  have HF4 : Hid ((flat [s.extract 0 lo, s.extract lo hi, ⟨#[]⟩, s.extract hi s.size]).length ≤ maxLen) := Lib.hid (by rw [hf4, hsl1]; unfold maxLen; omega)
  have HZ4 : Hid (∀ z ∈ [s.extract 0 lo, s.extract lo hi, ⟨#[]⟩, s.extract hi s.size], z.size ≤ maxLen) := Lib.hid (by
    intro z hz
    simp only [List.mem_cons, List.not_mem_nil, or_false] at hz
    unfold maxLen
    rcases hz with rfl | rfl | rfl | rfl
    · rw [ByteArray.size_extract]; omega
    · rw [ByteArray.size_extract]; omega
    · decide
    · rw [ByteArray.size_extract]; omega)
  have HN4 : Hid (4 ≤ maxLen) := Lib.hid (by unfold maxLen; omega)
  clear hf4 hsl1 hd hds
  go_wp2_with fail
  refine region_inv' (fun q v w' => match q with
    | 0 => v = .string d
    | 1 => v = .int .i64 d.size
    | 2 => v = .bool true
    | 3 => v = .bool true
    | 4 => v = .string s
    | 5 => v = .int .i64 k
    | 6 => v = .int .i64 j
    | 7 => v = .int .i64 lo
    | 8 => v = .string (s.extract 0 lo)
    | 9 => v = .string s
    | 10 => v = .int .i64 k
    | 11 => v = .int .i64 j
    | 12 => v = .int .i64 lo
    | 13 => v = .int .i64 k
    | 14 => v = .int .i64 j
    | 15 => v = .int .i64 hi
    | 16 => v = .string (s.extract lo hi)
    | 17 => v = .string s
    | 18 => v = .int .i64 k
    | 19 => v = .int .i64 j
    | 20 => v = .int .i64 hi
    | 21 => v = .string (s.extract hi s.size)
    | 22 => ∃ h, v = .slice (some ⟨h, 0, none⟩) 4 4 ∧ Ls w' (some ⟨h, 0, none⟩) 4 [Value.string (s.extract 0 lo), Value.string (s.extract lo hi), Value.string ⟨#[]⟩, Value.string (s.extract hi s.size)]
    | 23 => v = .string d
    | 24 => v = .string d
    | 25 => v = .bool true
    | 26 => v = .bool true
    | _ => v = .bool true) (by kernel_rfl) _ rfl (by kernel_rfl) (by kernel_rfl) (by kernel_rfl) ?_ ?_ ?_
  · intro q v w1 w2 hF hK
    rcases q with _|_|_|_|_|_|_|_|_|_|_|_|_|_|_|_|_|_|_|_|_|_|_|_|_|_|_|q
    all_goals first | exact hF | (obtain ⟨h, e, hl⟩ := hF; exact ⟨h, e, hl.kp hK (by simp)⟩)
  · intro q o ho av wv K hS hk H hK
    have hf0 : av.eval (.tmp 0) = .string s := (hS.2.2 0 (nofill (by kernel_rfl))).trans rfl
    have hf1 : av.eval (.tmp 1) = .int .i64 k := (hS.2.2 1 (nofill (by kernel_rfl))).trans rfl
    have hf2 : av.eval (.tmp 2) = .int .i64 j := (hS.2.2 2 (nofill (by kernel_rfl))).trans rfl
    have hf7 : av.eval (.tmp 7) = .string d := (hS.2.2 7 (nofill (by kernel_rfl))).trans rfl
    rcases q with _|_|_|_|_|_|_|_|_|_|_|_|_|_|_|_|_|_|_|_|_|_|_|_|_|_|_|_|q
    all_goals try (obtain rfl := Option.some.inj ho)
    · have e7 := gd hf7
      exact wpOp_value rfl rfl (v := .string d) (w' := wv) (by simp [execOp, go_sem, e7]) (hK _ _ (Kp.rfl_ _ _) rfl)
    · have e35 := gd (H 0 35 (by kernel_rfl) rfl)
      exact wpOp_value rfl rfl (v := .int .i64 d.size) (w' := wv) (by simp [execOp, go_sem, e35]) (hK _ _ (Kp.rfl_ _ _) rfl)
    · have e36 := gd (H 1 36 (by kernel_rfl) rfl)
      exact wpOp_value rfl rfl (v := .bool true) (w' := wv) (by simp [execOp, go_sem, e36, hdI]) (hK _ _ (Kp.rfl_ _ _) rfl)
    · have e37 := gd (H 2 37 (by kernel_rfl) rfl)
      exact wpOp_value rfl rfl (v := .bool true) (w' := wv) (by simp [execOp, go_sem, e37]) (hK _ _ (Kp.rfl_ _ _) rfl)
    · have e0 := gd hf0
      exact wpOp_value_g rfl (wanted_of rfl rfl (H 3 38 (by kernel_rfl) rfl)) (v := .string s) (w' := wv) (by simp [execOp, go_sem, e0]) (hK _ _ (Kp.rfl_ _ _) rfl)
    · have e1 := gd hf1
      exact wpOp_value_g rfl (wanted_of rfl rfl (H 3 38 (by kernel_rfl) rfl)) (v := .int .i64 k) (w' := wv) (by simp [execOp, go_sem, e1]) (hK _ _ (Kp.rfl_ _ _) rfl)
    · have e2 := gd hf2
      exact wpOp_value_g rfl (wanted_of rfl rfl (H 3 38 (by kernel_rfl) rfl)) (v := .int .i64 j) (w' := wv) (by simp [execOp, go_sem, e2]) (hK _ _ (Kp.rfl_ _ _) rfl)
    · have e40 := gd (H 5 40 (by kernel_rfl) rfl)
      have e41 := gd (H 6 41 (by kernel_rfl) rfl)
      exact wpOp_value_g rfl (wanted_of rfl rfl (H 3 38 (by kernel_rfl) rfl)) (v := .int .i64 lo) (w' := wv) (by simp [execOp, go_sem, e40, e41, hmin]) (hK _ _ (Kp.rfl_ _ _) rfl)
    · have e39 := gd (H 4 39 (by kernel_rfl) rfl)
      have e42 := gd (H 7 42 (by kernel_rfl) rfl)
      exact wpOp_value_g rfl (wanted_of rfl rfl (H 3 38 (by kernel_rfl) rfl)) (v := .string (s.extract 0 lo)) (w' := wv) (by simp [execOp, go_sem, e39, e42, b3, b4]) (hK _ _ (Kp.rfl_ _ _) rfl)
    · have e0 := gd hf0
      exact wpOp_value_g rfl (wanted_of rfl rfl (H 3 38 (by kernel_rfl) rfl)) (v := .string s) (w' := wv) (by simp [execOp, go_sem, e0]) (hK _ _ (Kp.rfl_ _ _) rfl)
    · have e1 := gd hf1
      exact wpOp_value_g rfl (wanted_of rfl rfl (H 3 38 (by kernel_rfl) rfl)) (v := .int .i64 k) (w' := wv) (by simp [execOp, go_sem, e1]) (hK _ _ (Kp.rfl_ _ _) rfl)
    · have e2 := gd hf2
      exact wpOp_value_g rfl (wanted_of rfl rfl (H 3 38 (by kernel_rfl) rfl)) (v := .int .i64 j) (w' := wv) (by simp [execOp, go_sem, e2]) (hK _ _ (Kp.rfl_ _ _) rfl)
    · have e45 := gd (H 10 45 (by kernel_rfl) rfl)
      have e46 := gd (H 11 46 (by kernel_rfl) rfl)
      exact wpOp_value_g rfl (wanted_of rfl rfl (H 3 38 (by kernel_rfl) rfl)) (v := .int .i64 lo) (w' := wv) (by simp [execOp, go_sem, e45, e46, hmin]) (hK _ _ (Kp.rfl_ _ _) rfl)
    · have e1 := gd hf1
      exact wpOp_value_g rfl (wanted_of rfl rfl (H 3 38 (by kernel_rfl) rfl)) (v := .int .i64 k) (w' := wv) (by simp [execOp, go_sem, e1]) (hK _ _ (Kp.rfl_ _ _) rfl)
    · have e2 := gd hf2
      exact wpOp_value_g rfl (wanted_of rfl rfl (H 3 38 (by kernel_rfl) rfl)) (v := .int .i64 j) (w' := wv) (by simp [execOp, go_sem, e2]) (hK _ _ (Kp.rfl_ _ _) rfl)
    · have e48 := gd (H 13 48 (by kernel_rfl) rfl)
      have e49 := gd (H 14 49 (by kernel_rfl) rfl)
      exact wpOp_value_g rfl (wanted_of rfl rfl (H 3 38 (by kernel_rfl) rfl)) (v := .int .i64 hi) (w' := wv) (by simp [execOp, go_sem, e48, e49, hmax]) (hK _ _ (Kp.rfl_ _ _) rfl)
    · have e44 := gd (H 9 44 (by kernel_rfl) rfl)
      have e47 := gd (H 12 47 (by kernel_rfl) rfl)
      have e50 := gd (H 15 50 (by kernel_rfl) rfl)
      exact wpOp_value_g rfl (wanted_of rfl rfl (H 3 38 (by kernel_rfl) rfl)) (v := .string (s.extract lo hi)) (w' := wv) (by simp [execOp, go_sem, e44, e47, e50, b1, b2, b4]) (hK _ _ (Kp.rfl_ _ _) rfl)
    · have e0 := gd hf0
      exact wpOp_value_g rfl (wanted_of rfl rfl (H 3 38 (by kernel_rfl) rfl)) (v := .string s) (w' := wv) (by simp [execOp, go_sem, e0]) (hK _ _ (Kp.rfl_ _ _) rfl)
    · have e1 := gd hf1
      exact wpOp_value_g rfl (wanted_of rfl rfl (H 3 38 (by kernel_rfl) rfl)) (v := .int .i64 k) (w' := wv) (by simp [execOp, go_sem, e1]) (hK _ _ (Kp.rfl_ _ _) rfl)
    · have e2 := gd hf2
      exact wpOp_value_g rfl (wanted_of rfl rfl (H 3 38 (by kernel_rfl) rfl)) (v := .int .i64 j) (w' := wv) (by simp [execOp, go_sem, e2]) (hK _ _ (Kp.rfl_ _ _) rfl)
    · have e53 := gd (H 18 53 (by kernel_rfl) rfl)
      have e54 := gd (H 19 54 (by kernel_rfl) rfl)
      exact wpOp_value_g rfl (wanted_of rfl rfl (H 3 38 (by kernel_rfl) rfl)) (v := .int .i64 hi) (w' := wv) (by simp [execOp, go_sem, e53, e54, hmax]) (hK _ _ (Kp.rfl_ _ _) rfl)
    · have e52 := gd (H 17 52 (by kernel_rfl) rfl)
      have e55 := gd (H 20 55 (by kernel_rfl) rfl)
      exact wpOp_value_g rfl (wanted_of rfl rfl (H 3 38 (by kernel_rfl) rfl)) (v := .string (s.extract hi s.size)) (w' := wv) (by simp [execOp, go_sem, e52, e55, b2]) (hK _ _ (Kp.rfl_ _ _) rfl)
    · have e43 := gd (H 8 43 (by kernel_rfl) rfl)
      have e51 := gd (H 16 51 (by kernel_rfl) rfl)
      have e56 := gd (H 21 56 (by kernel_rfl) rfl)
      exact wpOp_value_g rfl (wanted_of rfl rfl (H 3 38 (by kernel_rfl) rfl)) (v := .slice (some ⟨wv.heap.size, 0, none⟩) 4 4) (w' := wv.alloc (.cells #[.string (s.extract 0 lo), .string (s.extract lo hi), .string ⟨#[]⟩, .string (s.extract hi s.size)] 9)) (by simp [execOp, go_sem, e43, e51, e56]) (hK _ _ ((Kp.rfl_ _ _).alloc _) ⟨_, rfl, Ls.of_at (At.new wv 9 #[.string (s.extract 0 lo), .string (s.extract lo hi), .string ⟨#[]⟩, .string (s.extract hi s.size)])⟩)
    · obtain ⟨h, e57, hl57⟩ := H 22 57 (by kernel_rfl) rfl
      have e57 := gd e57
      refine wpOp_call_g rfl (wanted_of rfl rfl (H 3 38 (by kernel_rfl) rfl)) (f := 15) (args := #[.slice (some ⟨h, 0, none⟩) 4 4]) (w1 := wv) (by simp [execOp, go_sem, e57]) ?_
      refine (sum_to (some ⟨h, 0, none⟩) 4 4 [s.extract 0 lo, s.extract lo hi, ⟨#[]⟩, s.extract hi s.size] d wv HD4.out (ht4.kp hk (by simp)) hl57 HZ4.out HF4.out HN4.out).mono ?_
      rintro e w8 ⟨rfl, k8⟩
      exact ⟨_, rfl, hK _ _ k8 rfl⟩
    · have e7 := gd hf7
      exact wpOp_value_g rfl (wanted_of rfl rfl (H 3 38 (by kernel_rfl) rfl)) (v := .string d) (w' := wv) (by simp [execOp, go_sem, e7]) (hK _ _ (Kp.rfl_ _ _) rfl)
    · have e58 := gd (H 23 58 (by kernel_rfl) rfl)
      have e59 := gd (H 24 59 (by kernel_rfl) rfl)
      exact wpOp_value_g rfl (wanted_of rfl rfl (H 3 38 (by kernel_rfl) rfl)) (v := .bool true) (w' := wv) (by simp [execOp, go_sem, e58, e59]) (hK _ _ (Kp.rfl_ _ _) rfl)
    · have e38 := gd (H 3 38 (by kernel_rfl) rfl)
      have e60 := gd (H 25 60 (by kernel_rfl) rfl)
      exact wpOp_value rfl rfl (v := .bool true) (w' := wv) (by simp [execOp, go_sem, e38, e60]) (hK _ _ (Kp.rfl_ _ _) rfl)
    · have e61 := gd (H 26 61 (by kernel_rfl) rfl)
      exact wpOp_value rfl rfl (v := .bool true) (w' := wv) (by simp [execOp, go_sem, e61]) (hK _ _ (Kp.rfl_ _ _) rfl)
    · simp at ho
  · intro av wv hS hk H
    have h6 : av.eval (.tmp 6) = .bool true := H 27 6 rfl
    go_wp2_with fail
    exact bodyPost_ret (results_tmp rfl _ _ _) (hS.1.trans rfl) ⟨congrArg Ending.returned h6, k4.trans hk⟩
set_option maxHeartbeats 1000000 in
theorem sparts_big (s : ByteArray) (a b : Int) (w : World) (ht : Tbk w) (hb : 4096 < s.size) (hs : s.size ≤ 9223372036854775807) :
    Calls Tryd.prog 4 #[.string s, .int .i64 a, .int .i64 b] w (Yes w) := by
  have h1' : (4096 : Int) < (s.size : Int) := by omega
  go_enter Tryd.func4, Tryd.ntmps4
  go_wp2_with fail
  refine (hawake _ ht).mono ?_
  rintro e w2 ⟨rfl, hk2⟩
  go_wp2_with fail
  refine (hawake _ (ht.kp hk2 (by simp))).mono ?_
  rintro e w3 ⟨rfl, hk3⟩
  go_wp2_with fail
  go_ret
  exact ⟨rfl, hk2.trans hk3⟩
theorem sparts_walk (v0 v1 v2 : Value) (w : World) (hl : LaidSha w) (i0 : In w 9 v0) (i1 : In w 3 v1) (i2 : In w 3 v2) : Calls Tryd.prog 4 #[v0, v1, v2] w (Yes w) := by
  obtain ⟨s, rfl, hs⟩ := in_string Tryd.underlying9 i0
  obtain ⟨a, rfl, wa⟩ := in_int Tryd.underlying3 i1
  obtain ⟨b, rfl, wb⟩ := in_int Tryd.underlying3 i2
  have ha := bd_i64 wa
  have hb := bd_i64 wb
  by_cases h : 4096 < s.size
  · exact sparts_big s a b w (tbk_of hl) h (size_leS hs)
  · exact sparts s a b w (tbk_of hl) (by omega) ha.1 ha.2 hb.1 hb.2
end Go.Proofs.YthnfjkinliekoaaDoor
