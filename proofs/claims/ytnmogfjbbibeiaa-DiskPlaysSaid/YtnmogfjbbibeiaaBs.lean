/- Bytes as lists; a string appended to a slice of strings of the call's own; arguments that are lists of strings. -/
import Derived.Test.YtnmogfjbbibeiaaIn
import Derived.Test.YtnmogfjbbibeiaaApp
import Derived.Lib.Hide
import Derived.Laws.IdiomStrings
import Derived.Laws.BytesArg
import Derived.Lib.Strings
namespace Go.Proofs.Ytnmogfjbbibeiaa
set_option maxRecDepth 100000
open Go.RowKit
set_option linter.unusedVariables false

/-- Bytes as a string. -/
def bs (l : List UInt8) : ByteArray := ⟨l.toArray⟩
theorem bs_size (l : List UInt8) : (bs l).size = l.length := by simp [bs, ByteArray.size]
theorem bs_list (l : List UInt8) : (bs l).data.toList = l := rfl
theorem bs_of (s : ByteArray) : bs s.data.toList = s := rfl
theorem bs_append (a b : List UInt8) : bs a ++ bs b = bs (a ++ b) := by
  apply ByteArray.ext
  simp [bs]
theorem bs_extract (l : List UInt8) (i j : Nat) : (bs l).extract i j = bs ((l.take j).drop i) := by
  apply ByteArray.ext
  rw [ByteArray.data_extract]
  simp [bs, List.drop_take]
theorem bs_inj {a b : List UInt8} (h : bs a = bs b) : a = b := by
  have := congrArg (fun x : ByteArray => x.data.toList) h
  simpa [bs] using this
theorem bs_eq {a b : ByteArray} (h : a.data.toList = b.data.toList) : a = b := by rw [← bs_of a, ← bs_of b, h]

theorem loop_ne (s : ByteArray) : ∀ (f i : Nat) (r : List UInt8), s.size - i ≤ f → (r ≠ [] ∨ i < s.size) → ByteArray.toList.loop s i r ≠ [] := by
  intro f
  induction f with
  | zero =>
    intro i r h h'
    rw [ByteArray.toList.loop, if_neg (by omega)]
    simpa using h'.resolve_right (by omega)
  | succ f ih =>
    intro i r h h'
    rw [ByteArray.toList.loop]
    split
    · exact ih _ _ (by omega) (.inl (by simp))
    · simpa using h'.resolve_right (by omega)
theorem empty_list (s : ByteArray) : s.toList.isEmpty = (s.size == 0) := by
  by_cases h : s.size = 0
  · have e : s.toList = [] := by unfold ByteArray.toList; rw [ByteArray.toList.loop, if_neg (by omega)]; rfl
    rw [e, h]; rfl
  · have e : s.toList ≠ [] := loop_ne s _ 0 [] (Nat.le_refl _) (.inr (by omega))
    have h2 : (s.size == 0) = false := by simpa using h
    rw [h2]
    simpa using e
theorem loop_eq (s : ByteArray) : ∀ (f i : Nat) (r : List UInt8), s.size - i ≤ f → i ≤ s.size → ByteArray.toList.loop s i r = r.reverse ++ s.data.toList.drop i := by
  intro f
  induction f with
  | zero =>
    intro i r h h'
    rw [ByteArray.toList.loop, if_neg (by omega), List.drop_eq_nil_of_le (by simp; omega)]
    simp
  | succ f ih =>
    intro i r h h'
    rw [ByteArray.toList.loop]
    split
    case isTrue hlt =>
      rw [ih _ _ (by omega) (by omega)]
      have hg : s.get! i = s.data.toList[i]'(by simpa using hlt) := by
        simp [ByteArray.get!, Array.getElem_toList, getElem!_pos s.data i (by simpa using hlt)]
      rw [List.drop_eq_getElem_cons (i := i) (by simpa using hlt), hg]
      simp
    case isFalse hge =>
      rw [List.drop_eq_nil_of_le (by simp; omega)]
      simp
/-- The list that the model compares strings by. -/
theorem toList_eq (s : ByteArray) : s.toList = s.data.toList := by
  unfold ByteArray.toList
  rw [loop_eq s _ 0 [] (Nat.le_refl _) (Nat.zero_le _)]
  simp

theorem conv_gen {P : Program} {base src e dst : Nat} {w : World} {v : Value} {l : List UInt8} (h1 : P.underlying src = some (.slice e)) (h2 : P.underlying e = some (.int .u8)) (h3 : P.underlying dst = some .string)
    (h : w.ownsRow base e 1 v l.length (Lib.byteCells l)) : (convert src dst v).run P w = .ok (.string ⟨l.toArray⟩) w := by
  obtain ⟨A, c, rfl, hL, -, -, -⟩ := own_open h
  cases A with
  | none =>
    have hl : l = [] := by
      have := hL.2
      cases l with
      | nil => rfl
      | cons x xs =>
        obtain ⟨ad, h, _⟩ := this (by simp)
        cases h
    subst hl
    exact run_convert_bytes_nil (P := P) w src e h1 h2 _ _ _ h3
  | some ad =>
    refine run_convert_bytes_back (P := P) w src dst e ad c l h1 h2 h3 fun j hj => ?_
    obtain ⟨ad', e, _, hc⟩ := hL.2 (by omega)
    injection e with e
    subst e
    refine hc j _ ?_
    simp [Lib.byteCells, List.getElem?_eq_getElem hj]
theorem own_some {w : World} {base : Nat} {e : TypeId} {v : Value} {n g : Nat} {xs : List Value} (h : w.ownsRow base e 1 v n xs) (hg : v.ownBlock = some g) :
    ∃ c, v = .slice (some ⟨g, 0, none⟩) n c ∧ Ls w (some ⟨g, 0, none⟩) n xs ∧ n ≤ c ∧ c ≤ maxLen := by
  rcases h.2 with ⟨rfl, rfl⟩ | ⟨g', cap, cur, rfl, hb, hh, hn, hm, hs, ht⟩
  · simp [Value.ownBlock] at hg
  · obtain rfl : g' = g := by simpa [Value.ownBlock] using hg
    exact ⟨cap, rfl, Ls.of_own h, hn, hm⟩
theorem Ls.take {w : World} {A : Option Addr} {n k : Nat} {xs : List Value} (h : Ls w A n xs) (hk : k ≤ n) : Ls w A k (xs.take k) := by
  refine ⟨by rw [List.length_take, h.1]; omega, fun h0 => ?_⟩
  obtain ⟨ad, e, hb, hc⟩ := h.2 (by omega)
  refine ⟨ad, e, hb, fun j u hu => hc j u ?_⟩
  rw [List.getElem?_take] at hu
  split at hu
  · exact hu
  · cases hu
theorem Ls.drop {w : World} {ad : Addr} {n k : Nat} {xs : List Value} (h : Ls w (some ad) n xs) (hk : k ≤ n) : Ls w (some (ad.add k)) (n - k) (xs.drop k) := by
  refine ⟨by rw [List.length_drop, h.1], fun h0 => ?_⟩
  obtain ⟨ad', e, hb, hc⟩ := h.2 (by omega)
  injection e with e
  subst e
  refine ⟨_, rfl, by rw [addr_add_block]; exact hb, fun j u hu => ?_⟩
  rw [addr_add_add]
  exact hc _ u (by rw [List.getElem?_drop] at hu; exact hu)

def flat (ss : List ByteArray) : List UInt8 := ss.flatMap fun s => s.data.toList
theorem flat_succ {ss : List ByteArray} {k : Nat} {s : ByteArray} (h : ss[k]? = some s) : flat (ss.take (k + 1)) = flat (ss.take k) ++ s.data.toList := by
  unfold flat
  rw [List.take_add_one, h]
  simp
theorem byte_at {s : ByteArray} {k : Nat} (hlt : k < s.size) : ∃ b : UInt8, s[k] = b ∧ s.data.toList[k]? = some b := ⟨_, rfl, by rw [List.getElem?_eq_getElem (by simpa using hlt), Array.getElem_toList]; rfl⟩
theorem made_bytes (n : Nat) : (madeCells (Value.int .u8 0).cells (n * 1)).toList = Lib.byteCells (List.replicate n 0) := by
  rw [Nat.mul_one, show (Value.int .u8 0).cells = #[Value.int .u8 0] from rfl, toList_madeCells_one]
  simp [Lib.byteCells]
/-- How much there is of texts. -/
def tot (ss : List ByteArray) : Nat := (ss.map fun s => 1 + s.size).sum
theorem tot_len : ∀ (ss : List ByteArray), ss.length ≤ tot ss := by
  intro ss
  induction ss with
  | nil => simp
  | cons s ss ih =>
    unfold tot at *
    simp only [List.length_cons, List.map_cons, List.sum_cons]
    omega
theorem tot_succ {ss : List ByteArray} {k : Nat} {s : ByteArray} (h : ss[k]? = some s) : tot (ss.take (k + 1)) = tot (ss.take k) + (1 + s.size) := by
  unfold tot
  rw [List.take_add_one, h]
  simp

/-- The step of appending one string to a slice of strings of the call's own. -/
theorem wpl_one_str {ops : Array Oper} {rest : List Oper} {o : Oper} {a : Act} {Q : Exit → Act → World → Prop} (w0 : World) (base : Nat) (hgd : o.guard = none) (s x : Operand)
    (ho : o.op = .call { callee := .builtin .append, args := #[s, x], argTypes := #[38, 38] }) (v : Value) (k : Nat) (xs : List Value) (z : ByteArray) (hown : w0.ownsRow base 9 1 v k xs)
    (hs : a.eval s = v) (hx : a.eval x = .slice (some ⟨w0.heap.size, 0, none⟩) 1 1) (hb : base ≤ w0.heap.size) (hl : k ≤ 1099511627776)
    (h : ∀ v' w', w'.ownsRow base 9 1 v' (k + 1) (xs ++ [.string z]) → Below base w0 w' → v'.ownBlock ≠ none → wpList Try.prog ops Q rest (a.put o.dst v') w') :
    wpList Try.prog ops Q (o :: rest) a (w0.alloc (.cells #[.string z] 9)) := by
  obtain ⟨i0, hi, hz, h1, h2⟩ := info_parts info_string
  refine wpl_app _ hgd s x 38 ho base 9 i0 _ 16 Try.underlying38 hi hz h1 h2 rfl v k xs hs (own_kp hown ((Kp.rfl_ [] w0).alloc _) (by simp)) (some ⟨w0.heap.size, 0, none⟩) 1 1 [.string z] hx
    (Ls.of_at (At.new w0 _ _)) (by intro u hu; obtain rfl : u = Value.string z := by simpa using hu
                                   rfl) (by unfold maxLen; omega) (by omega) (by simp; omega) ?_
  intro v' w' hown' hg hat
  refine h v' w' hown' (((Below.refl _ _).alloc hb _).grown hg (by simp; omega) fun k hk => (own_block_lt hown hk).1) ?_
  intro hne
  have hm := hown'.1
  rcases hown'.2 with ⟨rfl, h0⟩ | ⟨g, cap, cur, rfl, _⟩
  · omega
  · simp [Value.ownBlock] at hne

/-- The step that copies a slice of strings: 'append([]string{}, l...)'. -/
theorem wpl_copy_str {ops : Array Oper} {rest : List Oper} {o : Oper} {a : Act} {Q : Exit → Act → World → Prop} (w0 : World) (hgd : o.guard = none) (s x : Operand)
    (ho : o.op = .call { callee := .builtin .append, args := #[s, x], argTypes := #[38, 38] }) (A : Option Addr) (n c : Nat) (zs : List ByteArray)
    (hs : a.eval s = .slice (some ⟨w0.heap.size, 0, none⟩) 0 0) (hx : a.eval x = .slice A n c) (hr : Ls w0 A n (zs.map Value.string)) (hn : n * 16 ≤ 140737488355328)
    (h : ∀ v' w', w'.ownsRow w0.heap.size 9 1 v' n (zs.map Value.string) → Kp [] w0 w' → wpList Try.prog ops Q rest (a.put o.dst v') w') :
    wpList Try.prog ops Q (o :: rest) a (w0.alloc (.cells #[] 9)) := by
  obtain ⟨i0, hi, hz, h1, h2⟩ := info_parts info_string
  refine wpl_app _ hgd s x 38 ho w0.heap.size 9 i0 _ 16 Try.underlying38 hi hz h1 h2 rfl _ 0 [] hs (own_empty w0 _) A n c _ hx
    (hr.kp ((Kp.rfl_ [] w0).alloc _) (by simp)) oneCell_map_string (by unfold maxLen; omega) (by omega) (by simp) ?_
  intro v' w' hown hg _
  rw [Nat.zero_add] at hown
  refine h v' w' hown (((Kp.rfl_ [] w0).alloc _).then (Kp.of_grown (S := [w0.heap.size]) hg ?_) (by simp))
  intro k hk _
  simp [Value.ownBlock] at hk
  simp [hk]

/-- 'int(uint(at) % uint(n+1))': some number up to n. -/
theorem modk (a : Int) (n : Nat) (h1 : -9223372036854775808 ≤ a) (h2 : a ≤ 9223372036854775807) (hn : n ≤ 1099511627776) : ∃ k : Nat, wrap64 ((IntKind.u64.wrap a).tmod ((n : Int) + 1)) = (k : Int) ∧ k ≤ n := by
  obtain ⟨u, hu⟩ : ∃ u : Nat, IntKind.u64.wrap a = u := by
    rw [IntKind.wrap_u64]
    exact ⟨(a % 18446744073709551616).toNat, by omega⟩
  rw [hu]
  have e : (u : Int).tmod ((n : Int) + 1) = ((u % (n + 1) : Nat) : Int) := by rw [Int.tmod_eq_emod_of_nonneg (by omega)]; push_cast; rfl
  have hlt : u % (n + 1) < n + 1 := Nat.mod_lt _ (by omega)
  rw [e]
  exact ⟨u % (n + 1), IntWalk.wrap64_in _ ⟨by omega, by omega⟩, by omega⟩
theorem addr_add_zero (a : Addr) : a.add 0 = a := by
  unfold Addr.add
  simp
theorem size_str (w : World) : (sizeOf 9).run Try.prog w = .ok 1 w := by kernel_rfl
theorem elem_str : Try.prog.elem 38 = 9 := by kernel_rfl
/-- The front of a list of strings, and what stands behind it. -/
theorem front_str (A : Option Addr) (n c k : Nat) (h : k ≤ c) (w : World) : (Instr.sliceAt 38 (.slice A n c) none (some (.int .i64 (k : Int))) none).run Try.prog w = .ok (.slice A k c) w := by
  have he : Try.prog.underlying 38 = some (.slice (Try.prog.elem 38)) := by rw [elem_str]; exact Try.underlying38
  rw [run_sliceAt_slice (h := he), run_slice_h (ht := he) (kh := .i64) (h0 := by omega) (h2 := by omega), elem_str, size_str]
  unfold sliced
  cases A <;> simp [Result.andThen, addr_add_zero]
theorem back_str {w0 : World} {A : Option Addr} {n c k : Nat} {xs : List Value} (hL : Ls w0 A n xs) (hk : k ≤ n) (hc : n ≤ c) :
    ∃ B, (∀ w, (Instr.sliceAt 38 (.slice A n c) (some (.int .i64 (k : Int))) none none).run Try.prog w = .ok (.slice B (n - k) (c - k)) w) ∧ Ls w0 B (n - k) (xs.drop k) := by
  have he : Try.prog.underlying 38 = some (.slice (Try.prog.elem 38)) := by rw [elem_str]; exact Try.underlying38
  refine ⟨if c = k then A else A.map (·.add (k * 1)), fun w => ?_, ?_⟩
  · rw [run_sliceAt_slice (h := he), run_slice_l (ht := he) (kl := .i64) (h0 := by omega) (h1 := by omega), elem_str, size_str]
    simp [Result.andThen, sliced]
  · by_cases hkn : k = n
    · subst hkn
      refine ⟨by rw [List.length_drop, hL.1], fun h => absurd h (by omega)⟩
    · obtain ⟨ad, rfl, -, -⟩ := hL.2 (by omega)
      rw [if_neg (by omega), Nat.mul_one]
      exact hL.drop hk
/-- 'string(b)' of bytes of the call's own. -/
theorem conv_bytes {base : Nat} {w : World} {v : Value} {l : List UInt8} (h : w.ownsRow base 5 1 v l.length (Lib.byteCells l)) : (convert 49 9 v).run Try.prog w = .ok (.string ⟨l.toArray⟩) w := conv_gen Try.underlying49 Try.underlying5 Try.underlying9 h
theorem in_strs {W : World} {v : Value} (h : In W 38 v) : ∃ (A : Option Addr) (n c : Nat) (zs : List ByteArray), v = .slice A n c ∧ n ≤ c ∧ c ≤ maxLen ∧ Ls W A n (zs.map Value.string) ∧ ∀ z ∈ zs, z.size ≤ maxLen := by
  obtain ⟨A, n, c, xs, rfl, h1, h2, h3, h4, -, -⟩ := rd_slice Try.underlying38 (by kernel_rfl) (in_rd_slice Try.underlying38 h)
  obtain ⟨zs, rfl, hz⟩ := strings_of fun u hu => rd_string Try.underlying9 (h4 u hu)
  exact ⟨A, n, c, zs, rfl, h1, h2, h3, hz⟩
end Go.Proofs.Ytnmogfjbbibeiaa
