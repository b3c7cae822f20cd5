/- CRC-32 as plain numbers: the register's step, its linearity, what it does to a whole text at once. -/
namespace Go.Proofs.YtglehfpddhkoeaaDoor.Crc
set_option maxRecDepth 100000

def P : Nat := 3988292384
def M : Nat := 4294967295
def stp (r : Nat) : Nat := if r % 2 = 1 then (r / 2) ^^^ P else r / 2
def stpN : Nat → Nat → Nat
  | 0, r => r
  | n + 1, r => stpN n (stp r)
def tak (r b : Nat) : Nat := stpN 8 (r ^^^ b)
def run (r : Nat) (l : List UInt8) : Nat := l.foldl (fun r b => tak r b.toNat) r
/-- A text as one number, the first byte lowest. -/
def val : List UInt8 → Nat
  | [] => 0
  | b :: l => b.toNat + 256 * val l
def more (s : Nat) (l : List UInt8) : Nat := M - run (M - s) l

theorem xor_div2 (a b : Nat) : (a ^^^ b) / 2 = a / 2 ^^^ b / 2 := Nat.xor_div_two
theorem xor_mod2 (a b : Nat) : (a ^^^ b) % 2 = (a % 2 + b % 2) % 2 := by
  have h := Nat.xor_mod_two_pow (a := a) (b := b) (n := 1)
  rw [Nat.pow_one] at h
  rw [h]
  rcases Nat.mod_two_eq_zero_or_one a with ha | ha <;> rcases Nat.mod_two_eq_zero_or_one b with hb | hb <;> rw [ha, hb] <;> rfl
theorem stp_xor (a b : Nat) : stp (a ^^^ b) = stp a ^^^ stp b := by
  unfold stp
  rw [xor_mod2, xor_div2]
  by_cases ha : a % 2 = 1 <;> by_cases hb : b % 2 = 1
  · rw [if_neg (by omega), if_pos ha, if_pos hb]
    rw [Nat.xor_assoc (a / 2), ← Nat.xor_assoc P, Nat.xor_comm P, Nat.xor_assoc (b / 2), Nat.xor_self, Nat.xor_zero]
  · rw [if_pos (by omega), if_pos ha, if_neg hb]
    rw [Nat.xor_assoc, Nat.xor_comm (b / 2), ← Nat.xor_assoc]
  · rw [if_pos (by omega), if_neg ha, if_pos hb, Nat.xor_assoc]
  · rw [if_neg (by omega), if_neg ha, if_neg hb]
theorem stpN_xor : ∀ (n a b : Nat), stpN n (a ^^^ b) = stpN n a ^^^ stpN n b := by
  intro n
  induction n with
  | zero => intro a b; rfl
  | succ n ih => intro a b; rw [stpN, stp_xor, ih]; rfl
theorem stp_even (a : Nat) : stp (2 * a) = a := by unfold stp; rw [if_neg (by omega)]; omega
theorem stpN_shift : ∀ (n a : Nat), stpN n (2 ^ n * a) = a := by
  intro n
  induction n with
  | zero => intro a; simp [stpN]
  | succ n ih =>
    intro a
    rw [stpN, show 2 ^ (n + 1) * a = 2 * (2 ^ n * a) by rw [Nat.pow_succ, Nat.mul_comm (2 ^ n) 2, Nat.mul_assoc], stp_even, ih]
theorem stpN_add : ∀ (m n a : Nat), stpN (m + n) a = stpN n (stpN m a) := by
  intro m
  induction m with
  | zero => intro n a; rw [Nat.zero_add]; rfl
  | succ m ih => intro n a; rw [Nat.succ_add, stpN, ih]; rfl
theorem add_xor {a b : Nat} (i : Nat) (hb : b < 2 ^ i) : 2 ^ i * a + b = 2 ^ i * a ^^^ b := by
  rw [Nat.two_pow_add_eq_or_of_lt hb]
  apply Nat.eq_of_testBit_eq
  intro j
  rw [Nat.testBit_or, Nat.testBit_xor, Nat.testBit_two_pow_mul]
  by_cases h : i ≤ j
  · have : b.testBit j = false := Nat.testBit_lt_two_pow (Nat.lt_of_lt_of_le hb (Nat.pow_le_pow_right (by omega) h))
    simp [this]
  · simp [h]
theorem run_val : ∀ (l : List UInt8) (r : Nat), run r l = stpN (8 * l.length) (r ^^^ val l) := by
  intro l
  induction l with
  | nil => intro r; simp [run, val, stpN]
  | cons b l ih =>
    intro r
    have hb := b.toNat_lt
    have e : val (b :: l) = 2 ^ 8 * val l ^^^ b.toNat := by rw [← add_xor 8 (by omega), val]; omega
    have h1 : run r (b :: l) = run (tak r b.toNat) l := rfl
    rw [h1, ih, e, show 8 * (b :: l).length = 8 + 8 * l.length by simp; omega, stpN_add]
    rw [Nat.xor_comm (2 ^ 8 * val l), ← Nat.xor_assoc, stpN_xor 8 (r ^^^ b.toNat), stpN_shift]
    rfl
theorem xor_lt32 {a b : Nat} (ha : a < 4294967296) (hb : b < 4294967296) : a ^^^ b < 4294967296 := by
  have := Nat.xor_lt_two_pow (n := 32) (x := a) (y := b) (by omega) (by omega)
  omega
theorem stp_lt {a : Nat} (h : a < 4294967296) : stp a < 4294967296 := by
  unfold stp
  split
  · exact xor_lt32 (by omega) (by decide)
  · omega
theorem stpN_lt : ∀ (n a : Nat), a < 4294967296 → stpN n a < 4294967296 := by
  intro n
  induction n with
  | zero => intro a h; exact h
  | succ n ih => intro a h; exact ih _ (stp_lt h)
theorem tak_lt {r b : Nat} (h : r < 4294967296) (hb : b < 4294967296) : tak r b < 4294967296 := stpN_lt _ _ (xor_lt32 h hb)
theorem run_lt : ∀ (l : List UInt8) (r : Nat), r < 4294967296 → run r l < 4294967296 := by
  intro l
  induction l with
  | nil => intro r h; exact h
  | cons b l ih => intro r h; exact ih _ (tak_lt h (by have := b.toNat_lt; omega))
theorem stp_ne {a : Nat} (h : a < 4294967296) (h0 : a ≠ 0) : stp a ≠ 0 := by
  unfold stp
  split
  · intro e
    have e2 : a / 2 = P := by
      have : (a / 2 ^^^ P) ^^^ P = 0 ^^^ P := by rw [e]
      rwa [Nat.xor_assoc, Nat.xor_self, Nat.xor_zero, Nat.zero_xor] at this
    unfold P at e2
    omega
  · omega
theorem stpN_ne : ∀ (n a : Nat), a < 4294967296 → a ≠ 0 → stpN n a ≠ 0 := by
  intro n
  induction n with
  | zero => intro a _ h; exact h
  | succ n ih => intro a h h0; exact ih _ (stp_lt h) (stp_ne h h0)
theorem not_xor {a : Nat} (h : a < 4294967296) : M - a = M ^^^ a := by
  have : M = 2 ^ 32 - 1 := rfl
  apply Nat.eq_of_testBit_eq
  intro i
  have h1 : (M - a).testBit i = (decide (i < 32) && !a.testBit i) := by
    rw [show M - a = 2 ^ 32 - (a + 1) by unfold M; omega, Nat.testBit_two_pow_sub_succ (by omega)]
  rw [h1, Nat.testBit_xor, this, Nat.testBit_two_pow_sub_one]
  by_cases hi : i < 32
  · simp [hi]
  · have : a.testBit i = false := Nat.testBit_lt_two_pow (Nat.lt_of_lt_of_le (show a < 2 ^ 32 by omega) (Nat.pow_le_pow_right (by omega) (by omega)))
    simp [hi, this]
theorem run_append (r : Nat) (a b : List UInt8) : run r (a ++ b) = run (run r a) b := List.foldl_append
theorem more_lt (s : Nat) (l : List UInt8) : more s l < 4294967296 := by unfold more M; omega
theorem more_append {s : Nat} (h : s < 4294967296) (a b : List UInt8) : more s (a ++ b) = more (more s a) b := by
  have h1 := run_lt a (M - s) (by unfold M; omega)
  unfold more
  rw [run_append, show M - (M - run (M - s) a) = run (M - s) a by unfold M at *; omega]

/-- What half a byte's four steps turn in the register. -/
def tb (j : Nat) : Nat := [0, 498536548, 997073096, 651767980, 1994146192, 1802195444, 1303535960, 1342533948, 3988292384, 4027552580, 3604390888, 3412177804, 2607071920, 2262029012, 2685067896, 3183342108].getD j 0
theorem tb_all : ∀ j : Fin 16, stpN 4 j.val = tb j.val ∧ tb j.val < 4294967296 := by decide
theorem stp4 (x : Nat) : stpN 4 x = x / 16 ^^^ tb (x % 16) := by
  have e : x = 2 ^ 4 * (x / 16) ^^^ (x % 16) := by rw [← add_xor 4 (by omega)]; omega
  have h := (tb_all ⟨x % 16, by omega⟩).1
  have h2 : stpN 4 (2 ^ 4 * (x / 16) ^^^ (x % 16)) = x / 16 ^^^ tb (x % 16) := by rw [stpN_xor, stpN_shift]; exact congrArg _ h
  rw [← e] at h2
  exact h2
theorem tak_half (r b : Nat) : tak r b = stpN 4 (stpN 4 (r ^^^ b)) := stpN_add 4 4 (r ^^^ b)
/-- The document's own way, bit by bit: the bit that falls out of the register and the byte's. -/
theorem bit_step (r b : Nat) : (if (r % 2 + b % 2) % 2 = 1 then (r / 2) ^^^ P else r / 2) ^^^ (b / 2) = stp (r ^^^ b) := by
  unfold stp
  rw [xor_mod2, xor_div2]
  split
  · rw [Nat.xor_assoc, Nat.xor_comm P, ← Nat.xor_assoc]
  · rfl
theorem val_lt : ∀ l : List UInt8, val l < 2 ^ (8 * l.length) := by
  intro l
  induction l with
  | nil => simp [val]
  | cons b l ih =>
    have hb := b.toNat_lt
    rw [val, show 8 * (b :: l).length = 8 + 8 * l.length by simp; omega, Nat.pow_add]
    omega
/-- One bit of a byte turned. -/
theorem val_set : ∀ (l : List UInt8) (j k : Nat) (b : UInt8), l[j]? = some b → k < 8 → val (l.set j (b ^^^ UInt8.ofNat (2 ^ k))) = val l ^^^ 2 ^ (8 * j + k) := by
  intro l
  induction l with
  | nil => intro j k b h; simp at h
  | cons c l ih =>
    intro j k b h hk
    have hkk : 2 ^ k < 256 := Nat.lt_of_lt_of_le (Nat.pow_lt_pow_right (by omega) hk) (by decide)
    cases j with
    | zero =>
      obtain rfl : c = b := by simpa using h
      have hc := c.toNat_lt
      have hx : (c ^^^ UInt8.ofNat (2 ^ k)).toNat = c.toNat ^^^ 2 ^ k := by rw [UInt8.toNat_xor]; simp [Nat.mod_eq_of_lt hkk]
      have hlt : c.toNat ^^^ 2 ^ k < 2 ^ 8 := Nat.xor_lt_two_pow (by omega) (by omega)
      rw [List.set_cons_zero, val, val, hx]
      rw [show (c.toNat ^^^ 2 ^ k) + 256 * val l = 2 ^ 8 * val l ^^^ (c.toNat ^^^ 2 ^ k) by rw [← add_xor 8 hlt]; omega, show c.toNat + 256 * val l = 2 ^ 8 * val l ^^^ c.toNat by rw [← add_xor 8 (by omega)]; omega]
      rw [Nat.xor_assoc, Nat.mul_zero, Nat.zero_add]
    | succ j =>
      have h' : l[j]? = some b := by simpa using h
      have hc := c.toNat_lt
      rw [List.set_cons_succ, val, val, ih j k b h' hk]
      rw [show c.toNat + 256 * (val l ^^^ 2 ^ (8 * j + k)) = 2 ^ 8 * (val l ^^^ 2 ^ (8 * j + k)) ^^^ c.toNat by rw [← add_xor 8 (by omega)]; omega, show c.toNat + 256 * val l = 2 ^ 8 * val l ^^^ c.toNat by rw [← add_xor 8 (by omega)]; omega]
      have e : 2 ^ 8 * (val l ^^^ 2 ^ (8 * j + k)) = 2 ^ 8 * val l ^^^ 2 ^ (8 * (j + 1) + k) := by
        rw [show 8 * (j + 1) + k = 8 + (8 * j + k) by omega, Nat.pow_add 2 8]
        apply Nat.eq_of_testBit_eq
        intro i
        rw [Nat.testBit_xor, Nat.testBit_two_pow_mul, Nat.testBit_two_pow_mul, Nat.testBit_two_pow_mul, Nat.testBit_xor]
        by_cases hi : 8 ≤ i <;> simp [hi]
      rw [e, Nat.xor_assoc, Nat.xor_comm (2 ^ (8 * (j + 1) + k)), ← Nat.xor_assoc]
/-- Texts of one length that differ by bits side by side, 32 at most: the sums differ. -/
theorem burst {a b : List UInt8} {bits at_ : Nat} (hl : a.length = b.length) (hb : bits < 4294967296) (h0 : bits ≠ 0) (hat : at_ ≤ 8 * a.length) (hv : val b = val a ^^^ 2 ^ at_ * bits) : more 0 b ≠ more 0 a := by
  have h1 := run_lt a M (by decide)
  have h2 := run_lt b M (by decide)
  have hne : run M a ≠ run M b := by
    intro e
    rw [run_val, run_val, ← hl, hv, ← Nat.xor_assoc, stpN_xor _ (M ^^^ val a)] at e
    have h3 : stpN (8 * a.length) (2 ^ at_ * bits) = 0 := by
      generalize stpN (8 * a.length) (M ^^^ val a) = x at e
      generalize stpN (8 * a.length) (2 ^ at_ * bits) = y at e ⊢
      have : x ^^^ x = x ^^^ (x ^^^ y) := congrArg (x ^^^ ·) e
      rw [← Nat.xor_assoc, Nat.xor_self, Nat.zero_xor] at this
      exact this.symm
    rw [show 8 * a.length = at_ + (8 * a.length - at_) by omega, stpN_add, stpN_shift] at h3
    exact stpN_ne _ _ hb h0 h3
  unfold more
  rw [show M - 0 = M from rfl]
  unfold M at *
  omega
theorem val_xor : ∀ (a b : List UInt8), a.length = b.length → val (List.zipWith (· ^^^ ·) a b) = val a ^^^ val b := by
  intro a
  induction a with
  | nil => intro b h; cases b with
    | nil => rfl
    | cons _ _ => simp at h
  | cons x a ih =>
    intro b h
    cases b with
    | nil => simp at h
    | cons y b =>
      have hx := x.toNat_lt
      have hy := y.toNat_lt
      have hlt : x.toNat ^^^ y.toNat < 2 ^ 8 := Nat.xor_lt_two_pow (by omega) (by omega)
      rw [List.zipWith_cons_cons, val, val, val, ih b (by simpa using h), UInt8.toNat_xor]
      rw [show (x.toNat ^^^ y.toNat) + 256 * (val a ^^^ val b) = 2 ^ 8 * (val a ^^^ val b) ^^^ (x.toNat ^^^ y.toNat) by rw [← add_xor 8 hlt]; omega]
      rw [show x.toNat + 256 * val a = 2 ^ 8 * val a ^^^ x.toNat by rw [← add_xor 8 (by omega)]; omega, show y.toNat + 256 * val b = 2 ^ 8 * val b ^^^ y.toNat by rw [← add_xor 8 (by omega)]; omega]
      have e : 2 ^ 8 * (val a ^^^ val b) = 2 ^ 8 * val a ^^^ 2 ^ 8 * val b := by
        apply Nat.eq_of_testBit_eq
        intro i
        rw [Nat.testBit_xor, Nat.testBit_two_pow_mul, Nat.testBit_two_pow_mul, Nat.testBit_two_pow_mul, Nat.testBit_xor]
        by_cases hi : 8 ≤ i <;> simp [hi]
      rw [e, Nat.xor_assoc, Nat.xor_assoc, ← Nat.xor_assoc (2 ^ 8 * val b), Nat.xor_comm (2 ^ 8 * val b), ← Nat.xor_assoc, Nat.xor_assoc, Nat.xor_assoc]
theorem three {a b c : List UInt8} (h1 : a.length = b.length) (h2 : b.length = c.length) :
    more 0 (List.zipWith (· ^^^ ·) (List.zipWith (· ^^^ ·) a b) c) = more 0 a ^^^ more 0 b ^^^ more 0 c := by
  have hl : (List.zipWith (· ^^^ ·) a b).length = a.length := by simp; omega
  have hd : (List.zipWith (· ^^^ ·) (List.zipWith (· ^^^ ·) a b) c).length = a.length := by simp; omega
  have hM : M < 4294967296 := by decide
  unfold more
  rw [show M - 0 = M from rfl, not_xor (run_lt _ _ hM), not_xor (run_lt _ _ hM), not_xor (run_lt _ _ hM), not_xor (run_lt _ _ hM)]
  rw [run_val, run_val, run_val, run_val, hd, ← h2, ← h1, val_xor _ _ (by omega), val_xor _ _ h1]
  rw [stpN_xor _ M, stpN_xor _ M, stpN_xor _ M, stpN_xor _ M, stpN_xor, stpN_xor]
  generalize stpN (8 * a.length) M = m
  generalize stpN (8 * a.length) (val a) = x
  generalize stpN (8 * a.length) (val b) = y
  generalize stpN (8 * a.length) (val c) = z
  apply Nat.eq_of_testBit_eq
  intro i
  simp only [Nat.testBit_xor]
  cases M.testBit i <;> cases m.testBit i <;> cases x.testBit i <;> cases y.testBit i <;> cases z.testBit i <;> rfl
end Go.Proofs.YtglehfpddhkoeaaDoor.Crc
