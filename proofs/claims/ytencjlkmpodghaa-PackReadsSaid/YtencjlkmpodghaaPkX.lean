/- What both readers tell, as one outcome. -/
import Derived.Test.YtencjlkmpodghaaPkU
namespace Go.Proofs.Ytencjlkmpodghaa
set_option maxRecDepth 100000
open Go.RowKit
set_option linter.unusedVariables false

def PR (w : World) (g : Nat) (s : ByteArray) (k : Nat) (sp : Bool) : Prop := ∃ r : ByteArray, Rdr w g r sp ∧ (sp = false → r = bs (s.data.toList.drop k) ∧ k ≤ s.size)
def RR (w : World) (h : Nat) (s : ByteArray) (k : Nat) (sp : Bool) : Prop := ∃ k' : Nat, Rrd w h s k' sp ∧ (sp = false → k' = k)
def Both (w : World) (g h : Nat) (s : ByteArray) : Prop := ∃ (k : Nat) (sp : Bool), PR w g s k sp ∧ RR w h s k sp
theorem PR.kp {w w' : World} {g : Nat} {s : ByteArray} {k : Nat} {sp : Bool} {S : List Nat} (h : PR w g s k sp) (hk : Kp S w w') (hS : g ∉ S) : PR w' g s k sp := by
  obtain ⟨r, h1, h2⟩ := h
  exact ⟨r, At.kp h1 hk hS, h2⟩
theorem RR.kp {w w' : World} {g : Nat} {s : ByteArray} {k : Nat} {sp : Bool} {S : List Nat} (h : RR w g s k sp) (hk : Kp S w w') (hS : g ∉ S) : RR w' g s k sp := by
  obtain ⟨r, h1, h2⟩ := h
  exact ⟨r, At.kp h1 hk hS, h2⟩

/-- A number's outcome: what is told, where the reader stands, whether it is spoilt. -/
def outNum (s : ByteArray) (k : Nat) (sp : Bool) : Int × Nat × Bool :=
  if sp then (0, k, true) else match decN (s.data.toList.drop k) with
  | (n, u) => if u = 0 then (0, k, true) else (n, k + u, false)
def outText (s : ByteArray) (k : Nat) (sp : Bool) : ByteArray × Nat × Bool :=
  if sp then (⟨#[]⟩, k, true) else match decN (s.data.toList.drop k) with
  | (n, u) => if u = 0 ∨ n < 0 ∨ (s.size : Int) - ((k + u : Nat) : Int) < n then (⟨#[]⟩, k, true) else (s.extract (k + u) (k + u + n.toNat), k + u + n.toNat, false)
def outCount (s : ByteArray) (k : Nat) (sp : Bool) : Int × Nat × Bool :=
  if sp then (0, k, true) else match decN (s.data.toList.drop k) with
  | (n, u) => if u = 0 ∨ n < 0 ∨ (s.size : Int) - ((k + u : Nat) : Int) < n then (0, k, true) else (n, k + u, false)

def TellN (w : World) (g : Nat) (s : ByteArray) (o : Int × Nat × Bool) (e : Ending) (w' : World) : Prop := e = .returned (.int .i64 o.1) ∧ PR w' g s o.2.1 o.2.2 ∧ Kp [g] w w'
def TellT (w : World) (g : Nat) (s : ByteArray) (o : ByteArray × Nat × Bool) (e : Ending) (w' : World) : Prop := e = .returned (.string o.1) ∧ PR w' g s o.2.1 o.2.2 ∧ Kp [g] w w'
def RTellN (w : World) (g : Nat) (s : ByteArray) (o : Int × Nat × Bool) (e : Ending) (w' : World) : Prop := e = .returned (.int .i64 o.1) ∧ RR w' g s o.2.1 o.2.2 ∧ Kp [g] w w'
def RTellT (w : World) (g : Nat) (s : ByteArray) (o : ByteArray × Nat × Bool) (e : Ending) (w' : World) : Prop := e = .returned (.string o.1) ∧ RR w' g s o.2.1 o.2.2 ∧ Kp [g] w w'

theorem drop_drop_bs (s : ByteArray) (k u : Nat) : (bs (s.data.toList.drop k)).extract u (bs (s.data.toList.drop k)).size = bs (s.data.toList.drop (k + u)) := by
  rw [bs_extract, bs_size, List.take_length, List.drop_drop]
theorem dec_bounds {l : List UInt8} {n : Int} {u : Nat} (h : decN l = (n, u)) : u ≤ l.length ∧ -9223372036854775808 ≤ n ∧ n ≤ 9223372036854775807 := by
  rcases Nat.eq_zero_or_pos u with h0 | h0
  · subst h0
    have := decN_zero h
    exact ⟨by omega, by omega, by omega⟩
  · have := decN_some h h0
    exact this.2
theorem PR.spoilt {w : World} {g : Nat} {s r : ByteArray} (k : Nat) (h : Rdr w g r true) : PR w g s k true := ⟨r, h, by simp⟩
theorem RR.spoilt {w : World} {g : Nat} {s : ByteArray} {k : Nat} (k' : Nat) (h : Rrd w g s k true) : RR w g s k' true := ⟨k, h, by simp⟩

theorem num_out (g : Nat) (s : ByteArray) (k : Nat) (sp : Bool) (w : World) (h : PR w g s k sp) (hs : s.size ≤ 4096) : Calls Try.prog 22 #[.pointer (some ⟨g, 0, none⟩)] w (TellN w g s (outNum s k sp)) := by
  obtain ⟨r, hr, hsp⟩ := h
  cases sp
  · obtain ⟨rfl, hk⟩ := hsp rfl
    obtain ⟨n, u, hd⟩ : ∃ n u, decN (s.data.toList.drop k) = (n, u) := ⟨_, _, rfl⟩
    have hl : (s.data.toList.drop k).length = s.size - k := by simp
    have hb := dec_bounds hd
    unfold outNum
    rw [hd]
    simp only [Bool.false_eq_true, if_false]
    by_cases hu : u = 0
    · rw [if_pos hu]
      subst hu
      obtain rfl := decN_zero hd
      exact (num_no g _ w hr hd (by rw [bs_size]; omega)).mono fun e w' ⟨h1, h2, h3⟩ => ⟨h1, .spoilt _ h2, h3⟩
    · rw [if_neg hu]
      exact (num_to g _ _ n u w hr hd (by omega) (by rw [bs_size]; omega) (by rw [bs_size]; omega) (drop_drop_bs s k u)).mono fun e w' ⟨h1, h2, h3⟩ => ⟨h1, ⟨_, h2, fun _ => ⟨rfl, by show k + u ≤ s.size; omega⟩⟩, h3⟩
  · exact (num_bad g r w hr).mono fun e w' ⟨h1, h2, h3⟩ => ⟨h1, .spoilt _ h2, h3⟩
theorem rnum_out (g : Nat) (s : ByteArray) (k : Nat) (sp : Bool) (w : World) (h : RR w g s k sp) (hk : sp = false → k ≤ s.size) (hs : s.size ≤ 4096) : Calls Try.prog 23 #[.pointer (some ⟨g, 0, none⟩)] w (RTellN w g s (outNum s k sp)) := by
  obtain ⟨k', hr, hsp⟩ := h
  cases sp
  · obtain rfl := hsp rfl
    have hk := hk rfl
    obtain ⟨n, u, hd⟩ : ∃ n u, decN (s.data.toList.drop k') = (n, u) := ⟨_, _, rfl⟩
    unfold outNum
    rw [hd]
    simp only [Bool.false_eq_true, if_false]
    refine (rrnum_to g s k' n u w hr hd hk (by omega)).mono fun e w' ⟨h1, h2, h3⟩ => ?_
    by_cases hu : u = 0
    · rw [if_pos hu]
      subst hu
      obtain rfl := decN_zero hd
      exact ⟨h1, .spoilt _ h2, h3⟩
    · rw [if_neg hu]
      rw [beq_eq_false_iff_ne.2 hu] at h2
      exact ⟨h1, ⟨_, h2, fun _ => rfl⟩, h3⟩
  · exact (rrnum_bad g s k' w hr).mono fun e w' ⟨h1, h2⟩ => ⟨h1, by subst h2; exact .spoilt _ hr, by subst h2; exact Kp.rfl_ _ _⟩

theorem text_out (g : Nat) (s : ByteArray) (k : Nat) (sp : Bool) (w : World) (h : PR w g s k sp) (hs : s.size ≤ 4096) : Calls Try.prog 24 #[.pointer (some ⟨g, 0, none⟩)] w (TellT w g s (outText s k sp)) := by
  obtain ⟨r, hr, hsp⟩ := h
  cases sp
  · obtain ⟨rfl, hk⟩ := hsp rfl
    obtain ⟨n, u, hd⟩ : ∃ n u, decN (s.data.toList.drop k) = (n, u) := ⟨_, _, rfl⟩
    have hl : (s.data.toList.drop k).length = s.size - k := by simp
    have hb := dec_bounds hd
    unfold outText
    rw [hd]
    simp only [Bool.false_eq_true, if_false]
    by_cases hu : u = 0 ∨ n < 0 ∨ (s.size : Int) - ((k + u : Nat) : Int) < n
    · rw [if_pos hu]
      exact (text_no g _ n u w hr hd (by rw [bs_size]; omega) (by rw [bs_size]; omega) (by rw [bs_size]; omega)).mono fun e w' ⟨h1, h2, h3⟩ => ⟨h1, .spoilt _ h2, h3⟩
    · rw [if_neg hu]
      obtain ⟨m, rfl⟩ : ∃ m : Nat, n = (m : Int) := ⟨n.toNat, by omega⟩
      rw [Int.toNat_natCast]
      have e1 : (bs (s.data.toList.drop k)).extract u (u + m) = s.extract (k + u) (k + u + m) := by
        rw [bs_extract]
        conv => rhs; rw [← bs_of s]
        rw [bs_extract, List.take_drop, List.drop_drop]
        simp [Nat.add_assoc]
      have e2 : (bs (s.data.toList.drop k)).extract (u + m) (bs (s.data.toList.drop k)).size = bs (s.data.toList.drop (k + u + m)) := by
        rw [drop_drop_bs, Nat.add_assoc]
      exact (text_to g _ _ _ m u w hr hd (by omega) (by rw [bs_size]; omega) (by rw [bs_size]; omega) e1 e2).mono fun e w' ⟨h1, h2, h3⟩ => ⟨h1, ⟨_, h2, fun _ => ⟨rfl, by show k + u + m ≤ s.size; omega⟩⟩, h3⟩
  · exact (text_bad g r w hr).mono fun e w' ⟨h1, h2, h3⟩ => ⟨h1, .spoilt _ h2, h3⟩
theorem rtext_out (g : Nat) (s : ByteArray) (k : Nat) (sp : Bool) (w : World) (h : RR w g s k sp) (hk : sp = false → k ≤ s.size) (hs : s.size ≤ 4096) : Calls Try.prog 25 #[.pointer (some ⟨g, 0, none⟩)] w (RTellT w g s (outText s k sp)) := by
  obtain ⟨k', hr, hsp⟩ := h
  cases sp
  · obtain rfl := hsp rfl
    have hk := hk rfl
    obtain ⟨n, u, hd⟩ : ∃ n u, decN (s.data.toList.drop k') = (n, u) := ⟨_, _, rfl⟩
    have hl : (s.data.toList.drop k').length = s.size - k' := by simp
    have hb := dec_bounds hd
    unfold outText
    rw [hd]
    simp only [Bool.false_eq_true, if_false]
    by_cases hu : u = 0 ∨ n < 0 ∨ (s.size : Int) - ((k' + u : Nat) : Int) < n
    · rw [if_pos hu]
      exact (rrtext_no g s k' n u w hr hd hu hb.2.1 hb.2.2 (by omega) (by omega)).mono fun e w' ⟨h1, ⟨k2, h2⟩, h3⟩ => ⟨h1, .spoilt _ h2, h3⟩
    · rw [if_neg hu]
      obtain ⟨m, rfl⟩ : ∃ m : Nat, n = (m : Int) := ⟨n.toNat, by omega⟩
      rw [Int.toNat_natCast]
      exact (rrtext_yes g s _ k' m u _ w hr hd (by omega) rfl (by omega) (by omega) rfl).mono fun e w' ⟨h1, h2, h3⟩ => ⟨h1, ⟨_, h2, fun _ => rfl⟩, h3⟩
  · exact (rrtext_bad g s k' w hr).mono fun e w' ⟨h1, ⟨k2, h2⟩, h3⟩ => ⟨h1, .spoilt _ h2, h3⟩

theorem count_out (g : Nat) (s : ByteArray) (k : Nat) (sp : Bool) (w : World) (h : PR w g s k sp) (hs : s.size ≤ 4096) : Calls Try.prog 26 #[.pointer (some ⟨g, 0, none⟩)] w (TellN w g s (outCount s k sp)) := by
  obtain ⟨r, hr, hsp⟩ := h
  cases sp
  · obtain ⟨rfl, hk⟩ := hsp rfl
    obtain ⟨n, u, hd⟩ : ∃ n u, decN (s.data.toList.drop k) = (n, u) := ⟨_, _, rfl⟩
    have hl : (s.data.toList.drop k).length = s.size - k := by simp
    have hb := dec_bounds hd
    have e2 := drop_drop_bs s k u
    have e3 : (bs (s.data.toList.drop (k + u))).size = s.size - (k + u) := by rw [bs_size]; simp
    unfold outCount
    rw [hd]
    simp only [Bool.false_eq_true, if_false]
    by_cases hu : u = 0 ∨ n < 0 ∨ (s.size : Int) - ((k + u : Nat) : Int) < n
    · rw [if_pos hu]
      by_cases h0 : u = 0
      · subst h0
        obtain rfl := decN_zero hd
        exact (count_no0 g _ w hr hd (by rw [bs_size]; omega)).mono fun e w' ⟨h1, ⟨r2, h2⟩, h3⟩ => ⟨h1, .spoilt _ h2, h3⟩
      · exact (count_no g _ _ n u w hr hd (by omega) (by rw [bs_size]; omega) e2 (by rw [e3]; omega) (by rw [bs_size]; omega)).mono fun e w' ⟨h1, ⟨r2, h2⟩, h3⟩ => ⟨h1, .spoilt _ h2, h3⟩
    · rw [if_neg hu]
      obtain ⟨m, rfl⟩ : ∃ m : Nat, n = (m : Int) := ⟨n.toNat, by omega⟩
      exact (count_yes g _ _ m u w hr hd (by omega) (by rw [bs_size]; omega) e2 (by rw [e3]; omega) (by rw [bs_size]; omega)).mono fun e w' ⟨h1, h2, h3⟩ => ⟨h1, ⟨_, h2, fun _ => ⟨rfl, by show k + u ≤ s.size; omega⟩⟩, h3⟩
  · exact (count_bad g r w hr).mono fun e w' ⟨h1, ⟨r2, h2⟩, h3⟩ => ⟨h1, .spoilt _ h2, h3⟩
theorem rcount_out (g : Nat) (s : ByteArray) (k : Nat) (sp : Bool) (w : World) (h : RR w g s k sp) (hk : sp = false → k ≤ s.size) (hs : s.size ≤ 4096) : Calls Try.prog 27 #[.pointer (some ⟨g, 0, none⟩)] w (RTellN w g s (outCount s k sp)) := by
  obtain ⟨k', hr, hsp⟩ := h
  cases sp
  · obtain rfl := hsp rfl
    have hk := hk rfl
    obtain ⟨n, u, hd⟩ : ∃ n u, decN (s.data.toList.drop k') = (n, u) := ⟨_, _, rfl⟩
    have hl : (s.data.toList.drop k').length = s.size - k' := by simp
    have hb := dec_bounds hd
    unfold outCount
    rw [hd]
    simp only [Bool.false_eq_true, if_false]
    by_cases hu : u = 0 ∨ n < 0 ∨ (s.size : Int) - ((k' + u : Nat) : Int) < n
    · rw [if_pos hu]
      exact (rrcount_no g s k' n u w hr hd hu hb.2.1 hb.2.2 (by omega) (by omega)).mono fun e w' ⟨h1, ⟨k2, h2⟩, h3⟩ => ⟨h1, .spoilt _ h2, h3⟩
    · rw [if_neg hu]
      obtain ⟨m, rfl⟩ : ∃ m : Nat, n = (m : Int) := ⟨n.toNat, by omega⟩
      exact (rrcount_yes g s k' m u _ w hr hd (by omega) rfl (by omega) (by omega)).mono fun e w' ⟨h1, h2, h3⟩ => ⟨h1, ⟨_, h2, fun _ => rfl⟩, h3⟩
  · exact (rrcount_bad g s k' w hr).mono fun e w' ⟨h1, ⟨k2, h2⟩, h3⟩ => ⟨h1, .spoilt _ h2, h3⟩

theorem num_o (g : Nat) (s : ByteArray) (k : Nat) (sp : Bool) (v : Int) (k2 : Nat) (sp2 : Bool) (w : World) (ho : outNum s k sp = (v, k2, sp2)) (h : PR w g s k sp) (hs : s.size ≤ 4096) :
    Calls Try.prog 22 #[.pointer (some ⟨g, 0, none⟩)] w fun e w' => e = .returned (.int .i64 v) ∧ PR w' g s k2 sp2 ∧ Kp [g] w w' := by
  have := num_out g s k sp w h hs
  rw [ho] at this
  exact this
theorem rnum_o (g : Nat) (s : ByteArray) (k : Nat) (sp : Bool) (v : Int) (k2 : Nat) (sp2 : Bool) (w : World) (ho : outNum s k sp = (v, k2, sp2)) (h : RR w g s k sp) (hk : sp = false → k ≤ s.size) (hs : s.size ≤ 4096) :
    Calls Try.prog 23 #[.pointer (some ⟨g, 0, none⟩)] w fun e w' => e = .returned (.int .i64 v) ∧ RR w' g s k2 sp2 ∧ Kp [g] w w' := by
  have := rnum_out g s k sp w h hk hs
  rw [ho] at this
  exact this
theorem text_o (g : Nat) (s : ByteArray) (k : Nat) (sp : Bool) (v : ByteArray) (k2 : Nat) (sp2 : Bool) (w : World) (ho : outText s k sp = (v, k2, sp2)) (h : PR w g s k sp) (hs : s.size ≤ 4096) :
    Calls Try.prog 24 #[.pointer (some ⟨g, 0, none⟩)] w fun e w' => e = .returned (.string v) ∧ PR w' g s k2 sp2 ∧ Kp [g] w w' := by
  have := text_out g s k sp w h hs
  rw [ho] at this
  exact this
theorem rtext_o (g : Nat) (s : ByteArray) (k : Nat) (sp : Bool) (v : ByteArray) (k2 : Nat) (sp2 : Bool) (w : World) (ho : outText s k sp = (v, k2, sp2)) (h : RR w g s k sp) (hk : sp = false → k ≤ s.size) (hs : s.size ≤ 4096) :
    Calls Try.prog 25 #[.pointer (some ⟨g, 0, none⟩)] w fun e w' => e = .returned (.string v) ∧ RR w' g s k2 sp2 ∧ Kp [g] w w' := by
  have := rtext_out g s k sp w h hk hs
  rw [ho] at this
  exact this
theorem count_o (g : Nat) (s : ByteArray) (k : Nat) (sp : Bool) (v : Int) (k2 : Nat) (sp2 : Bool) (w : World) (ho : outCount s k sp = (v, k2, sp2)) (h : PR w g s k sp) (hs : s.size ≤ 4096) :
    Calls Try.prog 26 #[.pointer (some ⟨g, 0, none⟩)] w fun e w' => e = .returned (.int .i64 v) ∧ PR w' g s k2 sp2 ∧ Kp [g] w w' := by
  have := count_out g s k sp w h hs
  rw [ho] at this
  exact this
theorem rcount_o (g : Nat) (s : ByteArray) (k : Nat) (sp : Bool) (v : Int) (k2 : Nat) (sp2 : Bool) (w : World) (ho : outCount s k sp = (v, k2, sp2)) (h : RR w g s k sp) (hk : sp = false → k ≤ s.size) (hs : s.size ≤ 4096) :
    Calls Try.prog 27 #[.pointer (some ⟨g, 0, none⟩)] w fun e w' => e = .returned (.int .i64 v) ∧ RR w' g s k2 sp2 ∧ Kp [g] w w' := by
  have := rcount_out g s k sp w h hk hs
  rw [ho] at this
  exact this
theorem good_q (g : Nat) (s : ByteArray) (sp b : Bool) (w : World) (n : Nat) (hb : (!sp) = b) (h : Rdr w g s sp) : Calls Try.prog 29 #[.pointer (some ⟨g, 0, none⟩)] (w.drewN n) fun e w'' => e = .returned (.bool b) ∧ ∃ m, w'' = w.drewN m :=
  (good_any g s sp (w.drewN n) h).mono fun e w' ⟨h1, h2⟩ => ⟨by rw [h1, hb], n, h2.symm⟩
theorem done_q (g : Nat) (s : ByteArray) (sp b : Bool) (w : World) (n : Nat) (hb : (!sp && s.size == 0) = b) (h : Rdr w g s sp) : Calls Try.prog 30 #[.pointer (some ⟨g, 0, none⟩)] (w.drewN n) fun e w'' => e = .returned (.bool b) ∧ ∃ m, w'' = w.drewN m :=
  (done_any g s sp (w.drewN n) h).mono fun e w' ⟨h1, h2⟩ => ⟨by rw [h1, hb], n, h2.symm⟩
theorem rdone_q (g : Nat) (s : ByteArray) (k : Nat) (sp b : Bool) (w : World) (n : Nat) (hb : (!sp && k == s.size) = b) (h : Rrd w g s k sp) : Calls Try.prog 31 #[.pointer (some ⟨g, 0, none⟩)] (w.drewN n) fun e w'' => e = .returned (.bool b) ∧ ∃ m, w'' = w.drewN m :=
  (rdone_any g s k sp (w.drewN n) h).mono fun e w' ⟨h1, m, h2⟩ => ⟨by rw [h1, hb], n + m, by rw [h2, World.drewN_drewN]⟩
theorem left_q (g : Nat) (s : ByteArray) (sp : Bool) (q : Int) (w : World) (n : Nat) (hq : (s.size : Int) = q) (h : Rdr w g s sp) : Calls Try.prog 32 #[.pointer (some ⟨g, 0, none⟩)] (w.drewN n) fun e w'' => e = .returned (.int .i64 q) ∧ ∃ m, w'' = w.drewN m :=
  (left_any g s sp (w.drewN n) h).mono fun e w' ⟨h1, h2⟩ => ⟨by rw [h1, hq], n, h2.symm⟩
theorem PR.le {w : World} {g : Nat} {s : ByteArray} {k : Nat} {sp : Bool} (h : PR w g s k sp) : sp = false → k ≤ s.size := by
  obtain ⟨r, h1, h2⟩ := h
  exact fun e => (h2 e).2
end Go.Proofs.Ytencjlkmpodghaa
