/- Package disk: Crash (the walk). -/
import Derived.Test.YtnmogfjbbibeiaaDr
namespace Go.Proofs.Ytnmogfjbbibeiaa
set_option maxRecDepth 100000
open Go.RowKit Go.Maps Go.WideMaps Go.WideElems Go.ChangeMaps
set_option linter.unusedVariables false

/-- Where the round stands. -/
def CrR (w wr : World) (d b N : Nat) (F : ByteArray → Option Fl) (down fused : Bool) (left steps : Nat) (L : List ByteArray) (ks0 : List Int) (gk : Nat) (v1 v13 : Value) : Prop :=
  ∃ (i : Nat) (B : Option Addr) (m cc : Nat) (ks : List Int) (F' : ByteArray → Option Fl), L.length - i ≤ gk ∧ v1 = .slice B m cc ∧ v13 = .int .i64 i ∧ i ≤ L.length ∧ m ≤ cc ∧ cc ≤ maxLen ∧ Ls wr B m (ks.map (Value.int .i64)) ∧ (0 < m → ∀ ad, B = some ad → ¬ foot d b F ad.block) ∧
    DSt wr d b N F' down fused left steps ∧ crashL (L.drop i) ks F' = crashL L ks0 F ∧ (∀ s ∈ L.drop i, (F' s).isSome = true) ∧ Less F F' ∧ Within F' ∧ KX (foot d b F) w wr
/-- One round's end. -/
theorem CrR.next {w wr wr' : World} {d b N : Nat} {F : ByteArray → Option Fl} {down fused : Bool} {left steps : Nat} {L : List ByteArray} {ks0 : List Int} {gk i : Nat} {F' : ByteArray → Option Fl} {s : ByteArray} {x : Fl} {ks ks' : List Int} {B : Option Addr} {m cc : Nat}
    (hi : L[i]? = some s) (hx : F' s = some x) (hgk : L.length - (i + 1) ≤ gk) (hcr : crashL (L.drop i) ks F' = crashL L ks0 F) (hall : ∀ s ∈ L.drop i, (F' s).isSome = true) (hnd : (L.drop i).Nodup) (hless : Less F F') (hw : Within F') (hkx : KX (foot d b F) w wr)
    (hks : ks' = crashT x ks) (hm : m ≤ cc) (hcc : cc ≤ maxLen) (hL : Ls wr B m (ks'.map (Value.int .i64))) (hB : 0 < m → ∀ ad, B = some ad → ¬ foot d b F ad.block) (hD : DSt wr' d b N (crash1F F' s (crash1 x ks)) down fused left steps) (hk : Kp [x.g, b] wr wr') :
    CrR w wr' d b N F down fused left steps L ks0 gk (.slice B m cc) (.int .i64 ((i + 1 : Nat) : Int)) := by
  have hlt : i < L.length := (List.getElem?_eq_some_iff.1 hi).1
  have hdr : L.drop i = s :: L.drop (i + 1) := by
    rw [List.drop_eq_getElem_cons hlt]
    congr 1
    rw [List.getElem?_eq_getElem hlt] at hi
    injection hi
  have hfoot : ∀ z ∈ [x.g, b], foot d b F z := by
    intro z hz
    simp at hz
    rcases hz with rfl | rfl
    · obtain ⟨y0, e1, e2⟩ := hless s x hx
      exact .inr (.inr ⟨s, y0, e1, e2⟩)
    · exact .inr (.inl rfl)
  have hk2 : KX (foot d b F) wr wr' := KX.of hk hfoot
  rw [hdr] at hcr hall hnd
  rw [crashL_cons hx] at hcr
  refine ⟨i + 1, B, m, cc, ks', _, hgk, rfl, rfl, hlt, hm, hcc, hL.kx hk2 hB, hB, hD, by rw [hks]; exact hcr, fun s' hs' => crash_some ?_ (hall s' (List.mem_cons_of_mem _ hs')), hless.step hx ks, hw.step hx ks, hkx.then hk2 fun _ h _ => h⟩
  rintro rfl
  exact (List.nodup_cons.1 hnd).1 hs'
theorem rising_nodup {L : List ByteArray} (h : Rising L) : L.Nodup := h.imp fun {a b} h e => by subst e; exact blt_irr _ h
def Crashed (w : World) (d b N : Nat) (F : ByteArray → Option Fl) (steps : Nat) (ks : List Int) (e : Ending) (w' : World) : Prop :=
  e = .returned (.tuple #[]) ∧ ∃ L, NamesOf F ⟨#[]⟩ L ∧ DSt w' d b N (crashL L ks F) false false 0 steps ∧ Less F (crashL L ks F) ∧ Within (crashL L ks F) ∧ KX (foot d b F) w w'
theorem Crashed.ret {w : World} {d b N : Nat} {F : ByteArray → Option Fl} {steps : Nat} {ks : List Int} (e : Ending) (w' : World) (h : Crashed w d b N F steps ks e w') : ∃ v, e = .returned v := ⟨_, h.1⟩
set_option maxHeartbeats 8000000 in
theorem crash_any (A : Option Addr) (n c : Nat) (ks : List Int) (w : World) {d b N : Nat} {F : ByteArray → Option Fl} {down fused : Bool} {left steps : Nat} (h : DSt w d b N F down fused left steps) (hN : N < 1000000) (hW : Within F)
    (hL : Ls w A n (ks.map (Value.int .i64))) (hn : n ≤ c) (hc : c ≤ maxLen) (hA : 0 < n → ∀ ad, A = some ad → ¬ foot d b F ad.block) :
    Calls Try.prog 21 #[.pointer (some ⟨d, 0, none⟩), .slice A n c] w (Crashed w d b N F steps ks) := by
  go_enter Try.func21, Try.ntmps21
  go_wp2_with fail
  refine (dnamesl_any ⟨#[]⟩ w h hN).mono ?_
  rintro e w2 ⟨v, L, rfl, hNm, hsz, hlen, hown, hk2⟩
  obtain ⟨AL, cL, rfl, hLs, hbL, hcL, hmL⟩ := own_open hown
  have hND := Lib.hid (rising_nodup hNm.1)
  have HNM := Lib.hid hNm
  have HSZ := Lib.hid hsz
  have hall0 : Hid (∀ s ∈ L, (F s).isSome = true) := Lib.hid fun s hs => ((hNm.2 s).1 hs).1
  have hfl : Hid (∀ x, foot d b F x → x < w.heap.size) := Lib.hid fun x hx => by
    rcases hx with rfl | rfl | ⟨s, y, e, rfl⟩
    · exact h.disk.lt
    · obtain ⟨D, o, _⟩ := h.map; exact o.lt
    · exact (h.file s y e).lt
  have h2 := h.kp hk2
  have hL2 := hL.kp hk2 (by simp)
  clear hNm hsz
  go_wp2_with fail
  go_loopg [1, 13] L.length (fun gk v1 v13 wr => CrR w2 wr d b N F down fused left steps L ks gk v1 v13)
  case atStart => exact ⟨0, A, n, c, ks, F, by omega, rfl, rfl, Nat.zero_le _, hn, hc, hL2, hA, h2, rfl, fun s hs => hall0.out s hs, Less.rfl_ _, hW, KX.rfl_ _ _⟩
  case round =>
    obtain ⟨i, B, m, cc, ks', F', hgk, rfl, rfl, hi, hm, hcc, hLr, hBf, hD, hcr, hall, hless, hw, hkx⟩ := hrel
    have HCR := Lib.hid hcr
    have HALL := Lib.hid hall
    clear hcr hall h2 hL2
    by_cases hlt : i < L.length
    · have b2 : (i : Int) < (L.length : Int) := by omega
      have hLsr := hLs.kx hkx (fun _ ad e hf => by have := hbL ad e; have := hfl.out _ hf; omega)
      obtain ⟨adL, s, rfl, hs, hcs⟩ := hLsr.str_at hlt
      have hdr : L.drop i = s :: L.drop (i + 1) := by
        rw [List.drop_eq_getElem_cons hlt]
        congr 1
        rw [List.getElem?_eq_getElem hlt] at hs
        injection hs
      obtain ⟨x, hF⟩ : ∃ x, F' s = some x := Option.isSome_iff_exists.1 (HALL.out s (by rw [hdr]; simp))
      have hss : s.size ≤ maxLen := HSZ.out s (List.mem_of_getElem? hs)
      have HNX : ∀ (wr' : World) (ks'' : List Int) (B' : Option Addr) (m' cc' : Nat), ks'' = crashT x ks' → m' ≤ cc' → cc' ≤ maxLen → Ls wr B' m' (ks''.map (Value.int .i64)) → (0 < m' → ∀ ad, B' = some ad → ¬ foot d b F ad.block) → DSt wr' d b N (crash1F F' s (crash1 x ks')) down fused left steps → Kp [x.g, b] wr wr' →
          CrR w2 wr' d b N F down fused left steps L ks (L.length - (i + 1)) (.slice B' m' cc') (.int .i64 ((i + 1 : Nat) : Int)) := fun wr' ks'' B' m' cc' => CrR.next hs hF (Nat.le_refl _) HCR.out HALL.out (hND.out.sublist (List.drop_sublist _ _)) hless hw hkx
      have hby := hw s x hF
      have HNX2 := Lib.hid HNX
      have hlk := look_any hD hss
      rw [hF] at hlk
      simp only [Option.map_some] at hlk
      have c0 := hD.disk.cell 0
      have a3 := hD.file s x hF
      have HF := Lib.hid hF
      clear HNX hs hdr hF HCR HALL
      obtain ⟨xg, xl, xw, xs⟩ := x
      have q1 := a3.cell 1
      have hby : xl.size + xw.size ≤ 1048576 := hby
      have hAwr := a3
      have hDwr := hD
      have hKKwr : Kp [xg, b] wr wr := Kp.rfl_ _ _
      by_cases hz : xw.size = 0
      · have HZ := Lib.hid hz
        clear hz
        have hgt : ¬ ((xw.size : Int) > 0) := by have := HZ.out; omega
        have hgt2 : decide ((xw.size : Int) > 0) = false := decide_eq_false hgt
        go_wp2_with fail
        refine (settle_any xg xl xw xs 0 (cropK ks' xw.size) wr (hAwr) (by omega) (.inr (.inl ⟨by omega, by omega, by have h1 := crop_le ks' xw.size; have := HZ.out; omega⟩))).mono ?_
        rintro e w5 ⟨rfl, a5, hk5⟩
        have HC := Lib.hid (show crash1 ⟨xg, xl, xw, xs⟩ ks' = ⟨xg, xl ++ xw.extract 0 (cropK ks' xw.size), ⟨#[]⟩, xs⟩ from rfl)
        obtain ⟨l5, hl5⟩ : ∃ l5, xl ++ xw.extract 0 (cropK ks' xw.size) = l5 := ⟨_, rfl⟩
        rw [hl5] at a5 HC
        have hsz5 : l5.size ≤ 1048576 := by
          have := crash1_size ⟨xg, xl, xw, xs⟩ ks'
          rw [HC.out] at this
          have h6 : l5.size ≤ xl.size + xw.size := this
          omega
        clear hl5
        have h5 := hDwr.turn HF.out ⟨xg, l5, ⟨#[]⟩, xs⟩ rfl hk5 a5
        have hkw5 : Kp [xg, b] wr w5 := hKKwr.then hk5 (by simp)
        have q5 := a5.cell 2
        cases xs
        · by_cases hz5 : l5.size = 0
          · have HZ5 := Lib.hid hz5
            have c5 := h5.disk.cell 0
            obtain ⟨D5, o5, o6⟩ := h5.map
            have hs5 := hsize_any xg l5 ⟨#[]⟩ false w5 a5 (by omega) (by decide)
            rw [show l5.size + (ByteArray.mk #[]).size = 0 by show l5.size + 0 = 0; omega] at hs5
            have HS5 := Lib.hid hs5
            clear hs5 hz5
            go_wp2_with fail
            refine HS5.out.mono ?_
            rintro e w6 ⟨rfl, hk6⟩
            have o7 := om_kp o5 hk6 (by simp)
            have h6 := h5.kp hk6
            have c6 := h6.disk.cell 0
            go_wp2_with (at_delete; go_loud (refine wpList_delete_own _ rfl _ _ 55 9 rfl 65 skey Try.underlying55 Rp b N D5 rfl o7 _ (kl s) rfl (skey_of hss) ?_; intro w7 o8 ht7))
            have k7 : Kp [b] w6 w7 := Kp.of_grown (S := [b]) ht7.grown (fun k hk _ => by injection hk with hk; simp [hk])
            have hN := HNX2.out w7 ks' B (m) (cc) (by unfold crashT; rw [if_pos HZ.out]) hm hcc hLr hBf (by
              have := h6.drop o6 o8 k7
              rw [HC.out]
              unfold crash1F
              rw [if_pos ⟨rfl, HZ5.out⟩]
              rw [show cut (upd F' s ⟨xg, l5, ⟨#[]⟩, false⟩) s = cut F' s by funext s'; unfold cut upd; split <;> simp_all] at this
              exact this) ((hkw5.trans (hk6.mono (T := [xg, b]) (by simp))).then k7 (by simp))
            go_roundg (L.length - (i + 1))
            case measure => omega
            case rel => exact hN
          · have HZ5 := Lib.hid hz5
            have hs5 := hsize_any xg l5 ⟨#[]⟩ false w5 a5 (by omega) (by decide)
            rw [show l5.size + (ByteArray.mk #[]).size = l5.size from rfl] at hs5
            have HS5 := Lib.hid hs5
            have hne5 : ((l5.size : Int) == 0) = false := by rw [beq_eq_false_iff_ne]; omega
            clear hs5 hz5
            go_wp2_with fail
            refine HS5.out.mono ?_
            rintro e w6 ⟨rfl, hk6⟩
            have h6 := h5.kp hk6
            go_wp2_with fail
            have hN := HNX2.out w6 ks' B (m) (cc) (by unfold crashT; rw [if_pos HZ.out]) hm hcc hLr hBf (by
              rw [HC.out]
              unfold crash1F
              rw [if_neg (fun h => HZ5.out h.2)]
              exact h6) (hkw5.trans (hk6.mono (T := [xg, b]) (by simp)))
            go_roundg (L.length - (i + 1))
            case measure => omega
            case rel => exact hN
        · go_wp2_with fail
          have hN := HNX2.out w5 ks' B (m) (cc) (by unfold crashT; rw [if_pos HZ.out]) hm hcc hLr hBf (by
            rw [HC.out]
            unfold crash1F
            rw [if_neg (fun h => by cases h.1)]
            exact h5) hkw5
          go_roundg (L.length - (i + 1))
          case measure => omega
          case rel => exact hN
      · have hgt : (xw.size : Int) > 0 := by omega
        have hgt2 : decide ((xw.size : Int) > 0) = true := decide_eq_true hgt
        have HZ := Lib.hid hz
        clear hz
        cases ks' with
        | nil =>
          obtain rfl : m = 0 := by simpa using hLr.1.symm
          go_wp2_with fail
          refine (settle_any xg xl xw xs 0 (cropK [] xw.size) wr (hAwr) (by omega) (.inr (.inl ⟨by omega, by omega, rfl⟩))).mono ?_
          rintro e w5 ⟨rfl, a5, hk5⟩
          have HC := Lib.hid (show crash1 ⟨xg, xl, xw, xs⟩ ([]) = ⟨xg, xl ++ xw.extract 0 (cropK ([]) xw.size), ⟨#[]⟩, xs⟩ from rfl)
          obtain ⟨l5, hl5⟩ : ∃ l5, xl ++ xw.extract 0 (cropK ([]) xw.size) = l5 := ⟨_, rfl⟩
          rw [hl5] at a5 HC
          have hsz5 : l5.size ≤ 1048576 := by
            have := crash1_size ⟨xg, xl, xw, xs⟩ ([])
            rw [HC.out] at this
            have h6 : l5.size ≤ xl.size + xw.size := this
            omega
          clear hl5
          have h5 := hDwr.turn HF.out ⟨xg, l5, ⟨#[]⟩, xs⟩ rfl hk5 a5
          have hkw5 : Kp [xg, b] wr w5 := hKKwr.then hk5 (by simp)
          have q5 := a5.cell 2
          cases xs
          · by_cases hz5 : l5.size = 0
            · have HZ5 := Lib.hid hz5
              have c5 := h5.disk.cell 0
              obtain ⟨D5, o5, o6⟩ := h5.map
              have hs5 := hsize_any xg l5 ⟨#[]⟩ false w5 a5 (by omega) (by decide)
              rw [show l5.size + (ByteArray.mk #[]).size = 0 by show l5.size + 0 = 0; omega] at hs5
              have HS5 := Lib.hid hs5
              clear hs5 hz5
              go_wp2_with fail
              refine HS5.out.mono ?_
              rintro e w6 ⟨rfl, hk6⟩
              have o7 := om_kp o5 hk6 (by simp)
              have h6 := h5.kp hk6
              have c6 := h6.disk.cell 0
              go_wp2_with (at_delete; go_loud (refine wpList_delete_own _ rfl _ _ 55 9 rfl 65 skey Try.underlying55 Rp b N D5 rfl o7 _ (kl s) rfl (skey_of hss) ?_; intro w7 o8 ht7))
              have k7 : Kp [b] w6 w7 := Kp.of_grown (S := [b]) ht7.grown (fun k hk _ => by injection hk with hk; simp [hk])
              have hN := HNX2.out w7 [] B (0) (cc) (by unfold crashT; rw [if_neg HZ.out]; rfl) hm hcc hLr hBf (by
                have := h6.drop o6 o8 k7
                rw [HC.out]
                unfold crash1F
                rw [if_pos ⟨rfl, HZ5.out⟩]
                rw [show cut (upd F' s ⟨xg, l5, ⟨#[]⟩, false⟩) s = cut F' s by funext s'; unfold cut upd; split <;> simp_all] at this
                exact this) ((hkw5.trans (hk6.mono (T := [xg, b]) (by simp))).then k7 (by simp))
              go_roundg (L.length - (i + 1))
              case measure => omega
              case rel => exact hN
            · have HZ5 := Lib.hid hz5
              have hs5 := hsize_any xg l5 ⟨#[]⟩ false w5 a5 (by omega) (by decide)
              rw [show l5.size + (ByteArray.mk #[]).size = l5.size from rfl] at hs5
              have HS5 := Lib.hid hs5
              have hne5 : ((l5.size : Int) == 0) = false := by rw [beq_eq_false_iff_ne]; omega
              clear hs5 hz5
              go_wp2_with fail
              refine HS5.out.mono ?_
              rintro e w6 ⟨rfl, hk6⟩
              have h6 := h5.kp hk6
              go_wp2_with fail
              have hN := HNX2.out w6 [] B (0) (cc) (by unfold crashT; rw [if_neg HZ.out]; rfl) hm hcc hLr hBf (by
                rw [HC.out]
                unfold crash1F
                rw [if_neg (fun h => HZ5.out h.2)]
                exact h6) (hkw5.trans (hk6.mono (T := [xg, b]) (by simp)))
              go_roundg (L.length - (i + 1))
              case measure => omega
              case rel => exact hN
          · go_wp2_with fail
            have hN := HNX2.out w5 [] B (0) (cc) (by unfold crashT; rw [if_neg HZ.out]; rfl) hm hcc hLr hBf (by
              rw [HC.out]
              unfold crash1F
              rw [if_neg (fun h => by cases h.1)]
              exact h5) hkw5
            go_roundg (L.length - (i + 1))
            case measure => omega
            case rel => exact hN
        | cons k0 kt =>
          have hm0 : 0 < m := by have := hLr.1; simp at this; omega
          obtain ⟨B', hrun, hL', hB'⟩ := back_int (k := 1) hLr hm0 hm
          have hrun1 : ∀ w, (Instr.sliceAt 29 (.slice B m cc) (some (.int .i64 1)) none none).run Try.prog w = .ok (.slice B' (m - 1) (cc - 1)) w := hrun
          obtain ⟨ad, z0, rfl, hz0, hc0⟩ := hLr.int_at hm0
          obtain rfl : k0 = z0 := by simpa using hz0
          have hc1 : wr.drew.cell? (ad.add 0) = some (.int .i64 k0) := hc0
          have hc2 : wr.drew.cell? ad = some (.int .i64 k0) := by rw [← addr_add_zero ad]; exact hc0
          have hm1 : (0 : Int) < (m : Int) := by omega
          have hKKd : Kp [xg, b] wr wr.drew := hKKwr.drew
          have hDd : DSt wr.drew d b N F' down fused left steps := hD.kp (Kp.rfl_ [] wr).drew
          have hAd : At wr.drew xg 70 #[.string xl, .string xw, .bool xs] := hAwr
          have hBf' : 0 < m - 1 → ∀ ad', B' = some ad' → ¬ foot d b F ad'.block := fun _ ad' e => by
            obtain ⟨ad'', e1, e2⟩ := hB' ad' e
            rw [e2]
            exact hBf hm0 ad'' e1
          clear hrun hz0
          go_wp2_with fail
          go_region
          go_wp2_with fail
          refine (settle_any xg xl xw xs k0 (cropK (k0 :: kt) xw.size) wr.drew (hAd) (by omega) (by show (k0 < 0 ∧ min k0.toNat xw.size = 0) ∨ (0 ≤ k0 ∧ k0 ≤ xw.size ∧ k0 = ((min k0.toNat xw.size : Nat) : Int)) ∨ ((xw.size : Int) < k0 ∧ min k0.toNat xw.size = xw.size); omega)).mono ?_
          rintro e w5 ⟨rfl, a5, hk5⟩
          have HC := Lib.hid (show crash1 ⟨xg, xl, xw, xs⟩ (k0 :: kt) = ⟨xg, xl ++ xw.extract 0 (cropK (k0 :: kt) xw.size), ⟨#[]⟩, xs⟩ from rfl)
          obtain ⟨l5, hl5⟩ : ∃ l5, xl ++ xw.extract 0 (cropK (k0 :: kt) xw.size) = l5 := ⟨_, rfl⟩
          rw [hl5] at a5 HC
          have hsz5 : l5.size ≤ 1048576 := by
            have := crash1_size ⟨xg, xl, xw, xs⟩ (k0 :: kt)
            rw [HC.out] at this
            have h6 : l5.size ≤ xl.size + xw.size := this
            omega
          clear hl5
          have h5 := hDd.turn HF.out ⟨xg, l5, ⟨#[]⟩, xs⟩ rfl hk5 a5
          have hkw5 : Kp [xg, b] wr w5 := hKKd.then hk5 (by simp)
          have q5 := a5.cell 2
          cases xs
          · by_cases hz5 : l5.size = 0
            · have HZ5 := Lib.hid hz5
              have c5 := h5.disk.cell 0
              obtain ⟨D5, o5, o6⟩ := h5.map
              have hs5 := hsize_any xg l5 ⟨#[]⟩ false w5 a5 (by omega) (by decide)
              rw [show l5.size + (ByteArray.mk #[]).size = 0 by show l5.size + 0 = 0; omega] at hs5
              have HS5 := Lib.hid hs5
              clear hs5 hz5
              go_wp2_with fail
              refine HS5.out.mono ?_
              rintro e w6 ⟨rfl, hk6⟩
              have o7 := om_kp o5 hk6 (by simp)
              have h6 := h5.kp hk6
              have c6 := h6.disk.cell 0
              go_wp2_with (at_delete; go_loud (refine wpList_delete_own _ rfl _ _ 55 9 rfl 65 skey Try.underlying55 Rp b N D5 rfl o7 _ (kl s) rfl (skey_of hss) ?_; intro w7 o8 ht7))
              have k7 : Kp [b] w6 w7 := Kp.of_grown (S := [b]) ht7.grown (fun k hk _ => by injection hk with hk; simp [hk])
              have hN := HNX2.out w7 kt B' (m - 1) (cc - 1) (by unfold crashT; rw [if_neg HZ.out]; rfl) (by omega) (by omega) (hL') hBf' (by
                have := h6.drop o6 o8 k7
                rw [HC.out]
                unfold crash1F
                rw [if_pos ⟨rfl, HZ5.out⟩]
                rw [show cut (upd F' s ⟨xg, l5, ⟨#[]⟩, false⟩) s = cut F' s by funext s'; unfold cut upd; split <;> simp_all] at this
                exact this) ((hkw5.trans (hk6.mono (T := [xg, b]) (by simp))).then k7 (by simp))
              go_roundg (L.length - (i + 1))
              case measure => omega
              case rel => exact hN
            · have HZ5 := Lib.hid hz5
              have hs5 := hsize_any xg l5 ⟨#[]⟩ false w5 a5 (by omega) (by decide)
              rw [show l5.size + (ByteArray.mk #[]).size = l5.size from rfl] at hs5
              have HS5 := Lib.hid hs5
              have hne5 : ((l5.size : Int) == 0) = false := by rw [beq_eq_false_iff_ne]; omega
              clear hs5 hz5
              go_wp2_with fail
              refine HS5.out.mono ?_
              rintro e w6 ⟨rfl, hk6⟩
              have h6 := h5.kp hk6
              go_wp2_with fail
              have hN := HNX2.out w6 kt B' (m - 1) (cc - 1) (by unfold crashT; rw [if_neg HZ.out]; rfl) (by omega) (by omega) (hL') hBf' (by
                rw [HC.out]
                unfold crash1F
                rw [if_neg (fun h => HZ5.out h.2)]
                exact h6) (hkw5.trans (hk6.mono (T := [xg, b]) (by simp)))
              go_roundg (L.length - (i + 1))
              case measure => omega
              case rel => exact hN
          · go_wp2_with fail
            have hN := HNX2.out w5 kt B' (m - 1) (cc - 1) (by unfold crashT; rw [if_neg HZ.out]; rfl) (by omega) (by omega) (hL') hBf' (by
              rw [HC.out]
              unfold crash1F
              rw [if_neg (fun h => by cases h.1)]
              exact h5) hkw5
            go_roundg (L.length - (i + 1))
            case measure => omega
            case rel => exact hN
    · obtain rfl : i = L.length := by omega
      have hcr := HCR.out
      rw [List.drop_length] at hcr
      have hcr : F' = crashL L ks F := hcr
      subst hcr
      have c1 := hD.disk.cell 1
      have f1 := hD.disk.frozen 1
      have a1 := hD.disk.set 1 (.bool false)
      have k1 : Kp [d] wr (wr.setCell ⟨d, 1, none⟩ (.bool false)) := (Kp.rfl_ [d] wr).set (by simp) _
      have h1 := hD.own (down' := false) (fused' := fused) (left' := left) (steps' := steps) k1 a1
      have HW := Lib.hid hw
      have HLS := Lib.hid hless
      go_wp2_with fail
      refine (dfuse_any (-1) _ h1).mono ?_
      rintro e w5 ⟨rfl, h5, hk5⟩
      go_wp2_with fail
      go_end0
      refine ⟨rfl, L, HNM.out, h5, HLS.out, HW.out, ?_⟩
      have hk6 : Kp [d] wr w5 := k1.trans hk5
      exact ((KX.of (P := foot d b F) hk2 (by simp)).then hkx (fun _ h _ => h)).then (KX.of (P := foot d b F) hk6 (fun x hx => .inl (by simpa using hx))) (fun _ h _ => h)
end Go.Proofs.Ytnmogfjbbibeiaa
