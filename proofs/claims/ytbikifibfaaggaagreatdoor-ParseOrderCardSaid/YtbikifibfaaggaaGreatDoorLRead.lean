/- What a piece is. -/
import Derived.Test.YtbikifibfaaggaaGreatDoorLLex
namespace Go.Proofs.YtbikifibfaaggaaGreatDoor
open Go.RowKit Go.Shelf

set_option maxHeartbeats 2000000 in
theorem number_any (w : World) (l : List UInt8) (b : UInt8) (t : List UInt8) (hl : l = b :: t) (hd : Lx.digit b = true) (hn : l.length ≤ 5000) (he : ErrAt w) :
    Calls Tryz.prog 143 #[.string (strO l)] w fun e w' => e = .returned (.int .i64 ((Lx.num l : Nat) : Int)) ∧ Keeps [] w w' := by
  have HNUM := Lib.hid (show Lx.num l = if 9223372036854775807 < Lx.val (l.takeWhile Lx.digit) then 53 else if (l.takeWhile Lx.digit).length < l.length ∨ (l.head? = some 48 ∧ 1 < (l.takeWhile Lx.digit).length) then 50 else 0 from rfl)
  obtain ⟨r, hr⟩ : ∃ r, r = Lx.num l := ⟨_, rfl⟩
  rw [← hr] at HNUM ⊢
  clear hr
  have htl := (List.takeWhile_prefix (l := l) Lx.digit).length_le
  have HT := Lib.hid (trimLeft_at w l)
  have HS := Lib.hid (fun w' => trimSuffix_at w' l hn)
  have hne : l.takeWhile Lx.digit ≠ [] := by rw [hl, List.takeWhile_cons_of_pos hd]; simp
  have hall := Lx.takeWhile_all l
  have hlen : (l.takeWhile Lx.digit).length + (l.dropWhile Lx.digit).length = l.length := by rw [← List.length_append, List.takeWhile_append_dropWhile]
  have hh : (l.takeWhile Lx.digit)[0]? = some b := by rw [hl, List.takeWhile_cons_of_pos hd]; rfl
  have hh2 : l.head? = some b := by rw [hl]; rfl
  rw [hh2] at HNUM
  obtain ⟨tw, htw⟩ : ∃ x, x = l.takeWhile Lx.digit := ⟨_, rfl⟩
  obtain ⟨dw, hdw⟩ : ∃ x, x = l.dropWhile Lx.digit := ⟨_, rfl⟩
  rw [← htw] at hne hall hlen hh HNUM htl
  rw [← hdw] at HT hlen
  have HS' : Hid (∀ w', Calls Tryz.prog 176 #[.string (strO l), .string (strO dw)] w' fun e w2 => e = .returned (.string (strO tw)) ∧ w' = w2) := Lib.hid (by rw [htw, hdw]; exact HS.out)
  have HLEN := Lib.hid hlen
  have HPN := Lib.hid (fun w' (h1 : ErrAt w') (h2 : 9223372036854775807 < Lx.val tw) => parse_no w' tw h1 (by omega) hall h2)
  have HPY := Lib.hid (fun w' (h2 : Lx.val tw ≤ 9223372036854775807) => parse_yes w' tw (by omega) hne hall h2)
  have HE := Lib.hid he
  clear hl HS htw hdw hall hlen hh2 he hd
  obtain ⟨n, hnn⟩ : ∃ n, n = l.length := ⟨_, rfl⟩
  rw [← hnn] at HNUM HLEN htl hn
  obtain ⟨s, hs⟩ : ∃ s, s = strO l := ⟨_, rfl⟩
  rw [← hs] at HT HS' ⊢
  obtain ⟨v, hv⟩ : ∃ s, s = strO tw := ⟨_, rfl⟩
  have iv := idx0 hv hh
  have hvl : v.toList = tw := by rw [hv, strO_toList]
  have hvs : v.size = tw.length := by rw [hv, strO_len]
  rw [← hv] at HS' HPN HPY
  obtain ⟨u, hu⟩ : ∃ s, s = strO dw := ⟨_, rfl⟩
  have hul : u.toList = dw := by rw [hu, strO_toList]
  rw [← hu] at HT HS'
  have HVL := Lib.hid hvl
  have HUL := Lib.hid hul
  have HNE := Lib.hid hne
  have HH := Lib.hid hh
  have HVS := Lib.hid hvs
  have htn := htl
  clear hnn hs hv hu hvl hul hne hh hvs htl
  by_cases hval : 9223372036854775807 < Lx.val tw
  · have HPN' := Lib.hid (fun w' h1 => HPN.out w' h1 hval)
    have HR := HNUM.out
    rw [if_pos hval] at HR
    clear hval HPN HPY HNUM
    subst HR
    go_enter Tryz.func143, Tryz.ntmps143
    go_wp2_with fail
    refine (HT.out).mono ?_
    rintro e w1 ⟨rfl, hk⟩
    have HK := Lib.hid hk
    clear hk
    go_wp2_with fail
    refine (HS'.out w1).mono ?_
    rintro e w' ⟨rfl, rfl⟩
    go_wp2_with fail
    refine (HPN'.out w1 (HE.out.keep HK.out)).mono ?_
    rintro e w2 ⟨n1, t1, p1, rfl, hk2⟩
    have HK2 := Lib.hid (HK.out.trans hk2 (by simp))
    clear hk2
    go_wp2_with fail
    go_ret
    exact ⟨rfl, HK2.out⟩
  · have HPY' := Lib.hid (fun w' => HPY.out w' (by omega))
    have HR := Lib.hid (HNUM.out.trans (if_neg hval))
    obtain ⟨m, hm⟩ : ∃ m, m = Lx.val tw := ⟨_, rfl⟩
    rw [← hm] at HPY'
    clear hval HPN HPY HNUM hm
    go_enter Tryz.func143, Tryz.ntmps143
    go_wp2_with fail
    refine (HT.out).mono ?_
    rintro e w1 ⟨rfl, hk⟩
    have HK := Lib.hid hk
    clear hk
    go_wp2_with fail
    refine (HS'.out w1).mono ?_
    rintro e w' ⟨rfl, rfl⟩
    go_wp2_with fail
    refine (HPY'.out w1).mono ?_
    rintro e w2 ⟨rfl, hk2⟩
    have HK2 := Lib.hid (HK.out.trans hk2 (by simp))
    clear hk2
    go_wp2_with fail
    · rename_i h1 h2 h3
      go_ret
      have hb : b = 48 := UInt8.toNat_inj.1 (by simp; omega)
      have hv1 : tw ≠ [48] := fun h => by rw [HVL.out, h] at h3; simp at h3
      have h1t : 1 < tw.length := by
        have h0 := HH.out
        match tw, h0, hv1 with
        | [c], h0, hv1 => simp at h0; subst h0; exact absurd (by rw [hb]) hv1
        | _ :: _ :: _, _, _ => simp
      refine ⟨?_, HK2.out⟩
      rw [HR.out, if_pos (.inr ⟨by rw [hb], h1t⟩)]; rfl
    · rename_i h1 h2 h3
      go_ret
      have hv1 : tw = [48] := by rw [HVL.out] at h3; simpa using h3
      have hd0 : dw = [] := by rw [← HUL.out]; exact h1
      have hlen := HLEN.out
      rw [hv1, hd0] at hlen
      simp at hlen
      refine ⟨?_, HK2.out⟩
      rw [HR.out, if_neg (by rw [hv1]; simp; omega)]; rfl
    · rename_i h1 h2
      go_ret
      have hb : ¬ (some b = some (48 : UInt8)) := fun h => h2 (by have := Option.some.inj h; rw [this]; rfl)
      have hd0 : dw = [] := by rw [← HUL.out]; exact h1
      have hlen := HLEN.out
      rw [hd0] at hlen
      simp at hlen
      refine ⟨?_, HK2.out⟩
      rw [HR.out, if_neg (by rintro (h | ⟨h, _⟩); omega; exact hb h)]; rfl
    · rename_i h1
      go_ret
      have hd0 : dw ≠ [] := by rw [← HUL.out]; exact h1
      have := List.length_pos_iff.2 hd0
      have hlen := HLEN.out
      refine ⟨?_, HK2.out⟩
      rw [HR.out, if_pos (.inl (by omega))]; rfl

def kindI (k : Option Nat) : Int := match k with | none => -1 | some k => (k : Int)
set_option maxHeartbeats 2000000 in
theorem read_any (w : World) (l : List UInt8) (h0 : l ≠ []) (hn : l.length ≤ 5000) (he : ErrAt w) :
    Calls Tryz.prog 109 #[.string (strO l)] w fun e w' => e = .returned (.tuple #[.int .i64 (kindI (Lx.judge l).1), .int .i64 (((Lx.judge l).2 : Nat) : Int)]) ∧ Keeps [] w w' := by
  match l, h0 with
  | b :: t, _ =>
    have HJ := Lib.hid (show Lx.judge (b :: t) = if b == 35 || Lx.blank b then (none, 0) else if Lx.digit b then (some 1, Lx.num (b :: t)) else if Lx.letter b then (some 0, if 32 < (b :: t).length then 53 else 0) else if Lx.isOp (b :: t) then (some 2, 0) else (none, 50) from rfl)
    have HNUM := Lib.hid (fun h => number_any w (b :: t) b t rfl h hn he)
    have HNAME := Lib.hid (name_any w (b :: t) hn)
    have HO := Lib.hid (operator_any w (b :: t))
    have HW := Lib.hid (inWord_any w b)
    have HD := Lib.hid (digit_any w b)
    have HI := Lib.hid (indexByte_at w b)
    obtain ⟨s, hs⟩ : ∃ s, s = strO (b :: t) := ⟨_, rfl⟩
    have i0 := idx0 hs (b := b) rfl
    have hsz : 0 < s.size := by rw [hs, strO_len]; simp
    rw [← hs] at HNUM HNAME HO ⊢
    obtain ⟨k, hk⟩ : ∃ k, k = kindI (Lx.judge (b :: t)).1 := ⟨_, rfl⟩
    obtain ⟨r, hr⟩ : ∃ k, k = (((Lx.judge (b :: t)).2 : Nat) : Int) := ⟨_, rfl⟩
    rw [← hk, ← hr]
    have HKR := Lib.hid (And.intro hk hr)
    clear hs hk hr he
    have hgap : (b == 35) = false → (b == 35 || Lx.blank b) = Lx.blank b := fun h => by rw [h]; rfl
    by_cases hb : (b == 35) = true
    · have e1 : (((b.toNat : Nat) : Int) == 35) = true := by rw [← hb]; exact i8eq b 35 (by omega)
      have hj := HJ.out
      rw [if_pos (by rw [hb]; rfl)] at hj
      obtain ⟨rfl, rfl⟩ := HKR.out
      rw [hj]
      clear hj HJ HNUM HKR
      go_enter Tryz.func109, Tryz.ntmps109
      go_wp2_with fail
      go_ret2
      exact ⟨rfl, Keeps.refl _ _⟩
    · have hb' : (b == 35) = false := by simpa using hb
      have e1 : (((b.toNat : Nat) : Int) == 35) = false := by rw [show (((b.toNat : Nat) : Int) == 35) = (b == 35) from i8eq b 35 (by omega)]; exact hb'
      have hj := HJ.out
      rw [hgap hb'] at hj
      have hbl := indexByte_blank b
      by_cases hbk : Lx.blank b = true
      · rw [if_pos hbk] at hj
        rw [hbk] at hbl
        obtain ⟨rfl, rfl⟩ := HKR.out
        rw [hj]
        obtain ⟨i, hi⟩ : ∃ i, i = Lib.indexByte [32, 9, 13, 10] b := ⟨_, rfl⟩
        rw [← hi] at HI hbl
        clear hj HJ HNUM HKR hi hgap
        go_enter Tryz.func109, Tryz.ntmps109
        go_wp2_with fail
        refine (HI.out).mono ?_
        rintro e w' ⟨rfl, rfl⟩
        go_wp2_with fail
        go_ret2
        exact ⟨rfl, Keeps.refl _ _⟩
      · rw [if_neg hbk] at hj
        have hbk' : Lx.blank b = false := by simpa using hbk
        rw [hbk'] at hbl
        obtain ⟨i, hi⟩ : ∃ i, i = Lib.indexByte [32, 9, 13, 10] b := ⟨_, rfl⟩
        rw [← hi] at HI hbl
        by_cases hdg : Lx.digit b = true
        · rw [if_pos hdg] at hj
          obtain ⟨rfl, rfl⟩ := HKR.out
          rw [hj]
          have HNUM' := Lib.hid (HNUM.out hdg)
          rw [hdg] at HD
          obtain ⟨m, hm⟩ : ∃ m, m = Lx.num (b :: t) := ⟨_, rfl⟩
          rw [← hm] at HNUM' ⊢
          clear hj HJ HNUM HKR hi hgap hm
          go_enter Tryz.func109, Tryz.ntmps109
          go_wp2_with fail
          refine (HI.out).mono ?_
          rintro e w' ⟨rfl, rfl⟩
          go_wp2_with fail
          refine (HD.out).mono ?_
          rintro e w' ⟨rfl, rfl⟩
          go_wp2_with fail
          refine (HNUM'.out).mono ?_
          rintro e w1 ⟨rfl, hk⟩
          have HK := Lib.hid hk
          clear hk
          go_wp2_with fail
          go_ret2
          exact ⟨rfl, HK.out⟩
        · rw [if_neg hdg] at hj
          have hdg' : Lx.digit b = false := by simpa using hdg
          have hw : Lx.inWord b = Lx.letter b := by unfold Lx.inWord; rw [hdg']; simp
          rw [hdg'] at HD
          rw [hw] at HW
          by_cases hlt : Lx.letter b = true
          · rw [if_pos hlt] at hj
            obtain ⟨rfl, rfl⟩ := HKR.out
            rw [hj]
            rw [hlt] at HW
            have hc : (((if 32 < (b :: t).length then 53 else 0 : Nat)) : Int) = if 32 < (b :: t).length then 53 else 0 := by split <;> rfl
            have HC := Lib.hid hc
            obtain ⟨m, hm⟩ : ∃ m : Int, m = if 32 < (b :: t).length then 53 else 0 := ⟨_, rfl⟩
            show Calls _ _ _ _ (fun e w' => e = .returned (.tuple #[.int .i64 0, .int .i64 (((if 32 < (b :: t).length then 53 else 0 : Nat)) : Int)]) ∧ Keeps [] w w')
            rw [HC.out]
            rw [← hm] at HNAME ⊢
            clear hj HJ HNUM HKR hi hgap hm hc HC
            go_enter Tryz.func109, Tryz.ntmps109
            go_wp2_with fail
            refine (HI.out).mono ?_
            rintro e w' ⟨rfl, rfl⟩
            go_wp2_with fail
            refine (HD.out).mono ?_
            rintro e w' ⟨rfl, rfl⟩
            go_wp2_with fail
            refine (HW.out).mono ?_
            rintro e w' ⟨rfl, rfl⟩
            go_wp2_with fail
            refine (HNAME.out).mono ?_
            rintro e w' ⟨rfl, rfl⟩
            go_wp2_with fail
            go_ret2
            exact ⟨rfl, Keeps.refl _ _⟩
          · rw [if_neg hlt] at hj
            have hlt' : Lx.letter b = false := by simpa using hlt
            rw [hlt'] at HW
            by_cases hop : Lx.isOp (b :: t) = true
            · rw [if_pos hop] at hj
              obtain ⟨rfl, rfl⟩ := HKR.out
              rw [hj]
              rw [hop] at HO
              clear hj HJ HNUM HKR hi hgap hop
              go_enter Tryz.func109, Tryz.ntmps109
              go_wp2_with fail
              refine (HI.out).mono ?_
              rintro e w' ⟨rfl, rfl⟩
              go_wp2_with fail
              refine (HD.out).mono ?_
              rintro e w' ⟨rfl, rfl⟩
              go_wp2_with fail
              refine (HW.out).mono ?_
              rintro e w' ⟨rfl, rfl⟩
              go_wp2_with fail
              refine (HO.out).mono ?_
              rintro e w' ⟨rfl, rfl⟩
              go_wp2_with fail
              go_ret2
              exact ⟨rfl, Keeps.refl _ _⟩
            · rw [if_neg hop] at hj
              have hop' : Lx.isOp (b :: t) = false := by simpa using hop
              obtain ⟨rfl, rfl⟩ := HKR.out
              rw [hj]
              rw [hop'] at HO
              clear hj HJ HNUM HKR hi hgap hop hop'
              go_enter Tryz.func109, Tryz.ntmps109
              go_wp2_with fail
              refine (HI.out).mono ?_
              rintro e w' ⟨rfl, rfl⟩
              go_wp2_with fail
              refine (HD.out).mono ?_
              rintro e w' ⟨rfl, rfl⟩
              go_wp2_with fail
              refine (HW.out).mono ?_
              rintro e w' ⟨rfl, rfl⟩
              go_wp2_with fail
              refine (HO.out).mono ?_
              rintro e w' ⟨rfl, rfl⟩
              go_wp2_with fail
              go_ret2
              exact ⟨rfl, Keeps.refl _ _⟩
end Go.Proofs.YtbikifibfaaggaaGreatDoor
