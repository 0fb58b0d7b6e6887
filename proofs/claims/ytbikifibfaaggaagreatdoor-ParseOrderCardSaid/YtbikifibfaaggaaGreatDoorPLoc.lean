/- Locals. -/
import Derived.Test.YtbikifibfaaggaaGreatDoorPVars
namespace Go.Proofs.YtbikifibfaaggaaGreatDoor
open Go.RowKit Go.Shelf
open Lx (Tok Tx)
open Px (Ex Cn Sm Vr)

set_option maxHeartbeats 4000000 in
set_option maxRecDepth 100000 in
theorem locals_any (w : World) (b n o k : Nat) (ts : List Tok) (f : Nat) (h : PAt w b n ts o k) (ho2 : o ≤ 1000) (hf : ts.length + 1 ≤ f) :
    Calls Tryz.prog 82 #[pp b] w (RP VarsAt (fun _ => k) w b n o (Px.localsL f [] ts)) := by
  obtain ⟨R, hR⟩ : ∃ R, R = Px.localsL f [] ts := ⟨_, rfl⟩
  rw [← hR]
  have HR := Lib.hid hR
  have HF := Lib.hid hf
  have H0 := Lib.hid h
  have HBL := Lib.hid h.lt
  obtain ⟨iP, hP, hP0, hP1, hP2⟩ := info_parts infoVar
  clear hR hf h
  go_enter Tryz.func82, Tryz.ntmps82
  go_wp2_with fail
  go_loopw [3] (fun lv wr => ∃ (g : Nat) (l : List Vr) (r : List Tok), r.length + 1 ≤ g ∧ l.length + r.length ≤ 5000 ∧ wr.ownsRow w.heap.size 123 2 lv l.length (varCells l) ∧ PAt wr b n r o k ∧ Keeps [b] w wr ∧ Px.localsL g l r = R) (fun _ wr => leftOf wr b)
  case atStart => exact ⟨f, [], ts, HF.out, by simpa using H0.out.1.len, World.ownsRow_nil _ _ _ _, H0.out, Keeps.refl _ _, HR.out.symm⟩
  case round =>
    obtain ⟨g, l, r, hg, hll, hown, hp, hk, hd⟩ := hrel
    match g, hg, hd with
    | g + 1, hg, hd =>
    have HG := Lib.hid hg
    have HLL := Lib.hid hll
    have HOWN := Lib.hid hown
    have HP := Lib.hid hp
    have HK := Lib.hid hk
    obtain ⟨A, c, rfl⟩ := row_slice hown
    unfold Px.localsL at hd
    clear hg hll hown hp hk
    have HV := Lib.hid (fun w' (h' : PAt w' b n r o k) => sees_any w' b n o k r h' [118, 97, 114])
    have HPT := Lib.hid (fun w' (h' : PAt w' b n r o k) => sees_any w' b n o k r h' [112, 116, 114])
    by_cases hv : Px.sees r [118, 97, 114] = true
    · rw [hv] at HV
      obtain ⟨t, r1, rfl, htx⟩ := sees_cons (by simp) hv
      have hptr : Px.sees (t :: r1) [112, 116, 114] = false := sees_not htx (by simp)
      rw [hptr] at hd
      rw [if_pos (by rw [hv]; rfl)] at hd
      have hq : ((strO t.text).toList == [112, 116, 114]) = false := by rw [strO_toList, htx]; rfl
      simp only [List.tail_cons] at hd
      have HT := Lib.hid (take_any wr b n o k t r1 HP.out)
      obtain ⟨x, hx⟩ : ∃ x, x = strO t.text := ⟨_, rfl⟩
      rw [← hx] at HT hq
      have HU := Lib.hid (fun w' (h' : PAt w' b n r1 o k) => decl_rp w' b n o k r1 h' l.length 20 (by have := HLL.out; simp at this; omega) (by omega))
      have hlen := fun aa qq (h : Px.declR l.length 20 r1 = .ok aa qq) => Px.declR_len h
      obtain ⟨rr, hrr⟩ : ∃ x, x = Px.declR l.length 20 r1 := ⟨_, rfl⟩
      rw [← hrr] at HU hlen hd
      have HD := Lib.hid hd
      have HLEN := Lib.hid hlen
      clear hd hlen hrr hx htx hv hptr
      go_wp2_with fail
      refine (HV.out _ HP.out).mono ?_
      rintro e w' ⟨rfl, rfl⟩
      go_wp2_with fail
      refine (HT.out).mono ?_
      rintro e w2 ⟨rfl, h1, h2⟩
      have HP2 := Lib.hid h1
      have HK2 := Lib.hid (HK.out.trans h2 (fun _ h _ => h))
      have HOWN2 := Lib.hid (owned_keep HOWN.out h2 (fun g hg hm => by have := (rowOf HOWN.out hg).1; have := HBL.out; simp at hm; omega))
      clear h1 h2
      go_wp2_with fail
      refine (HU.out _ HP2.out).mono ?_
      intro e w4 hr
      cases rr with
      | err z r =>
        obtain ⟨rfl, h4, h5⟩ := hr
        have H4 := Lib.hid h4
        have H5 := Lib.hid (HK2.out.trans h5 (fun _ h _ => h))
        clear h4 h5
        go_wp2
        rw [← HD.out]
        exact ⟨rfl, rfl, H4.out, H5.out⟩
      | ok s1 r2 =>
        obtain ⟨_, rfl, rfl, h4, h5⟩ := hr
        have HP4 := Lib.hid h4
        have HK4 := Lib.hid (HK2.out.trans h5 (fun _ h _ => h))
        have HL4 := Lib.hid (HLEN.out s1 r2 rfl)
        have HOWN4 := Lib.hid (owned_keep HOWN2.out h5 (fun g hg hm => by have := (rowOf HOWN2.out hg).1; have := HBL.out; simp at hm; omega))
        have hR := HD.out
        simp only [Px.bind_ok] at hR
        unfold Px.want at hR
        have HPS := Lib.hid (fun w' (h' : PAt w' b n r2 o k) => pass_rp w' b n o k r2 h' [59] (by simp))
        have hlen := fun aa qq (h : Px.passR [59] r2 = .ok aa qq) => Px.passR_len (by simp) h
        obtain ⟨rq, hrq⟩ : ∃ x, x = Px.passR [59] r2 := ⟨_, rfl⟩
        rw [← hrq] at HPS hlen hR
        have HD := Lib.hid hR
        have HLEN := Lib.hid hlen
        have hl5 : l.length ≤ 100000 := by have := HLL.out; omega
        have hwsz : w.heap.size ≤ w4.heap.size := HK4.out.size
        clear hR hlen hrq h4 h5
        go_wp2_with (at_builtin; refine wp_app rfl _ _ 23 123 rfl iP (.agg #[.string .empty, .bool false]) 2 24 Tryz.underlying23 hP hP0 hP1 hP2 rfl (by decide) (by decide) (.slice A l.length c) l.length w.heap.size (varCells l) rfl HOWN4.out 1 [.string (strO s1), .bool false] rfl rfl ?qa1 hl5 hwsz ?_)
        case qa1 => intro u hu; simp at hu; rcases hu with rfl | rfl <;> rfl
        intro v' w5 hown' hk5 _ hsz5
        have HP5 := Lib.hid (HP4.out.keepHi hk5 (fun y hy => by have := (rowOf HOWN4.out (by simpa using hy)).1; have := HBL.out; omega))
        have HK5 := Lib.hid (HK4.out.hi hk5 (fun y hy => (rowOf HOWN4.out (by simpa using hy)).1))
        have hown6 : w5.ownsRow w.heap.size 123 2 v' (l ++ [(s1, false)]).length (varCells (l ++ [(s1, false)])) := by
          rw [varCells_snoc, List.length_append]
          exact hown'
        have HOWN6 := Lib.hid hown6
        obtain ⟨A6, c6, rfl⟩ := row_slice hown6
        clear hown' hk5 hown6 hl5 hwsz hsz5
        go_wp2_with fail
        refine (HPS.out _ HP5.out).mono ?_
        intro e w6 hr
        cases rq with
        | err z r =>
          obtain ⟨rfl, h4, h5⟩ := hr
          have H4 := Lib.hid h4
          have H5 := Lib.hid (HK5.out.trans h5 (fun _ h _ => h))
          clear h4 h5
          go_wp2
          rw [← HD.out]
          exact ⟨rfl, rfl, H4.out, H5.out⟩
        | ok u1 r3 =>
          obtain ⟨_, rfl, rfl, h4, h5⟩ := hr
          have HP6 := Lib.hid h4
          have HK6 := Lib.hid (HK5.out.trans h5 (fun _ h _ => h))
          have HL6 := Lib.hid (HLEN.out u1 r3 rfl)
          have HOWN7 := Lib.hid (owned_keep HOWN6.out h5 (fun g hg hm => by have := (rowOf HOWN6.out hg).1; have := HBL.out; simp at hm; omega))
          have hR := HD.out
          simp only [Px.bind_ok] at hR
          have HD := Lib.hid hR
          clear hR h4 h5
          go_wp2_with fail
          go_roundw
          · exact ⟨g, l ++ [(s1, false)], r3, by have := HL4.out; have := HL6.out; have := HG.out; simp at this; omega, by have := HL4.out; have := HL6.out; have := HLL.out; simp at this ⊢; omega, (by have h9 := HOWN7.out; simp only [List.length_append, List.length_cons, List.length_nil, Nat.zero_add] at h9 ⊢; exact h9), HP6.out, HK6.out, HD.out⟩
          · rw [HP6.out.leftOf, HP.out.leftOf]
            have := HL4.out; have := HL6.out; simp; omega
    · replace hv : Px.sees r [118, 97, 114] = false := by simpa using hv
      by_cases hp : Px.sees r [112, 116, 114] = true
      · rw [hv] at HV
        rw [hp] at HPT
        obtain ⟨t, r1, rfl, htx⟩ := sees_cons (by simp) hp
        rw [hp] at hd
        rw [if_pos (by simp)] at hd
        have hq : ((strO t.text).toList == [112, 116, 114]) = true := by rw [strO_toList, htx]; rfl
        simp only [List.tail_cons] at hd
        have HT := Lib.hid (take_any wr b n o k t r1 HP.out)
        obtain ⟨x, hx⟩ : ∃ x, x = strO t.text := ⟨_, rfl⟩
        rw [← hx] at HT hq
        have HU := Lib.hid (fun w' (h' : PAt w' b n r1 o k) => decl_rp w' b n o k r1 h' l.length 20 (by have := HLL.out; simp at this; omega) (by omega))
        have hlen := fun aa qq (h : Px.declR l.length 20 r1 = .ok aa qq) => Px.declR_len h
        obtain ⟨rr, hrr⟩ : ∃ x, x = Px.declR l.length 20 r1 := ⟨_, rfl⟩
        rw [← hrr] at HU hlen hd
        have HD := Lib.hid hd
        have HLEN := Lib.hid hlen
        clear hd hlen hrr hx htx hv hp
        go_wp2_with fail
        refine (HV.out _ HP.out).mono ?_
        rintro e w' ⟨rfl, rfl⟩
        go_wp2_with fail
        refine (HPT.out _ HP.out).mono ?_
        rintro e w' ⟨rfl, rfl⟩
        go_wp2_with fail
        refine (HT.out).mono ?_
        rintro e w2 ⟨rfl, h1, h2⟩
        have HP2 := Lib.hid h1
        have HK2 := Lib.hid (HK.out.trans h2 (fun _ h _ => h))
        have HOWN2 := Lib.hid (owned_keep HOWN.out h2 (fun g hg hm => by have := (rowOf HOWN.out hg).1; have := HBL.out; simp at hm; omega))
        clear h1 h2
        go_wp2_with fail
        refine (HU.out _ HP2.out).mono ?_
        intro e w4 hr
        cases rr with
        | err z r =>
          obtain ⟨rfl, h4, h5⟩ := hr
          have H4 := Lib.hid h4
          have H5 := Lib.hid (HK2.out.trans h5 (fun _ h _ => h))
          clear h4 h5
          go_wp2
          rw [← HD.out]
          exact ⟨rfl, rfl, H4.out, H5.out⟩
        | ok s1 r2 =>
          obtain ⟨_, rfl, rfl, h4, h5⟩ := hr
          have HP4 := Lib.hid h4
          have HK4 := Lib.hid (HK2.out.trans h5 (fun _ h _ => h))
          have HL4 := Lib.hid (HLEN.out s1 r2 rfl)
          have HOWN4 := Lib.hid (owned_keep HOWN2.out h5 (fun g hg hm => by have := (rowOf HOWN2.out hg).1; have := HBL.out; simp at hm; omega))
          have hR := HD.out
          simp only [Px.bind_ok] at hR
          unfold Px.want at hR
          have HPS := Lib.hid (fun w' (h' : PAt w' b n r2 o k) => pass_rp w' b n o k r2 h' [59] (by simp))
          have hlen := fun aa qq (h : Px.passR [59] r2 = .ok aa qq) => Px.passR_len (by simp) h
          obtain ⟨rq, hrq⟩ : ∃ x, x = Px.passR [59] r2 := ⟨_, rfl⟩
          rw [← hrq] at HPS hlen hR
          have HD := Lib.hid hR
          have HLEN := Lib.hid hlen
          have hl5 : l.length ≤ 100000 := by have := HLL.out; omega
          have hwsz : w.heap.size ≤ w4.heap.size := HK4.out.size
          clear hR hlen hrq h4 h5
          go_wp2_with (at_builtin; refine wp_app rfl _ _ 23 123 rfl iP (.agg #[.string .empty, .bool false]) 2 24 Tryz.underlying23 hP hP0 hP1 hP2 rfl (by decide) (by decide) (.slice A l.length c) l.length w.heap.size (varCells l) rfl HOWN4.out 1 [.string (strO s1), .bool true] rfl rfl ?qa1 hl5 hwsz ?_)
          case qa1 => intro u hu; simp at hu; rcases hu with rfl | rfl <;> rfl
          intro v' w5 hown' hk5 _ hsz5
          have HP5 := Lib.hid (HP4.out.keepHi hk5 (fun y hy => by have := (rowOf HOWN4.out (by simpa using hy)).1; have := HBL.out; omega))
          have HK5 := Lib.hid (HK4.out.hi hk5 (fun y hy => (rowOf HOWN4.out (by simpa using hy)).1))
          have hown6 : w5.ownsRow w.heap.size 123 2 v' (l ++ [(s1, true)]).length (varCells (l ++ [(s1, true)])) := by
            rw [varCells_snoc, List.length_append]
            exact hown'
          have HOWN6 := Lib.hid hown6
          obtain ⟨A6, c6, rfl⟩ := row_slice hown6
          clear hown' hk5 hown6 hl5 hwsz hsz5
          go_wp2_with fail
          refine (HPS.out _ HP5.out).mono ?_
          intro e w6 hr
          cases rq with
          | err z r =>
            obtain ⟨rfl, h4, h5⟩ := hr
            have H4 := Lib.hid h4
            have H5 := Lib.hid (HK5.out.trans h5 (fun _ h _ => h))
            clear h4 h5
            go_wp2
            rw [← HD.out]
            exact ⟨rfl, rfl, H4.out, H5.out⟩
          | ok u1 r3 =>
            obtain ⟨_, rfl, rfl, h4, h5⟩ := hr
            have HP6 := Lib.hid h4
            have HK6 := Lib.hid (HK5.out.trans h5 (fun _ h _ => h))
            have HL6 := Lib.hid (HLEN.out u1 r3 rfl)
            have HOWN7 := Lib.hid (owned_keep HOWN6.out h5 (fun g hg hm => by have := (rowOf HOWN6.out hg).1; have := HBL.out; simp at hm; omega))
            have hR := HD.out
            simp only [Px.bind_ok] at hR
            have HD := Lib.hid hR
            clear hR h4 h5
            go_wp2_with fail
            go_roundw
            · exact ⟨g, l ++ [(s1, true)], r3, by have := HL4.out; have := HL6.out; have := HG.out; simp at this; omega, by have := HL4.out; have := HL6.out; have := HLL.out; simp at this ⊢; omega, (by have h9 := HOWN7.out; simp only [List.length_append, List.length_cons, List.length_nil, Nat.zero_add] at h9 ⊢; exact h9), HP6.out, HK6.out, HD.out⟩
            · rw [HP6.out.leftOf, HP.out.leftOf]
              have := HL4.out; have := HL6.out; simp; omega
      · replace hp : Px.sees r [112, 116, 114] = false := by simpa using hp
        rw [hv] at HV
        rw [hp] at HPT
        rw [hv, hp, if_neg (by simp)] at hd
        have HD := Lib.hid hd
        clear hv hp hd
        go_wp2_with fail
        refine (HV.out _ HP.out).mono ?_
        rintro e w' ⟨rfl, rfl⟩
        go_wp2_with fail
        refine (HPT.out _ HP.out).mono ?_
        rintro e w' ⟨rfl, rfl⟩
        go_wp2_with fail
        go_ret
        rw [← HD.out]
        have hbl := HBL.out
        exact ⟨_, rfl, owned_mono HOWN.out (by omega), HP.out, HK.out⟩
end Go.Proofs.YtbikifibfaaggaaGreatDoor
