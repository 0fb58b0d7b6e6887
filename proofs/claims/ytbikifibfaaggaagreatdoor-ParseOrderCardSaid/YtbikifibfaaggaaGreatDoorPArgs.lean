/- The list of a call's arguments. -/
import Derived.Test.YtbikifibfaaggaaGreatDoorPIdx
namespace Go.Proofs.YtbikifibfaaggaaGreatDoor
open Go.RowKit Go.Shelf
open Lx (Tok Tx)
open Px (Ex Cn Sm)

set_option maxHeartbeats 4000000 in
set_option maxRecDepth 100000 in
theorem args_any (w : World) (b n o k : Nat) (ts : List Tok) (f : Nat) (h : PAt w b n ts o k) (ho2 : o ≤ 1000) (hf : 4 * ts.length + 6 ≤ f) :
    Calls Tryz.prog 210 #[pp b, .func (.func 211) #[pp b] #[]] w (RP ArgsAt (fun _ => k) w b n o (Px.args f o ts)) := by
  obtain ⟨R, hR⟩ : ∃ R, R = Px.args f o ts := ⟨_, rfl⟩
  rw [← hR]
  unfold Px.args Px.want at hR
  have HF := Lib.hid hf
  have HBL := Lib.hid h.lt
  have HLN := Lib.hid h.1.len
  have HC := Lib.hid (pass_rp w b n o k ts h [40] (by simp))
  have hlen := fun a r (h : Px.passR [40] ts = .ok a r) => Px.passR_len (by simp) h
  obtain ⟨rr, hrr⟩ : ∃ x, x = Px.passR [40] ts := ⟨_, rfl⟩
  rw [← hrr] at HC hlen hR
  have HR := Lib.hid hR
  have HLEN := Lib.hid hlen
  obtain ⟨iP, hP, hP0, hP1, hP2⟩ := info_parts infoArg
  clear hR hlen hrr h hf
  go_enter Tryz.func210, Tryz.ntmps210
  go_wp2_with fail
  refine (HC.out).mono ?_
  intro e w1 hr
  cases rr with
  | err z r =>
    obtain ⟨rfl, h4, h5⟩ := hr
    have H4 := Lib.hid h4
    have H5 := Lib.hid h5
    clear h4 h5
    go_wp2
    rw [HR.out]
    exact ⟨rfl, rfl, H4.out, H5.out⟩
  | ok a1 r1 =>
    obtain ⟨v1, rfl, h3, h4, h5⟩ := hr
    obtain rfl : v1 = .tuple #[] := h3
    have HL1 := Lib.hid (HLEN.out a1 r1 rfl)
    have hR := HR.out
    simp only [Px.bind_ok] at hR
    have HR := Lib.hid hR
    have HW1 := Lib.hid h4
    have HK1 := Lib.hid h5
    clear hR h4 h5
    go_wp2_with fail
    go_loopw [5] (fun lv wr => ∃ (g : Nat) (l : List Ex) (r : List Tok) (vs : List Value), r.length + 1 ≤ g ∧ r.length < ts.length ∧ l.length + r.length ≤ 5000 ∧ wr.ownsRow w.heap.size 170 3 lv l.length (argCells vs) ∧ ExsAt wr b l vs ∧ PAt wr b n r o k ∧ Keeps [b] w wr ∧ Px.argsL f o g l r = R) (fun _ wr => leftOf wr b)
    case atStart => exact ⟨f, [], r1, [], by have := HF.out; have := HL1.out; omega, HL1.out, by have := HW1.out.1.len; simpa using this, World.ownsRow_nil _ _ _ _, rfl, HW1.out, HK1.out, HR.out.symm⟩
    case round =>
      obtain ⟨g, l, r, vs, hg, hrl, hll, hown, hex, hp, hk, hd⟩ := hrel
      match g, hg with
      | g + 1, hg =>
      have HG := Lib.hid hg
      have HRL := Lib.hid hrl
      have HLL := Lib.hid hll
      have HOWN := Lib.hid hown
      have HEX := Lib.hid hex
      have HP := Lib.hid hp
      have HK := Lib.hid hk
      obtain ⟨A, c, rfl⟩ := row_slice hown
      unfold Px.argsL at hd
      clear hg hrl hll hown hex hp hk
      by_cases hs : Px.sees r [41] = true
      · rw [if_pos hs] at hd
        have HD := Lib.hid hd
        have HS := Lib.hid (fun w' (h' : PAt w' b n r o k) => sees_any w' b n o k r h' [41])
        rw [hs] at HS
        have HY := Lib.hid (fun w' (h' : PAt w' b n r o k) => pass_yes w' b n o k r h' [41] (by simp) hs)
        clear hs hd
        go_wp2_with fail
        refine (HS.out _ HP.out).mono ?_
        rintro e w' ⟨rfl, rfl⟩
        go_wp2_with fail
        refine (HY.out _ HP.out).mono ?_
        rintro e w3 ⟨rfl, h6, h7⟩
        have H6 := Lib.hid h6
        have H7 := Lib.hid h7
        clear h6 h7
        go_wp2_with fail
        go_ret
        rw [← HD.out]
        have hbl := HBL.out
        exact ⟨_, rfl, ⟨vs, (owned_mono (owned_keep HOWN.out H7.out (fun g hg hm => by have := (rowOf HOWN.out hg).1; simp at hm; omega)) (by omega)), HEX.out.keepT H7.out (by simp)⟩, H6.out, HK.out.trans H7.out (fun _ h _ => h)⟩
      · have hs' : Px.sees r [41] = false := by simpa using hs
        rw [if_neg hs] at hd
        have HS := Lib.hid (fun w' (h' : PAt w' b n r o k) => sees_any w' b n o k r h' [41])
        rw [hs'] at HS
        clear hs hs'
        by_cases hl0 : l.length = 0
        · rw [if_pos hl0] at hd
          obtain rfl : l = [] := List.eq_nil_of_length_eq_zero hl0
          have HD := Lib.hid hd
          clear hd hl0
          have HU := Lib.hid (fun w' (h' : PAt w' b n (r) o k) (j : Int) => arg_any w' b n o k (r) f h' ho2 (by have := HF.out; have := HRL.out;  omega) j)
          have hlen := fun aa qq (h : Px.sum f o (r) = .ok aa qq) => Px.sum_len h
          have hR := HD.out
          obtain ⟨rr, hrr⟩ : ∃ x, x = Px.sum f o (r) := ⟨_, rfl⟩
          rw [← hrr] at HU hlen hR
          have HD := Lib.hid hR
          have HLEN := Lib.hid hlen
          clear hR hlen hrr
          go_wp2_with fail
          refine (HS.out _ HP.out).mono ?_
          rintro e w' ⟨rfl, rfl⟩
          go_wp2_with fail
          refine (HU.out _ HP.out _).mono ?_
          intro e w4 hr
          cases rr with
          | err z r =>
            obtain ⟨rfl, h4, h5⟩ := hr
            have H4 := Lib.hid h4
            have H5 := Lib.hid (HK.out.trans h5 (fun _ h _ => h))
            clear h4 h5
            go_wp2
            rw [← HD.out]
            exact ⟨rfl, rfl, H4.out, H5.out⟩
          | ok e1 r2 =>
            obtain ⟨v4, rfl, ⟨ve, hve, h3⟩, h4, h5⟩ := hr
            subst hve
            obtain ⟨x4, rfl⟩ := h3.ptr
            have HEE := Lib.hid h3
            have HP4 := Lib.hid h4
            have HL4 := Lib.hid (HLEN.out e1 r2 rfl)
            have HK4 := Lib.hid (HK.out.trans h5 (fun _ h _ => h))
            have HOWN4 := Lib.hid (owned_keep HOWN.out h5 (fun g hg hm => by have := (rowOf HOWN.out hg).1; have := HBL.out; simp at hm; omega))
            have HEX4 := Lib.hid (HEX.out.keepT h5 (by simp))
            have hR := HD.out
            simp only [Px.bind_ok] at hR
            have HD := Lib.hid hR
            have hl5 : 0 ≤ 100000 := by omega
            have hwsz : w.heap.size ≤ w4.heap.size := HK4.out.size
            clear hR h3 h4 h5
            go_wp2_with (at_builtin; refine wp_app rfl _ _ 58 170 rfl iP (.agg #[.bool false, .string .empty, .pointer none]) 3 32 Tryz.underlying58 hP hP0 hP1 hP2 rfl (by decide) (by decide) (.slice A 0 c) 0 w.heap.size (argCells vs) rfl HOWN4.out 1 [.bool false, .string ⟨#[]⟩, .pointer (some ⟨x4, 0, none⟩)] rfl rfl ?qa1 hl5 hwsz ?_)
            case qa1 => intro u hu; simp at hu; rcases hu with rfl | rfl | rfl <;> rfl
            intro v' w5 hown' hk5 _ hsz5
            have HP5 := Lib.hid (HP4.out.keepHi hk5 (fun y hy => by have := (rowOf HOWN4.out (by simpa using hy)).1; have := HBL.out; omega))
            have HK5 := Lib.hid (HK4.out.hi hk5 (fun y hy => (rowOf HOWN4.out (by simpa using hy)).1))
            have hnt : ∀ y ∈ (Value.slice A 0 c).ownBlock.toList, y ≤ b ∨ NotT w4 y 74 := fun y hy => .inr (by
              obtain ⟨_, cur, hcur⟩ := rowOf HOWN4.out (by simpa using hy)
              exact NotT.of hcur (by decide))
            have HEX5 := Lib.hid ((HEX4.out.keepT hk5 hnt).snoc (HEE.out.keepT hk5 hnt))
            have hown6 : w5.ownsRow w.heap.size 170 3 v' (([] : List Ex) ++ [e1]).length (argCells (vs ++ [.pointer (some ⟨x4, 0, none⟩)])) := by
              rw [argCells_snoc, List.length_append]
              exact hown'
            have HOWN6 := Lib.hid hown6
            clear hown' hk5 hown6 hnt hl5 hwsz
            go_wp2_with fail
            go_roundw
            · exact ⟨g, ([] : List Ex) ++ [e1], r2, vs ++ [.pointer (some ⟨x4, 0, none⟩)], by have := HL4.out; have := HG.out;  omega, by have := HL4.out; have := HRL.out;  omega, by have := HL4.out; have := HLL.out; simp at this ⊢; omega, HOWN6.out, HEX5.out, HP5.out, HK5.out, HD.out⟩
            · rw [HP5.out.leftOf, HP.out.leftOf]
              have := HL4.out;  omega
        · rw [if_neg hl0] at hd
          have hc0 : decide ((0 : Int) < ((l.length : Nat) : Int)) = true := decide_eq_true (by omega)
          have HC2 := Lib.hid (fun w' (h' : PAt w' b n r o k) => pass_rp w' b n o k r h' [44] (by simp))
          have hlen := fun a r3 (h : Px.passR [44] r = .ok a r3) => Px.passR_len (by simp) h
          obtain ⟨rr0, hrr⟩ : ∃ x, x = Px.passR [44] r := ⟨_, rfl⟩
          unfold Px.want at hd
          rw [← hrr] at HC2 hlen hd
          have HD := Lib.hid hd
          have HLEN0 := Lib.hid hlen
          clear hd hlen hrr
          go_wp2_with fail
          refine (HS.out _ HP.out).mono ?_
          rintro e w' ⟨rfl, rfl⟩
          go_wp2_with fail
          refine (HC2.out _ HP.out).mono ?_
          intro e w3 hr
          cases rr0 with
          | err z r =>
            obtain ⟨rfl, h4, h5⟩ := hr
            have H4 := Lib.hid h4
            have H5 := Lib.hid (HK.out.trans h5 (fun _ h _ => h))
            clear h4 h5
            go_wp2
            rw [← HD.out]
            exact ⟨rfl, rfl, H4.out, H5.out⟩
          | ok a3 r3 =>
            obtain ⟨v3, rfl, h3, h4, h5⟩ := hr
            obtain rfl : v3 = .tuple #[] := h3
            have HL3 := Lib.hid (HLEN0.out a3 r3 rfl)
            have hR := HD.out
            simp only [Px.bind_ok] at hR
            have HD := Lib.hid hR
            have HP3 := Lib.hid h4
            have HK3 := Lib.hid (HK.out.trans h5 (fun _ h _ => h))
            have HOWN3 := Lib.hid (owned_keep HOWN.out h5 (fun g hg hm => by have := (rowOf HOWN.out hg).1; have := HBL.out; simp at hm; omega))
            have HEX3 := Lib.hid (HEX.out.keepT h5 (by simp))
            clear hR h4 h5
            have HU := Lib.hid (fun w' (h' : PAt w' b n (r3) o k) (j : Int) => arg_any w' b n o k (r3) f h' ho2 (by have := HF.out; have := HRL.out; have := HL3.out; omega) j)
            have hlen := fun aa qq (h : Px.sum f o (r3) = .ok aa qq) => Px.sum_len h
            have hR := HD.out
            obtain ⟨rr, hrr⟩ : ∃ x, x = Px.sum f o (r3) := ⟨_, rfl⟩
            rw [← hrr] at HU hlen hR
            have HD := Lib.hid hR
            have HLEN := Lib.hid hlen
            clear hR hlen hrr
            go_wp2_with fail
            refine (HU.out _ HP3.out _).mono ?_
            intro e w4 hr
            cases rr with
            | err z r =>
              obtain ⟨rfl, h4, h5⟩ := hr
              have H4 := Lib.hid h4
              have H5 := Lib.hid (HK3.out.trans h5 (fun _ h _ => h))
              clear h4 h5
              go_wp2
              rw [← HD.out]
              exact ⟨rfl, rfl, H4.out, H5.out⟩
            | ok e1 r2 =>
              obtain ⟨v4, rfl, ⟨ve, hve, h3⟩, h4, h5⟩ := hr
              subst hve
              obtain ⟨x4, rfl⟩ := h3.ptr
              have HEE := Lib.hid h3
              have HP4 := Lib.hid h4
              have HL4 := Lib.hid (HLEN.out e1 r2 rfl)
              have HK4 := Lib.hid (HK3.out.trans h5 (fun _ h _ => h))
              have HOWN4 := Lib.hid (owned_keep HOWN3.out h5 (fun g hg hm => by have := (rowOf HOWN3.out hg).1; have := HBL.out; simp at hm; omega))
              have HEX4 := Lib.hid (HEX3.out.keepT h5 (by simp))
              have hR := HD.out
              simp only [Px.bind_ok] at hR
              have HD := Lib.hid hR
              have hl5 : l.length ≤ 100000 := by have := HLL.out; omega
              have hwsz : w.heap.size ≤ w4.heap.size := HK4.out.size
              clear hR h3 h4 h5
              go_wp2_with (at_builtin; refine wp_app rfl _ _ 58 170 rfl iP (.agg #[.bool false, .string .empty, .pointer none]) 3 32 Tryz.underlying58 hP hP0 hP1 hP2 rfl (by decide) (by decide) (.slice A l.length c) l.length w.heap.size (argCells vs) rfl HOWN4.out 1 [.bool false, .string ⟨#[]⟩, .pointer (some ⟨x4, 0, none⟩)] rfl rfl ?qa1 hl5 hwsz ?_)
              case qa1 => intro u hu; simp at hu; rcases hu with rfl | rfl | rfl <;> rfl
              intro v' w5 hown' hk5 _ hsz5
              have HP5 := Lib.hid (HP4.out.keepHi hk5 (fun y hy => by have := (rowOf HOWN4.out (by simpa using hy)).1; have := HBL.out; omega))
              have HK5 := Lib.hid (HK4.out.hi hk5 (fun y hy => (rowOf HOWN4.out (by simpa using hy)).1))
              have hnt : ∀ y ∈ (Value.slice A l.length c).ownBlock.toList, y ≤ b ∨ NotT w4 y 74 := fun y hy => .inr (by
                obtain ⟨_, cur, hcur⟩ := rowOf HOWN4.out (by simpa using hy)
                exact NotT.of hcur (by decide))
              have HEX5 := Lib.hid ((HEX4.out.keepT hk5 hnt).snoc (HEE.out.keepT hk5 hnt))
              have hown6 : w5.ownsRow w.heap.size 170 3 v' (l ++ [e1]).length (argCells (vs ++ [.pointer (some ⟨x4, 0, none⟩)])) := by
                rw [argCells_snoc, List.length_append]
                exact hown'
              have HOWN6 := Lib.hid hown6
              clear hown' hk5 hown6 hnt hl5 hwsz
              go_wp2_with fail
              go_roundw
              · exact ⟨g, l ++ [e1], r2, vs ++ [.pointer (some ⟨x4, 0, none⟩)], by have := HL4.out; have := HG.out; have := HL3.out; omega, by have := HL4.out; have := HRL.out; have := HL3.out; omega, by have := HL4.out; have := HLL.out; have := HL3.out; simp; omega, HOWN6.out, HEX5.out, HP5.out, HK5.out, HD.out⟩
              · rw [HP5.out.leftOf, HP.out.leftOf]
                have := HL4.out; have := HL3.out; omega
end Go.Proofs.YtbikifibfaaggaaGreatDoor
