/- product and sum; the contracts of expressions. -/
import Derived.Test.YtbikifibfaaggaaGreatDoorPUn
namespace Go.Proofs.YtbikifibfaaggaaGreatDoor
open Go.RowKit Go.Shelf
open Lx (Tok Tx)
open Px (Ex Cn)

/-- How many tokens are left: as the parser's block says it. -/
def leftOf (w : World) (b : Nat) : Nat := match w.cell? ⟨b, 0, none⟩ with | some (.slice _ m _) => m | _ => 0
theorem PAt.leftOf {w : World} {b n o k : Nat} {ts : List Tok} (h : PAt w b n ts o k) : leftOf w b = ts.length := by
  obtain ⟨_, A, cap, g, hb, ht, hg, hc, hm⟩ := h
  have c0 := row_cell hb 0
  simp only [List.getElem?_toArray, List.getElem?_cons_zero] at c0
  unfold Proofs.YtbikifibfaaggaaGreatDoor.leftOf
  rw [c0]
/-- The contracts of expressions, of so much fuel. -/
structure EC (f : Nat) : Prop where
  un : ∀ w b n ts o k, PAt w b n ts o k → o ≤ 1000 → 4 * ts.length + 1 ≤ f → Calls Tryz.prog 224 #[pp b] w (RP ExAt (fun _ => k) w b n o (Px.un f o ts))
  prod : ∀ w b n ts o k, PAt w b n ts o k → o ≤ 1000 → 4 * ts.length + 2 ≤ f → Calls Tryz.prog 208 #[pp b] w (RP ExAt (fun _ => k) w b n o (Px.prod f o ts))
  sum : ∀ w b n ts o k, PAt w b n ts o k → o ≤ 1000 → 4 * ts.length + 3 ≤ f → Calls Tryz.prog 179 #[pp b] w (RP ExAt (fun _ => k) w b n o (Px.sum f o ts))

theorem leftOf_alloc {w : World} {b n o k : Nat} {ts : List Tok} {obj : Obj} (h : PAt w b n ts o k) : leftOf (w.alloc obj) b = ts.length := (h.keep ((Keeps.refl [] _).alloc _)).leftOf
set_option maxHeartbeats 4000000 in
set_option maxRecDepth 100000 in
theorem prod_step (f : Nat) (w : World) (b n o k : Nat) (ts : List Tok) (h : PAt w b n ts o k) (ho2 : o ≤ 1000) (hf : 4 * ts.length + 2 ≤ f + 1) (hE : ∀ g, g ≤ f → EC g) :
    Calls Tryz.prog 208 #[pp b] w (RP ExAt (fun _ => k) w b n o (Px.prod (f + 1) o ts)) := by
  have HU := Lib.hid ((hE f (Nat.le_refl _)).un w b n ts o k h ho2 (by omega))
  have HP := Lib.hid (show Px.prod (f + 1) o ts = (Px.un f o ts).bind (fun a r => Px.prodL f o a r) from by unfold Px.prod Px.R.bind; cases Px.un f o ts <;> rfl)
  have HLEN := Lib.hid ((Px.ex_len f).1 o ts)
  obtain ⟨rr, hrr⟩ : ∃ rr, rr = Px.un f o ts := ⟨_, rfl⟩
  rw [← hrr] at HU HP HLEN
  rw [HP.out]
  have HE := Lib.hid hE
  have HF := Lib.hid hf
  clear h hrr HP hE hf
  cases rr with
  | err z r =>
    show Calls _ _ _ _ (RP ExAt _ w b n o (.err z r))
    go_enter Tryz.func208, Tryz.ntmps208
    go_wp2_with fail
    refine (HU.out).mono ?_
    rintro e w1 ⟨rfl, h4, h5⟩
    have H4 := Lib.hid h4
    have H5 := Lib.hid h5
    clear h4 h5
    go_wp2
    exact ⟨rfl, rfl, H4.out, H5.out⟩
  | ok a r =>
    have hl := HLEN.out a r rfl
    show Calls _ _ _ _ (RP ExAt _ w b n o (Px.prodL f o a r))
    obtain ⟨R, hR⟩ : ∃ R, R = Px.prodL f o a r := ⟨_, rfl⟩
    rw [← hR]
    have HR := Lib.hid hR
    have HL := Lib.hid hl
    clear hR hl HLEN
    go_enter Tryz.func208, Tryz.ntmps208
    go_wp2_with fail
    refine (HU.out).mono ?_
    rintro e w1 ⟨v, rfl, h3, h4, h5⟩
    have H3 := Lib.hid h3
    have H4 := Lib.hid h4
    have H5 := Lib.hid h5
    clear h3 h4 h5 HU
    go_wp2_with fail
    go_loopw [3] (fun ev wr => ∃ (g : Nat) (x : Ex) (l : List Tok), g ≤ f ∧ 4 * l.length + 2 ≤ g ∧ ExAt wr b x ev ∧ PAt wr b n l o k ∧ Keeps [b] w wr ∧ Px.prodL g o x l = R) (fun _ wr => leftOf wr b)
    case atStart => exact ⟨f, a, r, Nat.le_refl _, by have := HF.out; have := HL.out; omega, H3.out, H4.out, H5.out, HR.out.symm⟩
    case round =>
      obtain ⟨g, x, l, hg, hgl, hx, hl2, hk, hd⟩ := hrel
      match g, hgl with
      | g + 1, hgl =>
      have HX := Lib.hid hx
      have HL2 := Lib.hid hl2
      have HK := Lib.hid hk
      have HD := Lib.hid hd
      have HLT : ∀ (c : UInt8), Px.sees l [c] = true → l.tail.length + 1 = l.length := fun c hs => by
        obtain ⟨t, r, rfl, _⟩ := sees_cons (by simp) hs
        simp
      have HLT := Lib.hid HLT
      clear hx hl2 hk hd
      by_cases hs42 : Px.sees l [42] = true
      · have HP := Lib.hid (passes_yes wr b n o k l HL2.out [42] (by simp) hs42)
        have hop : Px.mulOp l = some 4 := by unfold Px.mulOp; simp only [hs42]; simp
        have hdec := HD.out
        unfold Px.prodL at hdec
        rw [hop] at hdec
        simp only at hdec
        have HU := Lib.hid (fun w' (h' : PAt w' b n l.tail o k) => (HE.out g (by omega)).un w' b n l.tail o k h' ho2 (by have := HLT.out _ hs42; omega))
        have HLEN := Lib.hid ((Px.ex_len g).1 o l.tail)
        have hll := HLT.out _ hs42
        obtain ⟨rr, hrr⟩ : ∃ rr, rr = Px.un g o l.tail := ⟨_, rfl⟩
        rw [← hrr] at HU HLEN hdec
        have HDEC := Lib.hid hdec
        have HLL := Lib.hid hll
        obtain ⟨xx, rfl⟩ := HX.out.ptr
        clear hrr hdec hop hll HD HLT hs42
        go_wp2_with fail
        refine (HP.out).mono ?_
        rintro e w2 ⟨rfl, h1, h2⟩
        have H1 := Lib.hid h1
        have H2 := Lib.hid (HK.out.trans h2 (fun _ h _ => h))
        have H2B := Lib.hid h2
        clear h1 h2
        go_wp2_with fail
        refine (HU.out _ H1.out).mono ?_
        intro e w3 hr
        cases rr with
        | err z r =>
          obtain ⟨rfl, h4, h5⟩ := hr
          have H4 := Lib.hid h4
          have H5X := Lib.hid (H2.out.trans h5 (fun _ h _ => h))
          clear h4 h5
          go_wp2
          rw [← HDEC.out]
          exact ⟨rfl, rfl, H4.out, H5X.out⟩
        | ok c r =>
          obtain ⟨vc, rfl, h3, h4, h5⟩ := hr
          have H3 := Lib.hid h3
          have H4 := Lib.hid h4
          have H5B := Lib.hid h5
          have H5X := Lib.hid (H2.out.trans h5 (fun _ h _ => h))
          obtain ⟨xc, rfl⟩ := h3.ptr
          have hl2 := HLEN.out c r rfl
          have HL3 := Lib.hid hl2
          clear h3 h4 h5 hl2
          go_wp2_with fail
          have hrow : ExAt (w3.alloc (.cells #[.int .i64 4, .int .i64 0, .string .empty, .pointer (some ⟨xx, 0, none⟩), .pointer (some ⟨xc, 0, none⟩)] 74)) b (.bin 4 x c) (.pointer (some ⟨w3.heap.size, 0, none⟩)) := ⟨_, _, _, rfl, H4.out.lt, heap_alloc_new _ _, ((HX.out.keep H2B.out (by simp)).keep H5B.out (by simp)).alloc _, H3.out.alloc _⟩
          have HROW := Lib.hid hrow
          clear hrow
          go_roundw
          · exact ⟨g, .bin 4 x c, r, by omega, by have := HL3.out; have := HLL.out; omega, HROW.out, H4.out.keep ((Keeps.refl [] _).alloc _), H5X.out.alloc _, HDEC.out⟩
          · rw [leftOf_alloc H4.out, HL2.out.leftOf]
            have := HL3.out; have := HLL.out; omega
      · have hn42 : Px.sees l [42] = false := by simpa using hs42
        clear hs42
        by_cases hs47 : Px.sees l [47] = true
        · have HP := Lib.hid (passes_yes wr b n o k l HL2.out [47] (by simp) hs47)
          have HN42 := Lib.hid (passes_no wr b n o k l HL2.out [42] hn42)
          have hop : Px.mulOp l = some 5 := by unfold Px.mulOp; simp only [hs47, hn42]; simp
          have hdec := HD.out
          unfold Px.prodL at hdec
          rw [hop] at hdec
          simp only at hdec
          have HU := Lib.hid (fun w' (h' : PAt w' b n l.tail o k) => (HE.out g (by omega)).un w' b n l.tail o k h' ho2 (by have := HLT.out _ hs47; omega))
          have HLEN := Lib.hid ((Px.ex_len g).1 o l.tail)
          have hll := HLT.out _ hs47
          obtain ⟨rr, hrr⟩ : ∃ rr, rr = Px.un g o l.tail := ⟨_, rfl⟩
          rw [← hrr] at HU HLEN hdec
          have HDEC := Lib.hid hdec
          have HLL := Lib.hid hll
          obtain ⟨xx, rfl⟩ := HX.out.ptr
          clear hrr hdec hop hll HD HLT hs47 hn42
          go_wp2_with fail
          refine (HN42.out).mono ?_
          rintro e w' ⟨rfl, rfl⟩
          go_wp2_with fail
          refine (HP.out).mono ?_
          rintro e w2 ⟨rfl, h1, h2⟩
          have H1 := Lib.hid h1
          have H2 := Lib.hid (HK.out.trans h2 (fun _ h _ => h))
          have H2B := Lib.hid h2
          clear h1 h2
          go_wp2_with fail
          refine (HU.out _ H1.out).mono ?_
          intro e w3 hr
          cases rr with
          | err z r =>
            obtain ⟨rfl, h4, h5⟩ := hr
            have H4 := Lib.hid h4
            have H5X := Lib.hid (H2.out.trans h5 (fun _ h _ => h))
            clear h4 h5
            go_wp2
            rw [← HDEC.out]
            exact ⟨rfl, rfl, H4.out, H5X.out⟩
          | ok c r =>
            obtain ⟨vc, rfl, h3, h4, h5⟩ := hr
            have H3 := Lib.hid h3
            have H4 := Lib.hid h4
            have H5B := Lib.hid h5
            have H5X := Lib.hid (H2.out.trans h5 (fun _ h _ => h))
            obtain ⟨xc, rfl⟩ := h3.ptr
            have hl2 := HLEN.out c r rfl
            have HL3 := Lib.hid hl2
            clear h3 h4 h5 hl2
            go_wp2_with fail
            have hrow : ExAt (w3.alloc (.cells #[.int .i64 5, .int .i64 0, .string .empty, .pointer (some ⟨xx, 0, none⟩), .pointer (some ⟨xc, 0, none⟩)] 74)) b (.bin 5 x c) (.pointer (some ⟨w3.heap.size, 0, none⟩)) := ⟨_, _, _, rfl, H4.out.lt, heap_alloc_new _ _, ((HX.out.keep H2B.out (by simp)).keep H5B.out (by simp)).alloc _, H3.out.alloc _⟩
            have HROW := Lib.hid hrow
            clear hrow
            go_roundw
            · exact ⟨g, .bin 5 x c, r, by omega, by have := HL3.out; have := HLL.out; omega, HROW.out, H4.out.keep ((Keeps.refl [] _).alloc _), H5X.out.alloc _, HDEC.out⟩
            · rw [leftOf_alloc H4.out, HL2.out.leftOf]
              have := HL3.out; have := HLL.out; omega
        · have hn47 : Px.sees l [47] = false := by simpa using hs47
          clear hs47
          by_cases hs37 : Px.sees l [37] = true
          · have HP := Lib.hid (passes_yes wr b n o k l HL2.out [37] (by simp) hs37)
            have HN42 := Lib.hid (passes_no wr b n o k l HL2.out [42] hn42)
            have HN47 := Lib.hid (passes_no wr b n o k l HL2.out [47] hn47)
            have hop : Px.mulOp l = some 6 := by unfold Px.mulOp; simp only [hs37, hn42, hn47]; simp
            have hdec := HD.out
            unfold Px.prodL at hdec
            rw [hop] at hdec
            simp only at hdec
            have HU := Lib.hid (fun w' (h' : PAt w' b n l.tail o k) => (HE.out g (by omega)).un w' b n l.tail o k h' ho2 (by have := HLT.out _ hs37; omega))
            have HLEN := Lib.hid ((Px.ex_len g).1 o l.tail)
            have hll := HLT.out _ hs37
            obtain ⟨rr, hrr⟩ : ∃ rr, rr = Px.un g o l.tail := ⟨_, rfl⟩
            rw [← hrr] at HU HLEN hdec
            have HDEC := Lib.hid hdec
            have HLL := Lib.hid hll
            obtain ⟨xx, rfl⟩ := HX.out.ptr
            clear hrr hdec hop hll HD HLT hs37 hn42 hn47
            go_wp2_with fail
            refine (HN42.out).mono ?_
            rintro e w' ⟨rfl, rfl⟩
            go_wp2_with fail
            refine (HN47.out).mono ?_
            rintro e w' ⟨rfl, rfl⟩
            go_wp2_with fail
            refine (HP.out).mono ?_
            rintro e w2 ⟨rfl, h1, h2⟩
            have H1 := Lib.hid h1
            have H2 := Lib.hid (HK.out.trans h2 (fun _ h _ => h))
            have H2B := Lib.hid h2
            clear h1 h2
            go_wp2_with fail
            refine (HU.out _ H1.out).mono ?_
            intro e w3 hr
            cases rr with
            | err z r =>
              obtain ⟨rfl, h4, h5⟩ := hr
              have H4 := Lib.hid h4
              have H5X := Lib.hid (H2.out.trans h5 (fun _ h _ => h))
              clear h4 h5
              go_wp2
              rw [← HDEC.out]
              exact ⟨rfl, rfl, H4.out, H5X.out⟩
            | ok c r =>
              obtain ⟨vc, rfl, h3, h4, h5⟩ := hr
              have H3 := Lib.hid h3
              have H4 := Lib.hid h4
              have H5B := Lib.hid h5
              have H5X := Lib.hid (H2.out.trans h5 (fun _ h _ => h))
              obtain ⟨xc, rfl⟩ := h3.ptr
              have hl2 := HLEN.out c r rfl
              have HL3 := Lib.hid hl2
              clear h3 h4 h5 hl2
              go_wp2_with fail
              have hrow : ExAt (w3.alloc (.cells #[.int .i64 6, .int .i64 0, .string .empty, .pointer (some ⟨xx, 0, none⟩), .pointer (some ⟨xc, 0, none⟩)] 74)) b (.bin 6 x c) (.pointer (some ⟨w3.heap.size, 0, none⟩)) := ⟨_, _, _, rfl, H4.out.lt, heap_alloc_new _ _, ((HX.out.keep H2B.out (by simp)).keep H5B.out (by simp)).alloc _, H3.out.alloc _⟩
              have HROW := Lib.hid hrow
              clear hrow
              go_roundw
              · exact ⟨g, .bin 6 x c, r, by omega, by have := HL3.out; have := HLL.out; omega, HROW.out, H4.out.keep ((Keeps.refl [] _).alloc _), H5X.out.alloc _, HDEC.out⟩
              · rw [leftOf_alloc H4.out, HL2.out.leftOf]
                have := HL3.out; have := HLL.out; omega
          · have hn37 : Px.sees l [37] = false := by simpa using hs37
            clear hs37
            have HN42 := Lib.hid (passes_no wr b n o k l HL2.out [42] hn42)
            have HN47 := Lib.hid (passes_no wr b n o k l HL2.out [47] hn47)
            have HN37 := Lib.hid (passes_no wr b n o k l HL2.out [37] hn37)
            have hop : Px.mulOp l = none := by unfold Px.mulOp; simp only [hn42, hn47, hn37]; simp
            have hdec := HD.out
            unfold Px.prodL at hdec
            rw [hop] at hdec
            simp only at hdec
            have HDEC := Lib.hid hdec
            obtain ⟨xx, rfl⟩ := HX.out.ptr
            clear hdec hop HD HLT hn42 hn47 hn37
            go_wp2_with fail
            refine (HN42.out).mono ?_
            rintro e w' ⟨rfl, rfl⟩
            go_wp2_with fail
            refine (HN47.out).mono ?_
            rintro e w' ⟨rfl, rfl⟩
            go_wp2_with fail
            refine (HN37.out).mono ?_
            rintro e w' ⟨rfl, rfl⟩
            go_wp2_with fail
            go_ret
            rw [← HDEC.out]
            exact ⟨_, rfl, HX.out, HL2.out, HK.out⟩
set_option maxHeartbeats 4000000 in
set_option maxRecDepth 100000 in
theorem sum_step (f : Nat) (w : World) (b n o k : Nat) (ts : List Tok) (h : PAt w b n ts o k) (ho2 : o ≤ 1000) (hf : 4 * ts.length + 3 ≤ f + 1) (hE : ∀ g, g ≤ f → EC g) :
    Calls Tryz.prog 179 #[pp b] w (RP ExAt (fun _ => k) w b n o (Px.sum (f + 1) o ts)) := by
  have HU := Lib.hid ((hE f (Nat.le_refl _)).prod w b n ts o k h ho2 (by omega))
  have HP := Lib.hid (show Px.sum (f + 1) o ts = (Px.prod f o ts).bind (fun a r => Px.sumL f o a r) from by unfold Px.sum Px.R.bind; cases Px.prod f o ts <;> rfl)
  have HLEN := Lib.hid ((Px.ex_len f).2.2.1 o ts)
  obtain ⟨rr, hrr⟩ : ∃ rr, rr = Px.prod f o ts := ⟨_, rfl⟩
  rw [← hrr] at HU HP HLEN
  rw [HP.out]
  have HE := Lib.hid hE
  have HF := Lib.hid hf
  clear h hrr HP hE hf
  cases rr with
  | err z r =>
    show Calls _ _ _ _ (RP ExAt _ w b n o (.err z r))
    go_enter Tryz.func179, Tryz.ntmps179
    go_wp2_with fail
    refine (HU.out).mono ?_
    rintro e w1 ⟨rfl, h4, h5⟩
    have H4 := Lib.hid h4
    have H5 := Lib.hid h5
    clear h4 h5
    go_wp2
    exact ⟨rfl, rfl, H4.out, H5.out⟩
  | ok a r =>
    have hl := HLEN.out a r rfl
    show Calls _ _ _ _ (RP ExAt _ w b n o (Px.sumL f o a r))
    obtain ⟨R, hR⟩ : ∃ R, R = Px.sumL f o a r := ⟨_, rfl⟩
    rw [← hR]
    have HR := Lib.hid hR
    have HL := Lib.hid hl
    clear hR hl HLEN
    go_enter Tryz.func179, Tryz.ntmps179
    go_wp2_with fail
    refine (HU.out).mono ?_
    rintro e w1 ⟨v, rfl, h3, h4, h5⟩
    have H3 := Lib.hid h3
    have H4 := Lib.hid h4
    have H5 := Lib.hid h5
    clear h3 h4 h5 HU
    go_wp2_with fail
    go_loopw [3] (fun ev wr => ∃ (g : Nat) (x : Ex) (l : List Tok), g ≤ f ∧ 4 * l.length + 3 ≤ g ∧ ExAt wr b x ev ∧ PAt wr b n l o k ∧ Keeps [b] w wr ∧ Px.sumL g o x l = R) (fun _ wr => leftOf wr b)
    case atStart => exact ⟨f, a, r, Nat.le_refl _, by have := HF.out; have := HL.out; omega, H3.out, H4.out, H5.out, HR.out.symm⟩
    case round =>
      obtain ⟨g, x, l, hg, hgl, hx, hl2, hk, hd⟩ := hrel
      match g, hgl with
      | g + 1, hgl =>
      have HX := Lib.hid hx
      have HL2 := Lib.hid hl2
      have HK := Lib.hid hk
      have HD := Lib.hid hd
      have HLT : ∀ (c : UInt8), Px.sees l [c] = true → l.tail.length + 1 = l.length := fun c hs => by
        obtain ⟨t, r, rfl, _⟩ := sees_cons (by simp) hs
        simp
      have HLT := Lib.hid HLT
      clear hx hl2 hk hd
      by_cases hs43 : Px.sees l [43] = true
      · have HP := Lib.hid (passes_yes wr b n o k l HL2.out [43] (by simp) hs43)
        have hop : Px.addOp l = some 2 := by unfold Px.addOp; simp only [hs43]; simp
        have hdec := HD.out
        unfold Px.sumL at hdec
        rw [hop] at hdec
        simp only at hdec
        have HU := Lib.hid (fun w' (h' : PAt w' b n l.tail o k) => (HE.out g (by omega)).prod w' b n l.tail o k h' ho2 (by have := HLT.out _ hs43; omega))
        have HLEN := Lib.hid ((Px.ex_len g).2.2.1 o l.tail)
        have hll := HLT.out _ hs43
        obtain ⟨rr, hrr⟩ : ∃ rr, rr = Px.prod g o l.tail := ⟨_, rfl⟩
        rw [← hrr] at HU HLEN hdec
        have HDEC := Lib.hid hdec
        have HLL := Lib.hid hll
        obtain ⟨xx, rfl⟩ := HX.out.ptr
        clear hrr hdec hop hll HD HLT hs43
        go_wp2_with fail
        refine (HP.out).mono ?_
        rintro e w2 ⟨rfl, h1, h2⟩
        have H1 := Lib.hid h1
        have H2 := Lib.hid (HK.out.trans h2 (fun _ h _ => h))
        have H2B := Lib.hid h2
        clear h1 h2
        go_wp2_with fail
        refine (HU.out _ H1.out).mono ?_
        intro e w3 hr
        cases rr with
        | err z r =>
          obtain ⟨rfl, h4, h5⟩ := hr
          have H4 := Lib.hid h4
          have H5X := Lib.hid (H2.out.trans h5 (fun _ h _ => h))
          clear h4 h5
          go_wp2
          rw [← HDEC.out]
          exact ⟨rfl, rfl, H4.out, H5X.out⟩
        | ok c r =>
          obtain ⟨vc, rfl, h3, h4, h5⟩ := hr
          have H3 := Lib.hid h3
          have H4 := Lib.hid h4
          have H5B := Lib.hid h5
          have H5X := Lib.hid (H2.out.trans h5 (fun _ h _ => h))
          obtain ⟨xc, rfl⟩ := h3.ptr
          have hl2 := HLEN.out c r rfl
          have HL3 := Lib.hid hl2
          clear h3 h4 h5 hl2
          go_wp2_with fail
          have hrow : ExAt (w3.alloc (.cells #[.int .i64 2, .int .i64 0, .string .empty, .pointer (some ⟨xx, 0, none⟩), .pointer (some ⟨xc, 0, none⟩)] 74)) b (.bin 2 x c) (.pointer (some ⟨w3.heap.size, 0, none⟩)) := ⟨_, _, _, rfl, H4.out.lt, heap_alloc_new _ _, ((HX.out.keep H2B.out (by simp)).keep H5B.out (by simp)).alloc _, H3.out.alloc _⟩
          have HROW := Lib.hid hrow
          clear hrow
          go_roundw
          · exact ⟨g, .bin 2 x c, r, by omega, by have := HL3.out; have := HLL.out; omega, HROW.out, H4.out.keep ((Keeps.refl [] _).alloc _), H5X.out.alloc _, HDEC.out⟩
          · rw [leftOf_alloc H4.out, HL2.out.leftOf]
            have := HL3.out; have := HLL.out; omega
      · have hn43 : Px.sees l [43] = false := by simpa using hs43
        clear hs43
        by_cases hs45 : Px.sees l [45] = true
        · have HP := Lib.hid (passes_yes wr b n o k l HL2.out [45] (by simp) hs45)
          have HN43 := Lib.hid (passes_no wr b n o k l HL2.out [43] hn43)
          have hop : Px.addOp l = some 3 := by unfold Px.addOp; simp only [hs45, hn43]; simp
          have hdec := HD.out
          unfold Px.sumL at hdec
          rw [hop] at hdec
          simp only at hdec
          have HU := Lib.hid (fun w' (h' : PAt w' b n l.tail o k) => (HE.out g (by omega)).prod w' b n l.tail o k h' ho2 (by have := HLT.out _ hs45; omega))
          have HLEN := Lib.hid ((Px.ex_len g).2.2.1 o l.tail)
          have hll := HLT.out _ hs45
          obtain ⟨rr, hrr⟩ : ∃ rr, rr = Px.prod g o l.tail := ⟨_, rfl⟩
          rw [← hrr] at HU HLEN hdec
          have HDEC := Lib.hid hdec
          have HLL := Lib.hid hll
          obtain ⟨xx, rfl⟩ := HX.out.ptr
          clear hrr hdec hop hll HD HLT hs45 hn43
          go_wp2_with fail
          refine (HN43.out).mono ?_
          rintro e w' ⟨rfl, rfl⟩
          go_wp2_with fail
          refine (HP.out).mono ?_
          rintro e w2 ⟨rfl, h1, h2⟩
          have H1 := Lib.hid h1
          have H2 := Lib.hid (HK.out.trans h2 (fun _ h _ => h))
          have H2B := Lib.hid h2
          clear h1 h2
          go_wp2_with fail
          refine (HU.out _ H1.out).mono ?_
          intro e w3 hr
          cases rr with
          | err z r =>
            obtain ⟨rfl, h4, h5⟩ := hr
            have H4 := Lib.hid h4
            have H5X := Lib.hid (H2.out.trans h5 (fun _ h _ => h))
            clear h4 h5
            go_wp2
            rw [← HDEC.out]
            exact ⟨rfl, rfl, H4.out, H5X.out⟩
          | ok c r =>
            obtain ⟨vc, rfl, h3, h4, h5⟩ := hr
            have H3 := Lib.hid h3
            have H4 := Lib.hid h4
            have H5B := Lib.hid h5
            have H5X := Lib.hid (H2.out.trans h5 (fun _ h _ => h))
            obtain ⟨xc, rfl⟩ := h3.ptr
            have hl2 := HLEN.out c r rfl
            have HL3 := Lib.hid hl2
            clear h3 h4 h5 hl2
            go_wp2_with fail
            have hrow : ExAt (w3.alloc (.cells #[.int .i64 3, .int .i64 0, .string .empty, .pointer (some ⟨xx, 0, none⟩), .pointer (some ⟨xc, 0, none⟩)] 74)) b (.bin 3 x c) (.pointer (some ⟨w3.heap.size, 0, none⟩)) := ⟨_, _, _, rfl, H4.out.lt, heap_alloc_new _ _, ((HX.out.keep H2B.out (by simp)).keep H5B.out (by simp)).alloc _, H3.out.alloc _⟩
            have HROW := Lib.hid hrow
            clear hrow
            go_roundw
            · exact ⟨g, .bin 3 x c, r, by omega, by have := HL3.out; have := HLL.out; omega, HROW.out, H4.out.keep ((Keeps.refl [] _).alloc _), H5X.out.alloc _, HDEC.out⟩
            · rw [leftOf_alloc H4.out, HL2.out.leftOf]
              have := HL3.out; have := HLL.out; omega
        · have hn45 : Px.sees l [45] = false := by simpa using hs45
          clear hs45
          have HN43 := Lib.hid (passes_no wr b n o k l HL2.out [43] hn43)
          have HN45 := Lib.hid (passes_no wr b n o k l HL2.out [45] hn45)
          have hop : Px.addOp l = none := by unfold Px.addOp; simp only [hn43, hn45]; simp
          have hdec := HD.out
          unfold Px.sumL at hdec
          rw [hop] at hdec
          simp only at hdec
          have HDEC := Lib.hid hdec
          obtain ⟨xx, rfl⟩ := HX.out.ptr
          clear hdec hop HD HLT hn43 hn45
          go_wp2_with fail
          refine (HN43.out).mono ?_
          rintro e w' ⟨rfl, rfl⟩
          go_wp2_with fail
          refine (HN45.out).mono ?_
          rintro e w' ⟨rfl, rfl⟩
          go_wp2_with fail
          go_ret
          rw [← HDEC.out]
          exact ⟨_, rfl, HX.out, HL2.out, HK.out⟩
/-- The contracts of expressions. -/
theorem ec : ∀ f, EC f := fun f => by
  induction f using Nat.strongRecOn with
  | _ f ih =>
    match f, ih with
    | 0, _ => exact ⟨fun w b n ts o k h ho hf => by omega, fun w b n ts o k h ho hf => by omega, fun w b n ts o k h ho hf => by omega⟩
    | f + 1, ih =>
      have hle : ∀ g, g ≤ f → EC g := fun g hg => ih g (by omega)
      have hlt : ∀ {ts : List Tok}, ts ≠ [] → ts.tail.length + 1 = ts.length := fun {ts} h => by
        match ts, h with
        | t :: r, _ => simp
      refine ⟨fun w b n ts o k h ho hf => ?_, fun w b n ts o k h ho hf => prod_step f w b n o k ts h ho hf hle, fun w b n ts o k h ho hf => sum_step f w b n o k ts h ho hf hle⟩
      exact un_step f w b n o k ts h ho (fun ho' w1 hne h' => (hle f (Nat.le_refl _)).un w1 b n ts.tail (o + 1) k h' (by omega) (by have := hlt hne; omega)) (fun ho' w1 hne h' => (hle f (Nat.le_refl _)).sum w1 b n ts.tail (o + 1) k h' (by omega) (by have := hlt hne; omega))
/-- A sum, with fuel enough. -/
theorem sum_any (w : World) (b n o k : Nat) (ts : List Tok) (f : Nat) (h : PAt w b n ts o k) (ho : o ≤ 1000) (hf : 4 * ts.length + 3 ≤ f) :
    Calls Tryz.prog 179 #[pp b] w (RP ExAt (fun _ => k) w b n o (Px.sum f o ts)) := (ec f).sum w b n ts o k h ho hf
end Go.Proofs.YtbikifibfaaggaaGreatDoor
