/- and, cond; the contracts of conditions. -/
import Derived.Test.YtbikifibfaaggaaGreatDoorPCmp
namespace Go.Proofs.YtbikifibfaaggaaGreatDoor
open Go.RowKit Go.Shelf
open Lx (Tok Tx)
open Px (Ex Cn)

/-- The contracts of conditions, of so much fuel. -/
structure CC (f : Nat) : Prop where
  not : ∀ w b n ts o k, PAt w b n ts o k → o ≤ 1000 → 4 * ts.length + 4 ≤ f → Calls Tryz.prog 230 #[pp b] w (RP CnAt (fun _ => k) w b n o (Px.not f o ts))
  and : ∀ w b n ts o k, PAt w b n ts o k → o ≤ 1000 → 4 * ts.length + 5 ≤ f → Calls Tryz.prog 223 #[pp b] w (RP CnAt (fun _ => k) w b n o (Px.and f o ts))
  cond : ∀ w b n ts o k, PAt w b n ts o k → o ≤ 1000 → 4 * ts.length + 6 ≤ f → Calls Tryz.prog 207 #[pp b] w (RP CnAt (fun _ => k) w b n o (Px.cond f o ts))
set_option maxHeartbeats 1000000 in
set_option maxRecDepth 100000 in
theorem not_null (w : World) (b n o k : Nat) (ts : List Tok) (h : PAt w b n ts o k) (hn : Px.sees ts [33] = false) (hn2 : Px.sees ts [40] = false) (hy : Px.isNull ts = true) :
    Calls Tryz.prog 230 #[pp b] w (RP CnAt (fun _ => k) w b n o (.ok (Px.nullCn ts) (ts.drop 3))) := by
  have HS := Lib.hid (sees_any w b n o k ts h [33])
  rw [hn] at HS
  have HS2 := Lib.hid (sees_any w b n o k ts h [40])
  rw [hn2] at HS2
  have HS3 := Lib.hid (seesNull_any w b n o k ts h)
  rw [hy] at HS3
  have HN := Lib.hid (nullTest_any w b n o k ts h hy)
  clear h hn hn2 hy
  go_enter Tryz.func230, Tryz.ntmps230
  go_wp2_with fail
  refine (HS.out).mono ?_
  rintro e w' ⟨rfl, rfl⟩
  go_wp2_with fail
  refine (HS2.out).mono ?_
  rintro e w' ⟨rfl, rfl⟩
  go_wp2_with fail
  refine (HS3.out).mono ?_
  rintro e w' ⟨rfl, rfl⟩
  go_wp2_with fail
  refine (HN.out).mono ?_
  rintro e w' ⟨v, rfl, h3, h4, h5⟩
  have H3 := Lib.hid h3
  have H4 := Lib.hid h4
  have H5 := Lib.hid h5
  clear h3 h4 h5
  go_wp2_with fail
  go_ret
  exact ⟨_, rfl, H3.out, H4.out, H5.out⟩
set_option maxHeartbeats 1000000 in
set_option maxRecDepth 100000 in
theorem not_cmp (w : World) (b n o k : Nat) (ts : List Tok) (h : PAt w b n ts o k) (hn : Px.sees ts [33] = false) (hn2 : Px.sees ts [40] = false) (hn3 : Px.isNull ts = false) (ho2 : o ≤ 1000) (f : Nat) (hf : 4 * ts.length + 3 ≤ f) :
    Calls Tryz.prog 230 #[pp b] w (RP CnAt (fun _ => k) w b n o (Px.cmp f o ts)) := by
  have HS := Lib.hid (sees_any w b n o k ts h [33])
  rw [hn] at HS
  have HS2 := Lib.hid (sees_any w b n o k ts h [40])
  rw [hn2] at HS2
  have HS3 := Lib.hid (seesNull_any w b n o k ts h)
  rw [hn3] at HS3
  have HN := Lib.hid (cmp_any w b n o k ts h ho2 f hf)
  obtain ⟨rr, hrr⟩ : ∃ rr, rr = Px.cmp f o ts := ⟨_, rfl⟩
  rw [← hrr] at HN ⊢
  clear h hn hn2 hn3 hf hrr
  go_enter Tryz.func230, Tryz.ntmps230
  go_wp2_with fail
  refine (HS.out).mono ?_
  rintro e w' ⟨rfl, rfl⟩
  go_wp2_with fail
  refine (HS2.out).mono ?_
  rintro e w' ⟨rfl, rfl⟩
  go_wp2_with fail
  refine (HS3.out).mono ?_
  rintro e w' ⟨rfl, rfl⟩
  go_wp2_with fail
  refine (HN.out).mono ?_
  intro e w' hr
  cases rr with
  | ok a r =>
    obtain ⟨v, rfl, h3, h4, h5⟩ := hr
    have H3 := Lib.hid h3
    have H4 := Lib.hid h4
    have H5 := Lib.hid h5
    clear h3 h4 h5
    go_wp2_with fail
    go_ret
    exact ⟨_, rfl, H3.out, H4.out, H5.out⟩
  | err z r =>
    obtain ⟨rfl, h4, h5⟩ := hr
    have H4 := Lib.hid h4
    have H5 := Lib.hid h5
    clear h4 h5
    go_wp2
    exact ⟨rfl, rfl, H4.out, H5.out⟩
theorem not_step (f : Nat) (w : World) (b n o k : Nat) (ts : List Tok) (h : PAt w b n ts o k) (ho2 : o ≤ 1000) (hf : 4 * ts.length + 3 ≤ f)
    (hU : o < 40 → ∀ w1, ts ≠ [] → PAt w1 b n ts.tail (o + 1) k → Calls Tryz.prog 230 #[pp b] w1 (RP CnAt (fun _ => k) w1 b n (o + 1) (Px.not f (o + 1) ts.tail)))
    (hS : o < 40 → ∀ w1, ts ≠ [] → PAt w1 b n ts.tail (o + 1) k → Calls Tryz.prog 207 #[pp b] w1 (RP CnAt (fun _ => k) w1 b n (o + 1) (Px.cond f (o + 1) ts.tail))) :
    Calls Tryz.prog 230 #[pp b] w (RP CnAt (fun _ => k) w b n o (Px.not (f + 1) o ts)) := by
  have hne : ∀ {s}, s ≠ [] → Px.sees ts s = true → ts ≠ [] := fun hs h => by
    obtain ⟨t, r, rfl, _⟩ := sees_cons hs h
    simp
  have hstay : ∀ (z : Nat) (e : Ending) (w' : World), (e = .panicked (died (z : Int)) ∧ w = w') → RP CnAt (fun _ => k) w b n o (.err z ts) e w' := fun z e w' ⟨h1, h2⟩ => by
    subst h2
    exact ⟨h1, ⟨_, _, h⟩, Keeps.refl _ _⟩
  unfold Px.not
  by_cases h1 : Px.sees ts [33] = true
  · rw [if_pos h1]
    by_cases ho : 40 ≤ o
    · rw [if_pos ho]
      exact (not_not_deep w b n o k ts h h1 ho ho2).mono fun e w' => hstay 52 e w'
    · rw [if_neg ho]
      have := not_not w b n o k ts h h1 (by omega) _ (fun w1 h' => hU (by omega) w1 (hne (by simp) h1) h')
      revert this
      generalize Px.not f (o + 1) ts.tail = rr
      intro this
      cases rr <;> exact this
  · have h1' : Px.sees ts [33] = false := by simpa using h1
    rw [if_neg h1]
    by_cases h2 : Px.sees ts [40] = true
    · rw [if_pos h2]
      by_cases ho : 40 ≤ o
      · rw [if_pos ho]
        exact (not_par_deep w b n o k ts h h1' h2 ho ho2).mono fun e w' => hstay 52 e w'
      · rw [if_neg ho]
        have := not_par w b n o k ts h h1' h2 (by omega) _ (fun w1 h' => hS (by omega) w1 (hne (by simp) h2) h')
        revert this
        generalize Px.cond f (o + 1) ts.tail = rr
        intro this
        cases rr <;> exact this
    · have h2' : Px.sees ts [40] = false := by simpa using h2
      rw [if_neg h2]
      by_cases h3 : Px.isNull ts = true
      · rw [if_pos h3]
        exact not_null w b n o k ts h h1' h2' h3
      · have h3' : Px.isNull ts = false := by simpa using h3
        rw [if_neg h3]
        exact not_cmp w b n o k ts h h1' h2' h3' ho2 f hf
set_option maxHeartbeats 4000000 in
set_option maxRecDepth 100000 in
theorem and_step (f : Nat) (w : World) (b n o k : Nat) (ts : List Tok) (h : PAt w b n ts o k) (ho2 : o ≤ 1000) (hf : 4 * ts.length + 5 ≤ f + 1) (hE : ∀ g, g ≤ f → CC g) :
    Calls Tryz.prog 223 #[pp b] w (RP CnAt (fun _ => k) w b n o (Px.and (f + 1) o ts)) := by
  have HU := Lib.hid ((hE f (Nat.le_refl _)).not w b n ts o k h ho2 (by omega))
  have HP := Lib.hid (show Px.and (f + 1) o ts = (Px.not f o ts).bind (fun a r => Px.andL f o a r) from by unfold Px.and Px.R.bind; cases Px.not f o ts <;> rfl)
  have HLEN := Lib.hid ((Px.cn_len f).1 o ts)
  obtain ⟨rr, hrr⟩ : ∃ rr, rr = Px.not f o ts := ⟨_, rfl⟩
  rw [← hrr] at HU HP HLEN
  rw [HP.out]
  have HE := Lib.hid hE
  have HF := Lib.hid hf
  clear h hrr HP hE hf
  cases rr with
  | err z r =>
    show Calls _ _ _ _ (RP CnAt _ w b n o (.err z r))
    go_enter Tryz.func223, Tryz.ntmps223
    go_wp2_with fail
    refine (HU.out).mono ?_
    rintro e w1 ⟨rfl, h4, h5⟩
    have H4 := Lib.hid h4
    have H5 := Lib.hid h5
    clear h4 h5
    go_wp2
    exact ⟨rfl, rfl, H4.out, H5.out⟩
  | ok a r =>
    have hl := HLEN.out a r rfl
    show Calls _ _ _ _ (RP CnAt _ w b n o (Px.andL f o a r))
    obtain ⟨R, hR⟩ : ∃ R, R = Px.andL f o a r := ⟨_, rfl⟩
    rw [← hR]
    have HR := Lib.hid hR
    have HL := Lib.hid hl
    clear hR hl HLEN
    go_enter Tryz.func223, Tryz.ntmps223
    go_wp2_with fail
    refine (HU.out).mono ?_
    rintro e w1 ⟨v, rfl, h3, h4, h5⟩
    have H3 := Lib.hid h3
    have H4 := Lib.hid h4
    have H5 := Lib.hid h5
    clear h3 h4 h5 HU
    go_wp2_with fail
    go_loopw [3] (fun ev wr => ∃ (g : Nat) (x : Cn) (l : List Tok), g ≤ f ∧ 4 * l.length + 5 ≤ g ∧ CnAt wr b x ev ∧ PAt wr b n l o k ∧ Keeps [b] w wr ∧ Px.andL g o x l = R) (fun _ wr => leftOf wr b)
    case atStart => exact ⟨f, a, r, Nat.le_refl _, by have := HF.out; have := HL.out; omega, H3.out, H4.out, H5.out, HR.out.symm⟩
    case round =>
      obtain ⟨g, x, l, hg, hgl, hx, hl2, hk, hd⟩ := hrel
      match g, hgl with
      | g + 1, hgl =>
      have HX := Lib.hid hx
      have HL2 := Lib.hid hl2
      have HK := Lib.hid hk
      have HD := Lib.hid hd
      have HLT : ∀ (c : Tx), c ≠ [] → Px.sees l c = true → l.tail.length + 1 = l.length := fun c h0 hs => by
        obtain ⟨t, r, rfl, _⟩ := sees_cons h0 hs
        simp
      have HLT := Lib.hid HLT
      clear hx hl2 hk hd
      by_cases hs38 : Px.sees l [38, 38] = true
      · have HP := Lib.hid (passes_yes wr b n o k l HL2.out [38, 38] (by simp) hs38)
        have hop := hs38
        have hdec := HD.out
        unfold Px.andL at hdec
        rw [if_pos hop] at hdec
        try simp only at hdec
        have HU := Lib.hid (fun w' (h' : PAt w' b n l.tail o k) => (HE.out g (by omega)).not w' b n l.tail o k h' ho2 (by have := HLT.out _ (by simp) hs38; omega))
        have HLEN := Lib.hid ((Px.cn_len g).1 o l.tail)
        have hll := HLT.out _ (by simp) hs38
        obtain ⟨rr, hrr⟩ : ∃ rr, rr = Px.not g o l.tail := ⟨_, rfl⟩
        rw [← hrr] at HU HLEN hdec
        have HDEC := Lib.hid hdec
        have HLL := Lib.hid hll
        obtain ⟨xx, rfl⟩ := HX.out.ptr
        clear hrr hdec hop hll HD HLT hs38
        go_wp2_with fail
        refine (HP.out).mono ?_
        rintro e w2 ⟨rfl, h1, h2⟩
        have H1 := Lib.hid h1
        have H2 := Lib.hid (HK.out.trans h2 (fun _ h _ => h))
        have H2B := Lib.hid h2
        clear h1 h2
        go_wp2_with fail
        refine (HU.out _ H1.out).mono ?_
        intro e w3 hr
        cases rr with
        | err z r =>
          obtain ⟨rfl, h4, h5⟩ := hr
          have H4 := Lib.hid h4
          have H5X := Lib.hid (H2.out.trans h5 (fun _ h _ => h))
          clear h4 h5
          go_wp2
          rw [← HDEC.out]
          exact ⟨rfl, rfl, H4.out, H5X.out⟩
        | ok c r =>
          obtain ⟨vc, rfl, h3, h4, h5⟩ := hr
          have H3 := Lib.hid h3
          have H4 := Lib.hid h4
          have H5B := Lib.hid h5
          have H5X := Lib.hid (H2.out.trans h5 (fun _ h _ => h))
          obtain ⟨xc, rfl⟩ := h3.ptr
          have hl2 := HLEN.out c r rfl
          have HL3 := Lib.hid hl2
          clear h3 h4 h5 hl2
          go_wp2_with fail
          have hrow : CnAt (w3.alloc (.cells #[.int .i64 6, .pointer none, .pointer none, .pointer (some ⟨xx, 0, none⟩), .pointer (some ⟨xc, 0, none⟩), .string .empty] 105)) b (.two 6 x c) (.pointer (some ⟨w3.heap.size, 0, none⟩)) := ⟨_, _, _, rfl, H4.out.lt, heap_alloc_new _ _, ((HX.out.keep H2B.out (by simp)).keep H5B.out (by simp)).alloc _, H3.out.alloc _⟩
          have HROW := Lib.hid hrow
          clear hrow
          go_roundw
          · exact ⟨g, .two 6 x c, r, by omega, by have := HL3.out; have := HLL.out; omega, HROW.out, H4.out.keep ((Keeps.refl [] _).alloc _), H5X.out.alloc _, HDEC.out⟩
          · rw [leftOf_alloc H4.out, HL2.out.leftOf]
            have := HL3.out; have := HLL.out; omega
      · have hn38 : Px.sees l [38, 38] = false := by simpa using hs38
        clear hs38
        have HN38 := Lib.hid (passes_no wr b n o k l HL2.out [38, 38] hn38)
        have hop : ¬ Px.sees l [38, 38] = true := by simp [hn38]
        have hdec := HD.out
        unfold Px.andL at hdec
        rw [if_neg hop] at hdec
        have HDEC := Lib.hid hdec
        obtain ⟨xx, rfl⟩ := HX.out.ptr
        clear hdec hop HD HLT hn38
        go_wp2_with fail
        refine (HN38.out).mono ?_
        rintro e w' ⟨rfl, rfl⟩
        go_wp2_with fail
        go_ret
        rw [← HDEC.out]
        exact ⟨_, rfl, HX.out, HL2.out, HK.out⟩
set_option maxHeartbeats 4000000 in
set_option maxRecDepth 100000 in
theorem cond_step (f : Nat) (w : World) (b n o k : Nat) (ts : List Tok) (h : PAt w b n ts o k) (ho2 : o ≤ 1000) (hf : 4 * ts.length + 6 ≤ f + 1) (hE : ∀ g, g ≤ f → CC g) :
    Calls Tryz.prog 207 #[pp b] w (RP CnAt (fun _ => k) w b n o (Px.cond (f + 1) o ts)) := by
  have HU := Lib.hid ((hE f (Nat.le_refl _)).and w b n ts o k h ho2 (by omega))
  have HP := Lib.hid (show Px.cond (f + 1) o ts = (Px.and f o ts).bind (fun a r => Px.condL f o a r) from by unfold Px.cond Px.R.bind; cases Px.and f o ts <;> rfl)
  have HLEN := Lib.hid ((Px.cn_len f).2.2.1 o ts)
  obtain ⟨rr, hrr⟩ : ∃ rr, rr = Px.and f o ts := ⟨_, rfl⟩
  rw [← hrr] at HU HP HLEN
  rw [HP.out]
  have HE := Lib.hid hE
  have HF := Lib.hid hf
  clear h hrr HP hE hf
  cases rr with
  | err z r =>
    show Calls _ _ _ _ (RP CnAt _ w b n o (.err z r))
    go_enter Tryz.func207, Tryz.ntmps207
    go_wp2_with fail
    refine (HU.out).mono ?_
    rintro e w1 ⟨rfl, h4, h5⟩
    have H4 := Lib.hid h4
    have H5 := Lib.hid h5
    clear h4 h5
    go_wp2
    exact ⟨rfl, rfl, H4.out, H5.out⟩
  | ok a r =>
    have hl := HLEN.out a r rfl
    show Calls _ _ _ _ (RP CnAt _ w b n o (Px.condL f o a r))
    obtain ⟨R, hR⟩ : ∃ R, R = Px.condL f o a r := ⟨_, rfl⟩
    rw [← hR]
    have HR := Lib.hid hR
    have HL := Lib.hid hl
    clear hR hl HLEN
    go_enter Tryz.func207, Tryz.ntmps207
    go_wp2_with fail
    refine (HU.out).mono ?_
    rintro e w1 ⟨v, rfl, h3, h4, h5⟩
    have H3 := Lib.hid h3
    have H4 := Lib.hid h4
    have H5 := Lib.hid h5
    clear h3 h4 h5 HU
    go_wp2_with fail
    go_loopw [3] (fun ev wr => ∃ (g : Nat) (x : Cn) (l : List Tok), g ≤ f ∧ 4 * l.length + 6 ≤ g ∧ CnAt wr b x ev ∧ PAt wr b n l o k ∧ Keeps [b] w wr ∧ Px.condL g o x l = R) (fun _ wr => leftOf wr b)
    case atStart => exact ⟨f, a, r, Nat.le_refl _, by have := HF.out; have := HL.out; omega, H3.out, H4.out, H5.out, HR.out.symm⟩
    case round =>
      obtain ⟨g, x, l, hg, hgl, hx, hl2, hk, hd⟩ := hrel
      match g, hgl with
      | g + 1, hgl =>
      have HX := Lib.hid hx
      have HL2 := Lib.hid hl2
      have HK := Lib.hid hk
      have HD := Lib.hid hd
      have HLT : ∀ (c : Tx), c ≠ [] → Px.sees l c = true → l.tail.length + 1 = l.length := fun c h0 hs => by
        obtain ⟨t, r, rfl, _⟩ := sees_cons h0 hs
        simp
      have HLT := Lib.hid HLT
      clear hx hl2 hk hd
      by_cases hs124 : Px.sees l [124, 124] = true
      · have HP := Lib.hid (passes_yes wr b n o k l HL2.out [124, 124] (by simp) hs124)
        have hop := hs124
        have hdec := HD.out
        unfold Px.condL at hdec
        rw [if_pos hop] at hdec
        try simp only at hdec
        have HU := Lib.hid (fun w' (h' : PAt w' b n l.tail o k) => (HE.out g (by omega)).and w' b n l.tail o k h' ho2 (by have := HLT.out _ (by simp) hs124; omega))
        have HLEN := Lib.hid ((Px.cn_len g).2.2.1 o l.tail)
        have hll := HLT.out _ (by simp) hs124
        obtain ⟨rr, hrr⟩ : ∃ rr, rr = Px.and g o l.tail := ⟨_, rfl⟩
        rw [← hrr] at HU HLEN hdec
        have HDEC := Lib.hid hdec
        have HLL := Lib.hid hll
        obtain ⟨xx, rfl⟩ := HX.out.ptr
        clear hrr hdec hop hll HD HLT hs124
        go_wp2_with fail
        refine (HP.out).mono ?_
        rintro e w2 ⟨rfl, h1, h2⟩
        have H1 := Lib.hid h1
        have H2 := Lib.hid (HK.out.trans h2 (fun _ h _ => h))
        have H2B := Lib.hid h2
        clear h1 h2
        go_wp2_with fail
        refine (HU.out _ H1.out).mono ?_
        intro e w3 hr
        cases rr with
        | err z r =>
          obtain ⟨rfl, h4, h5⟩ := hr
          have H4 := Lib.hid h4
          have H5X := Lib.hid (H2.out.trans h5 (fun _ h _ => h))
          clear h4 h5
          go_wp2
          rw [← HDEC.out]
          exact ⟨rfl, rfl, H4.out, H5X.out⟩
        | ok c r =>
          obtain ⟨vc, rfl, h3, h4, h5⟩ := hr
          have H3 := Lib.hid h3
          have H4 := Lib.hid h4
          have H5B := Lib.hid h5
          have H5X := Lib.hid (H2.out.trans h5 (fun _ h _ => h))
          obtain ⟨xc, rfl⟩ := h3.ptr
          have hl2 := HLEN.out c r rfl
          have HL3 := Lib.hid hl2
          clear h3 h4 h5 hl2
          go_wp2_with fail
          have hrow : CnAt (w3.alloc (.cells #[.int .i64 7, .pointer none, .pointer none, .pointer (some ⟨xx, 0, none⟩), .pointer (some ⟨xc, 0, none⟩), .string .empty] 105)) b (.two 7 x c) (.pointer (some ⟨w3.heap.size, 0, none⟩)) := ⟨_, _, _, rfl, H4.out.lt, heap_alloc_new _ _, ((HX.out.keep H2B.out (by simp)).keep H5B.out (by simp)).alloc _, H3.out.alloc _⟩
          have HROW := Lib.hid hrow
          clear hrow
          go_roundw
          · exact ⟨g, .two 7 x c, r, by omega, by have := HL3.out; have := HLL.out; omega, HROW.out, H4.out.keep ((Keeps.refl [] _).alloc _), H5X.out.alloc _, HDEC.out⟩
          · rw [leftOf_alloc H4.out, HL2.out.leftOf]
            have := HL3.out; have := HLL.out; omega
      · have hn124 : Px.sees l [124, 124] = false := by simpa using hs124
        clear hs124
        have HN124 := Lib.hid (passes_no wr b n o k l HL2.out [124, 124] hn124)
        have hop : ¬ Px.sees l [124, 124] = true := by simp [hn124]
        have hdec := HD.out
        unfold Px.condL at hdec
        rw [if_neg hop] at hdec
        have HDEC := Lib.hid hdec
        obtain ⟨xx, rfl⟩ := HX.out.ptr
        clear hdec hop HD HLT hn124
        go_wp2_with fail
        refine (HN124.out).mono ?_
        rintro e w' ⟨rfl, rfl⟩
        go_wp2_with fail
        go_ret
        rw [← HDEC.out]
        exact ⟨_, rfl, HX.out, HL2.out, HK.out⟩
/-- The contracts of conditions. -/
theorem cc : ∀ f, CC f := fun f => by
  induction f using Nat.strongRecOn with
  | _ f ih =>
    match f, ih with
    | 0, _ => exact ⟨fun w b n ts o k h ho hf => by omega, fun w b n ts o k h ho hf => by omega, fun w b n ts o k h ho hf => by omega⟩
    | f + 1, ih =>
      have hle : ∀ g, g ≤ f → CC g := fun g hg => ih g (by omega)
      have hlt : ∀ {ts : List Tok}, ts ≠ [] → ts.tail.length + 1 = ts.length := fun {ts} h => by
        match ts, h with
        | t :: r, _ => simp
      refine ⟨fun w b n ts o k h ho hf => ?_, fun w b n ts o k h ho hf => and_step f w b n o k ts h ho hf hle, fun w b n ts o k h ho hf => cond_step f w b n o k ts h ho hf hle⟩
      exact not_step f w b n o k ts h ho (by omega) (fun ho' w1 hne h' => (hle f (Nat.le_refl _)).not w1 b n ts.tail (o + 1) k h' (by omega) (by have := hlt hne; omega)) (fun ho' w1 hne h' => (hle f (Nat.le_refl _)).cond w1 b n ts.tail (o + 1) k h' (by omega) (by have := hlt hne; omega))
theorem cond_any (w : World) (b n o k : Nat) (ts : List Tok) (f : Nat) (h : PAt w b n ts o k) (ho : o ≤ 1000) (hf : 4 * ts.length + 6 ≤ f) :
    Calls Tryz.prog 207 #[pp b] w (RP CnAt (fun _ => k) w b n o (Px.cond f o ts)) := (cc f).cond w b n ts o k h ho hf
end Go.Proofs.YtbikifibfaaggaaGreatDoor
