/- Globals: the length of an array, the loop. -/
import Derived.Test.YtbikifibfaaggaaGreatDoorPAtt
namespace Go.Proofs.YtbikifibfaaggaaGreatDoor
open Go.RowKit Go.Shelf
open Lx (Tok Tx)
open Px (Ex Cn Sm Vr)

theorem FnAt.keepHi {w w' : World} {b : Nat} {p : Px.Fn × Nat} {v : Value} {S : List Nat} (h : FnAt w b p v) (hk : Keeps S w w') (hS : ∀ y ∈ S, y ≤ b) : FnAt w' b p v := by
  obtain ⟨vp, vl, vb, h1, h2, h3, h4⟩ := h
  exact ⟨vp, vl, vb, h1, h2.keep hk (fun y hy => .inl (hS y hy)), h3.keep hk (fun y hy => .inl (hS y hy)), h4.keepS hk hS⟩
theorem got_form_F {w' : World} {w0 : World} {g : Px.Got (Px.Fn × Nat)} {v : Value} (h : Val FnAt (.agg #[.string .empty, .slice none 0 0, .slice none 0 0, .slice none 0 0]) w0.heap.size w' g.val v) : ∃ (x : ByteArray) (A1 : Option Addr) (n1 c1 : Nat) (A2 : Option Addr) (n2 c2 : Nat) (A3 : Option Addr) (n3 c3 : Nat), v = .agg #[.string x, .slice A1 n1 c1, .slice A2 n2 c2, .slice A3 n3 c3] := by
  cases hv : g.val with
  | some a =>
    rw [hv] at h
    obtain ⟨b, _, vp, vl, vb, rfl, h1, h2, h3⟩ := h
    obtain ⟨_, _, rfl⟩ := h1.form
    obtain ⟨_, _, rfl⟩ := h2.form
    obtain ⟨_, _, rfl⟩ := h3.form
    exact ⟨_, _, _, _, _, _, _, _, _, _, rfl⟩
  | none =>
    rw [hv] at h
    subst h
    exact ⟨_, _, _, _, _, _, _, _, _, _, rfl⟩
set_option maxHeartbeats 4000000 in
set_option maxRecDepth 100000 in
theorem func_any (w : World) (l : Tx) (hl : l.length ≤ 5000) (he : ErrAt w) :
    Calls Tryz.prog 13 #[.string (strO l)] w (AttP FnAt (.agg #[.string .empty, .slice none 0 0, .slice none 0 0, .slice none 0 0]) w (Px.funcT l)) := by
  have HA := Lib.hid (fun w' (h : ErrAt w') => attempt_F w' l hl h)
  have HE := Lib.hid (he.keep ((Keeps.refl [] w).alloc (.cells #[.string .empty, .slice none 0 0, .slice none 0 0, .slice none 0 0] 26)))
  have HB := Lib.hid (show (w.alloc (.cells #[.string .empty, .slice none 0 0, .slice none 0 0, .slice none 0 0] 26)).heap[w.heap.size]? = some (.cells #[.string .empty, .slice none 0 0, .slice none 0 0, .slice none 0 0] 26 (0, 0)) from heap_alloc_new _ _)
  have HK0 := Lib.hid ((Keeps.refl [] w).alloc (.cells #[.string .empty, .slice none 0 0, .slice none 0 0, .slice none 0 0] 26))
  obtain ⟨GG, hgg⟩ : ∃ x, x = Px.funcT l := ⟨_, rfl⟩
  rw [← hgg] at HA ⊢
  obtain ⟨s, hs⟩ : ∃ s, s = strO l := ⟨_, rfl⟩
  rw [← hs] at HA ⊢
  clear hs hgg he
  go_enter Tryz.func13, Tryz.ntmps13
  go_wp2_with fail
  refine (HA.out _ HE.out).mono ?_
  rintro e w1 ⟨v, rfl, h1, h2⟩
  have HB := Lib.hid (block_keep HB.out h1 (by simp))
  have HK1 := Lib.hid (HK0.out.trans h1 (by simp))
  obtain ⟨x, A1, n1, c1, A2, n2, c2, A3, n3, c3, rfl⟩ := got_form_F h2
  have H2 := Lib.hid h2
  have HSZ := Lib.hid h1.size
  clear h1 h2
  obtain ⟨X0, hX0⟩ : ∃ x, x = w.heap.size := ⟨_, rfl⟩
  have HX0 := Lib.hid hX0
  rw [← hX0] at HB
  simp only [← hX0]
  clear hX0
  have ff0 := row_free HB.out 0
  have cc0 := row_cell HB.out 0
  have ff1 := row_free HB.out 1
  have cc1 := row_cell HB.out 1
  have ff2 := row_free HB.out 2
  have cc2 := row_cell HB.out 2
  have ff3 := row_free HB.out 3
  have cc3 := row_cell HB.out 3
  simp only [List.getElem?_toArray, List.getElem?_cons_zero, List.getElem?_cons_succ] at cc0 cc1 cc2 cc3
  go_wp2_with fail
  refine bodyPost_ret (v := .tuple #[.agg #[.string x, .slice A1 n1 c1, .slice A2 n2 c2, .slice A3 n3 c3], .int .i64 ((GG.pos : Nat) : Int), .int .i64 ((GG.err : Nat) : Int)]) (by simp [results, Tryz.results13, go_sem, cc0, cc1, cc2, cc3]) rfl ?_
  refine setsEnd (S := [X0]) (w := w1) ?_ ?_
  · repeat (refine Keeps.setCell ?_ (by simp) _)
    exact Keeps.refl _ _
  intro W hk
  have hx := HX0.out
  refine ⟨_, rfl, HK1.out.hi hk (by simp; omega), ?_⟩
  have h2 := H2.out
  have hsz := HSZ.out
  cases hv : GG.val with
  | none => rw [hv] at h2; exact h2
  | some a =>
    rw [hv] at h2
    obtain ⟨b, hb, h3⟩ := h2
    have hb' : w.heap.size + 1 ≤ b := by simpa using hb
    exact ⟨b, by omega, h3.keepHi hk (fun y hy => by simp at hy; omega)⟩
def IntAt (_ : World) (_ : Nat) (m : Nat) (v : Value) : Prop := v = .int .i64 (m : Int)
def numR (ts : List Tok) : Px.R Nat := if Px.isNum ts then .ok (Lx.val (Px.txt ts 0)) ts else .err 51 ts
theorem num_rp (w : World) (b n o k : Nat) (ts : List Tok) (h : PAt w b n ts o k) :
    Calls Tryz.prog 120 #[pp b] w (RP IntAt (fun _ => k) w b n o (numR ts)) := by
  unfold numR
  by_cases hy : Px.isNum ts = true
  · rw [if_pos hy]
    obtain ⟨t, r, rfl, hk⟩ := isNum_cons hy
    exact (pnumber_yes w b n o k t r h hk).mono fun e w' ⟨h1, h2⟩ => ⟨_, h1, rfl, h.keep h2, h2.mono (by simp)⟩
  · rw [if_neg hy]
    exact (pnumber_no w b n o k ts h (by simpa using hy)).mono fun e w' he => rp_stay h 51 e w' he
set_option maxHeartbeats 4000000 in
set_option maxRecDepth 100000 in
theorem length_any (w : World) (b n o k : Nat) (ts : List Tok) (h : PAt w b n ts o k) :
    Calls Tryz.prog 88 #[pp b] w (RP IntAt (fun _ => k) w b n o (Px.lenR ts)) := by
  obtain ⟨R, hR⟩ : ∃ R, R = Px.lenR ts := ⟨_, rfl⟩
  rw [← hR]
  unfold Px.lenR Px.want at hR
  have HC := Lib.hid (pass_rp w b n o k ts h [91] (by simp))
  obtain ⟨rr, hrr⟩ : ∃ x, x = Px.passR [91] ts := ⟨_, rfl⟩
  rw [← hrr] at HC hR
  have HR := Lib.hid hR
  clear hR hrr h
  cases rr with
  | err z r =>
    go_enter Tryz.func88, Tryz.ntmps88
    go_wp2_with fail
    refine (HC.out).mono ?_
    rintro e w1 ⟨rfl, h4, h5⟩
    have H4 := Lib.hid h4
    have H5 := Lib.hid h5
    clear h4 h5
    go_wp2
    rw [HR.out]
    exact ⟨rfl, rfl, H4.out, H5.out⟩
  | ok u r =>
    have hR := HR.out
    simp only [Px.bind_ok] at hR
    by_cases hy : Px.isNum r = true
    · rw [if_pos hy] at hR
      obtain ⟨t, r1, rfl, hk⟩ := isNum_cons hy
      rw [txt_cons] at hR
      obtain ⟨m, hm⟩ : ∃ m, m = Lx.val t.text := ⟨_, rfl⟩
      have HNU := Lib.hid (fun w' h' => pnumber_yes w' b n o k t r1 h' hk)
      rw [← hm] at hR HNU
      have HTK := Lib.hid (fun w' h' => take_any w' b n o k t r1 h')
      obtain ⟨x, hx⟩ : ∃ x, x = strO t.text := ⟨_, rfl⟩
      rw [← hx] at HTK
      simp only [List.tail_cons] at hR
      have HM := Lib.hid (show ∀ w', PAt w' b n (t :: r1) o k → m ≤ 9223372036854775807 from fun w' h' => by rw [hm]; exact ((h'.1.wf t (by simp)).num hk).2)
      have HN1 := Lib.hid (fun w' ok => pneed_any w' ok 51)
      have HN2 := Lib.hid (fun w' ok => pneed_any w' ok 53)
      clear hy hk hm hx
      by_cases h0 : m = 0
      · rw [if_pos h0] at hR
        have HR := Lib.hid hR
        have hd : decide ((0 : Int) < (m : Int)) = false := decide_eq_false (by omega)
        have HD := Lib.hid hd
        clear hR h0 hd
        go_enter Tryz.func88, Tryz.ntmps88
        go_wp2_with fail
        refine (HC.out).mono ?_
        rintro e w1 ⟨v1, rfl, h3, h4, h5⟩
        obtain rfl : v1 = .tuple #[] := h3
        have H4 := Lib.hid h4
        have H5 := Lib.hid h5
        clear h4 h5
        go_wp2_with fail
        refine (HNU.out _ H4.out).mono ?_
        rintro e w2 ⟨rfl, hk⟩
        have HK := Lib.hid hk
        clear hk
        go_wp2_with fail
        refine (HN1.out _ _).mono ?_
        rintro e w' ⟨he, rfl⟩
        rw [show decide (0 < m) = false from by have := HD.out; simpa using this] at he
        subst he
        go_wp2
        rw [HR.out]
        exact ⟨rfl, rfl, ⟨_, _, H4.out.keep HK.out⟩, H5.out.trans HK.out (by simp)⟩
      · rw [if_neg h0] at hR
        by_cases h1 : 1048576 < m
        · rw [if_pos h1] at hR
          have HR := Lib.hid hR
          have HD := Lib.hid (show 0 < m ∧ ¬ m ≤ 1048576 by omega)
          clear hR h0 h1
          go_enter Tryz.func88, Tryz.ntmps88
          go_wp2_with fail
          refine (HC.out).mono ?_
          rintro e w1 ⟨v1, rfl, h3, h4, h5⟩
          obtain rfl : v1 = .tuple #[] := h3
          have H4 := Lib.hid h4
          have H5 := Lib.hid h5
          clear h4 h5
          go_wp2_with fail
          refine (HNU.out _ H4.out).mono ?_
          rintro e w2 ⟨rfl, hk⟩
          have HK := Lib.hid hk
          clear hk
          go_wp2_with fail
          refine (HN1.out _ _).mono ?_
          rintro e w' ⟨he, rfl⟩
          rw [show decide (0 < m) = true from decide_eq_true HD.out.1] at he
          subst he
          go_wp2_with fail
          refine (HN2.out _ _).mono ?_
          rintro e w' ⟨he, rfl⟩
          first
            | rw [show decide ((m : Int) ≤ 1048576) = false from decide_eq_false (by have := HD.out.2; omega)] at he
            | rw [show decide (m ≤ 1048576) = false from decide_eq_false HD.out.2] at he
          subst he
          go_wp2
          rw [HR.out]
          exact ⟨rfl, rfl, ⟨_, _, H4.out.keep HK.out⟩, H5.out.trans HK.out (by simp)⟩
        · rw [if_neg h1] at hR
          simp only [Px.bind_ok] at hR
          have HD := Lib.hid (show 0 < m ∧ m ≤ 1048576 by omega)
          have HC2 := Lib.hid (fun w' h' => pass_rp w' b n o k r1 h' [93] (by simp))
          obtain ⟨rq, hrq⟩ : ∃ x, x = Px.passR [93] r1 := ⟨_, rfl⟩
          rw [← hrq] at HC2 hR
          have HR := Lib.hid hR
          clear hR h0 h1 hrq
          go_enter Tryz.func88, Tryz.ntmps88
          go_wp2_with fail
          refine (HC.out).mono ?_
          rintro e w1 ⟨v1, rfl, h3, h4, h5⟩
          obtain rfl : v1 = .tuple #[] := h3
          have H4 := Lib.hid h4
          have H5 := Lib.hid h5
          clear h4 h5
          go_wp2_with fail
          refine (HNU.out _ H4.out).mono ?_
          rintro e w2 ⟨rfl, hk⟩
          have HK := Lib.hid hk
          clear hk
          go_wp2_with fail
          refine (HN1.out _ _).mono ?_
          rintro e w' ⟨he, rfl⟩
          rw [show decide (0 < m) = true from decide_eq_true HD.out.1] at he
          subst he
          go_wp2_with fail
          refine (HN2.out _ _).mono ?_
          rintro e w' ⟨he, rfl⟩
          first
            | rw [show decide ((m : Int) ≤ 1048576) = true from decide_eq_true (by have := HD.out.2; omega)] at he
            | rw [show decide (m ≤ 1048576) = true from decide_eq_true HD.out.2] at he
          subst he
          go_wp2_with fail
          refine (HTK.out _ (H4.out.keep HK.out)).mono ?_
          rintro e w3 ⟨rfl, h6, h7⟩
          have H6 := Lib.hid h6
          have H7 := Lib.hid ((H5.out.trans HK.out (by simp)).trans h7 (fun _ h _ => h))
          clear h6 h7
          go_wp2_with fail
          refine (HC2.out _ H6.out).mono ?_
          intro e w4 hr
          cases rq with
          | err z r =>
            obtain ⟨rfl, h4, h5⟩ := hr
            have H8 := Lib.hid h4
            have H9 := Lib.hid (H7.out.trans h5 (fun _ h _ => h))
            clear h4 h5
            go_wp2
            rw [HR.out]
            exact ⟨rfl, rfl, H8.out, H9.out⟩
          | ok u4 r4 =>
            obtain ⟨_, rfl, rfl, h4, h5⟩ := hr
            have H8 := Lib.hid h4
            have H9 := Lib.hid (H7.out.trans h5 (fun _ h _ => h))
            have hmm := HD.out.2
            clear h4 h5
            go_wp2_with fail
            go_ret
            rw [HR.out]
            exact ⟨_, rfl, rfl, H8.out, H9.out⟩
    · rw [if_neg hy] at hR
      have HR := Lib.hid hR
      have HNU := Lib.hid (fun w' h' => pnumber_no w' b n o k r h' (by simpa using hy))
      clear hR hy
      go_enter Tryz.func88, Tryz.ntmps88
      go_wp2_with fail
      refine (HC.out).mono ?_
      rintro e w1 ⟨v1, rfl, h3, h4, h5⟩
      obtain rfl : v1 = .tuple #[] := h3
      have H4 := Lib.hid h4
      have H5 := Lib.hid h5
      clear h4 h5
      go_wp2_with fail
      refine (HNU.out _ H4.out).mono ?_
      rintro e w2 ⟨rfl, rfl⟩
      go_wp2
      rw [HR.out]
      exact ⟨rfl, rfl, ⟨_, _, H4.out⟩, H5.out⟩
end Go.Proofs.YtbikifibfaaggaaGreatDoor
