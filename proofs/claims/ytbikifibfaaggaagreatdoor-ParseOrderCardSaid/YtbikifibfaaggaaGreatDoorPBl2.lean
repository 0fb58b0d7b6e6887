/- A statement; a block. -/
import Derived.Test.YtbikifibfaaggaaGreatDoorPBlk
namespace Go.Proofs.YtbikifibfaaggaaGreatDoor
open Go.RowKit Go.Shelf
open Lx (Tok Tx)
open Px (Ex Cn Sm)

set_option maxHeartbeats 400000 in
theorem within_no_S (w : World) (b n o k : Nat) (ts : List Tok) (h : PAt w b n ts o k) (s : Tx) (hy : Px.sees ts s = false) (fv : Value) :
    Calls Tryz.prog 80 #[pp b, .string (strO s), fv] w fun e w' => e = .panicked (died 51) ∧ w = w' := by
  have HS := Lib.hid (sees_any w b n o k ts h s)
  rw [hy] at HS
  have HN := Lib.hid (fun w' => pneed_no w' 51)
  obtain ⟨y, hyy⟩ : ∃ y, y = strO s := ⟨_, rfl⟩
  rw [← hyy] at HS ⊢
  clear h hy hyy
  go_enter Tryz.func80, Tryz.ntmps80
  go_wp2_with fail
  refine (HS.out).mono ?_
  rintro e w' ⟨rfl, rfl⟩
  go_wp2_with fail
  refine (HN.out _).mono ?_
  rintro e w' ⟨rfl, rfl⟩
  go_wp2
  exact ⟨rfl, rfl, rfl⟩
set_option maxHeartbeats 400000 in
theorem within_deep_S (w : World) (b n o k : Nat) (ts : List Tok) (h : PAt w b n ts o k) (s : Tx) (hy : Px.sees ts s = true) (fv : Value) (ho : 40 ≤ o) (ho2 : o ≤ 1000) :
    Calls Tryz.prog 80 #[pp b, .string (strO s), fv] w fun e w' => e = .panicked (died 52) ∧ w = w' := by
  have HS := Lib.hid (sees_any w b n o k ts h s)
  rw [hy] at HS
  have HN := Lib.hid (fun w' => pneed_yes w' 51)
  have HN2 := Lib.hid (fun w' => pneed_no w' 52)
  have HLT := Lib.hid (show decide ((o : Int) < 40) = false by simp; omega)
  have c2 := h.open.1
  obtain ⟨y, hyy⟩ : ∃ y, y = strO s := ⟨_, rfl⟩
  rw [← hyy] at HS ⊢
  clear h hy hyy ho
  go_enter Tryz.func80, Tryz.ntmps80
  go_wp2_with fail
  refine (HS.out).mono ?_
  rintro e w' ⟨rfl, rfl⟩
  go_wp2_with fail
  refine (HN.out _).mono ?_
  rintro e w' ⟨rfl, rfl⟩
  go_wp2_with fail
  rw [HLT.out]
  refine (HN2.out _).mono ?_
  rintro e w' ⟨rfl, rfl⟩
  go_wp2
  exact ⟨rfl, rfl, rfl⟩
set_option maxHeartbeats 1000000 in
set_option maxRecDepth 100000 in
theorem within_stmts (w : World) (b n o k : Nat) (t : Tok) (r : List Tok) (h : PAt w b n (t :: r) o k) (s : Tx) (hy : Px.sees (t :: r) s = true) (ho : o < 40) (lo : Nat) (hlo : lo ≤ w.heap.size) (rr : Px.R (List Sm × Nat))
    (hF : ∀ w1, PAt w1 b n r (o + 1) k → lo ≤ w1.heap.size → Keeps [b] w w1 → Calls Tryz.prog 83 #[pp b] w1 (RP (SsAt lo) Prod.snd w1 b n (o + 1) rr)) :
    Calls Tryz.prog 80 #[pp b, .string (strO s), .func (.func 83) #[pp b] #[]] w (RP (SsAt lo) Prod.snd w b n o rr) := by
  have HS := Lib.hid (sees_any w b n o k (t :: r) h s)
  rw [hy] at HS
  have HN := Lib.hid (fun w' => pneed_yes w' 51)
  have HN2 := Lib.hid (fun w' => pneed_yes w' 52)
  have HT := Lib.hid (take_any w b n o k t r h)
  have HLT := Lib.hid (show decide ((o : Int) < 40) = true by simp; omega)
  have c2 := h.open.1
  obtain ⟨y, hyy⟩ : ∃ y, y = strO s := ⟨_, rfl⟩
  obtain ⟨x, hx⟩ : ∃ x, x = strO t.text := ⟨_, rfl⟩
  rw [← hyy] at HS ⊢
  rw [← hx] at HT
  have HF := Lib.hid hF
  clear h hy hyy hx hF
  go_enter Tryz.func80, Tryz.ntmps80
  go_wp2_with fail
  refine (HS.out).mono ?_
  rintro e w' ⟨rfl, rfl⟩
  go_wp2_with fail
  refine (HN.out _).mono ?_
  rintro e w' ⟨rfl, rfl⟩
  go_wp2_with fail
  try rw [HLT.out]
  refine (HN2.out _).mono ?_
  rintro e w' ⟨rfl, rfl⟩
  go_wp2_with fail
  refine (HT.out).mono ?_
  rintro e w1 ⟨rfl, h1, h2⟩
  have H1 := Lib.hid h1
  have H2 := Lib.hid h2
  obtain ⟨d2, e2, _, _⟩ := h1.open
  clear h1 h2 c2
  go_wp2_with fail
  refine (HF.out _ (H1.out.setOpen (o + 1)) (by have := H2.out.size; simp [World.setCell]; omega) (H2.out.setCell (by simp) _)).mono ?_
  intro e w2 hr
  cases rr with
  | ok a ts =>
    obtain ⟨v, rfl, h3, h4, h5⟩ := hr
    have H3 := Lib.hid h3
    have H4 := Lib.hid h4
    have H5 := Lib.hid h5
    obtain ⟨d3, e3, _, _⟩ := h4.open
    clear h3 h4 h5 d2 e2
    go_wp2_with fail
    go_ret
    exact ⟨v, rfl, H3.out.keepb ((Keeps.refl [b] _).setCell (by simp) _), by simpa using H4.out.setOpen o, ((H2.out.setCell (by simp) _).trans H5.out (fun _ h _ => h)).setCell (by simp) _⟩
  | err z ts =>
    obtain ⟨rfl, h4, h5⟩ := hr
    have H4 := Lib.hid h4
    have H5 := Lib.hid h5
    clear h4 h5 d2 e2
    go_wp2
    exact ⟨rfl, rfl, H4.out, (H2.out.setCell (by simp) _).trans H5.out (fun _ h _ => h)⟩
set_option maxHeartbeats 1000000 in
set_option maxRecDepth 100000 in
theorem block_ok (w : World) (b n o k : Nat) (ts : List Tok) (h : PAt w b n ts o k) (hy : Px.sees ts [123] = true) (ho : o < 40) (rr : Px.R (List Sm × Nat))
    (hF : ∀ w1, PAt w1 b n ts.tail (o + 1) k → Calls Tryz.prog 83 #[pp b] w1 (RP (SsAt w1.heap.size) Prod.snd w1 b n (o + 1) rr)) :
    Calls Tryz.prog 178 #[pp b] w (RP (SsAt w.heap.size) Prod.snd w b n o (rr.bind fun p r => Px.want [125] r fun r => .ok p r)) := by
  obtain ⟨t, ht⟩ := tail_of (by simp) hy
  obtain ⟨r, hr⟩ : ∃ r, r = ts.tail := ⟨_, rfl⟩
  rw [← hr] at ht hF
  rw [ht] at h hy
  have HW := Lib.hid (within_stmts w b n o k t r h [123] hy ho w.heap.size (Nat.le_refl _) rr (fun w1 h1 hl _ => (hF w1 h1).mono fun e w' hp => by
    cases rr with
    | ok a ts =>
      obtain ⟨v, q1, ⟨B, q2, q3⟩, q4, q5⟩ := hp
      exact ⟨v, q1, ⟨B, q2, fun g hg => ⟨by have := (q3 g hg).1; omega, (q3 g hg).2⟩⟩, q4, q5⟩
    | err z ts => exact hp))
  have hmf : ∀ (fn : Fn) (first cap : Array Value) (w : World), (Instr.makeFunc fn first cap).run Tryz.prog w = .ok (.func fn first cap) w := fun _ _ _ _ => rfl
  obtain ⟨R, hR⟩ : ∃ R, R = (rr.bind fun p r => Px.want [125] r fun r => .ok p r) := ⟨_, rfl⟩
  rw [← hR]
  have HR := Lib.hid hR
  clear h hy ho hF ht hr hR
  go_enter Tryz.func178, Tryz.ntmps178
  go_wp2_with fail
  refine (HW.out).mono ?_
  intro e w2 hr
  cases rr with
  | err z ts =>
    obtain ⟨rfl, h4, h5⟩ := hr
    have H4 := Lib.hid h4
    have H5 := Lib.hid h5
    clear h4 h5
    go_wp2
    rw [HR.out]
    exact ⟨rfl, rfl, H4.out, H5.out⟩
  | ok a ts =>
    obtain ⟨v, rfl, h3, h4, h5⟩ := hr
    have H3 := Lib.hid h3
    have H4 := Lib.hid h4
    have H5 := Lib.hid h5
    obtain ⟨A, c, rfl⟩ := h3.form
    clear h3 h4 h5
    have HP := Lib.hid (fun w' (h' : PAt w' b n ts o a.2) => pass_rp w' b n o a.2 ts h' [125] (by simp))
    have hR := HR.out
    simp only [Px.bind_ok] at hR
    unfold Px.want at hR
    obtain ⟨rq, hrq⟩ : ∃ x, x = Px.passR [125] ts := ⟨_, rfl⟩
    rw [← hrq] at HP hR
    have HR := Lib.hid hR
    clear hR hrq
    go_wp2_with fail
    refine (HP.out _ H4.out).mono ?_
    intro e w3 hr
    cases rq with
    | err z r =>
      obtain ⟨rfl, h4, h5⟩ := hr
      have H6 := Lib.hid h4
      have H7 := Lib.hid (H5.out.trans h5 (fun _ h _ => h))
      clear h4 h5
      go_wp2
      rw [HR.out]
      exact ⟨rfl, rfl, H6.out, H7.out⟩
    | ok u r =>
      obtain ⟨v3, rfl, h3, h4, h5⟩ := hr
      obtain rfl : v3 = .tuple #[] := h3
      have H6 := Lib.hid h4
      have H7 := Lib.hid (H5.out.trans h5 (fun _ h _ => h))
      have H8 := Lib.hid (H3.out.keepb h5)
      clear h4 h5
      go_wp2_with fail
      go_ret
      rw [HR.out]
      exact ⟨_, rfl, H8.out, H6.out, H7.out⟩
set_option maxHeartbeats 1000000 in
set_option maxRecDepth 100000 in
theorem block_no (w : World) (b n o k : Nat) (ts : List Tok) (h : PAt w b n ts o k) (hy : Px.sees ts [123] = false) :
    Calls Tryz.prog 178 #[pp b] w fun e w' => e = .panicked (died 51) ∧ w = w' := by
  have HW := Lib.hid (fun fv => within_no_S w b n o k ts h [123] hy fv)
  have hmf : ∀ (fn : Fn) (first cap : Array Value) (w : World), (Instr.makeFunc fn first cap).run Tryz.prog w = .ok (.func fn first cap) w := fun _ _ _ _ => rfl
  clear h hy
  go_enter Tryz.func178, Tryz.ntmps178
  go_wp2_with fail
  refine (HW.out _).mono ?_
  rintro e w' ⟨rfl, rfl⟩
  go_wp2
  exact ⟨rfl, rfl, rfl⟩
set_option maxHeartbeats 1000000 in
set_option maxRecDepth 100000 in
theorem block_deep (w : World) (b n o k : Nat) (ts : List Tok) (h : PAt w b n ts o k) (hy : Px.sees ts [123] = true) (ho : 40 ≤ o) (ho2 : o ≤ 1000) :
    Calls Tryz.prog 178 #[pp b] w fun e w' => e = .panicked (died 52) ∧ w = w' := by
  have HW := Lib.hid (fun fv => within_deep_S w b n o k ts h [123] hy fv ho ho2)
  have hmf : ∀ (fn : Fn) (first cap : Array Value) (w : World), (Instr.makeFunc fn first cap).run Tryz.prog w = .ok (.func fn first cap) w := fun _ _ _ _ => rfl
  clear h hy ho
  go_enter Tryz.func178, Tryz.ntmps178
  go_wp2_with fail
  refine (HW.out _).mono ?_
  rintro e w' ⟨rfl, rfl⟩
  go_wp2
  exact ⟨rfl, rfl, rfl⟩
set_option maxHeartbeats 4000000 in
set_option maxRecDepth 100000 in
theorem seesStmt_any (w : World) (b n o k : Nat) (ts : List Tok) (h : PAt w b n ts o k) :
    Calls Tryz.prog 148 #[pp b] w fun e w' => e = .returned (.bool (Px.seesStmt ts)) ∧ w = w' := by
  have HS := Lib.hid (seesName_any w b n o k ts h)
  have HT := Lib.hid (text_any w b n o k ts h 0 (by omega))
  have hq : Px.seesStmt ts = (Px.txt ts 0 == [42] || Px.txt ts 0 == [114, 101, 116, 117, 114, 110] || Px.txt ts 0 == [97, 115, 115, 101, 114, 116] || Px.txt ts 0 == [105, 102] || Px.txt ts 0 == [119, 104, 105, 108, 101] || Px.isName ts) := rfl
  rw [hq]
  have hl := strO_toList (Px.txt ts 0)
  obtain ⟨x, hs⟩ : ∃ x, x = strO (Px.txt ts 0) := ⟨_, rfl⟩
  rw [← hs] at hl HT
  rw [← hl]
  obtain ⟨i, hi⟩ : ∃ i, i = Px.isName ts := ⟨_, rfl⟩
  rw [← hi] at HS ⊢
  clear hl hs hi hq h
  go_enter Tryz.func148, Tryz.ntmps148
  go_wp2_with fail
  refine (HT.out).mono ?_
  rintro e w' ⟨rfl, rfl⟩
  go_wp2_with ((with_reducible refine (HS.out).mono ?_); rintro e w' ⟨rfl, rfl⟩)
  all_goals
    go_ret
    refine ⟨ret_bool ?_, rfl⟩
    first | (exfalso; simp_all; done) | (simp [*]; done)
end Go.Proofs.YtbikifibfaaggaaGreatDoor
