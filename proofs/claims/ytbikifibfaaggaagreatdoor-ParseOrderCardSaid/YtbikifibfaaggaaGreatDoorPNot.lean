/- Conditions in memory; not and its ways. -/
import Derived.Test.YtbikifibfaaggaaGreatDoorPExpr
import Derived.Test.YtbikifibfaaggaaGreatDoorPMath2
namespace Go.Proofs.YtbikifibfaaggaaGreatDoor
open Go.RowKit Go.Shelf
open Lx (Tok Tx)
open Px (Ex Cn)

/-- A condition in memory, above block b. -/
def CnAt (w : World) (b : Nat) : Cn → Value → Prop
  | .cmp k a c, v => ∃ x va vc, v = .pointer (some ⟨x, 0, none⟩) ∧ b < x ∧ w.heap[x]? = some (.cells #[.int .i64 (k : Int), va, vc, .pointer none, .pointer none, .string .empty] 105 (0, 0)) ∧ ExAt w b a va ∧ ExAt w b c vc
  | .two k a c, v => ∃ x va vc, v = .pointer (some ⟨x, 0, none⟩) ∧ b < x ∧ w.heap[x]? = some (.cells #[.int .i64 (k : Int), .pointer none, .pointer none, va, vc, .string .empty] 105 (0, 0)) ∧ CnAt w b a va ∧ CnAt w b c vc
  | .not a, v => ∃ x va, v = .pointer (some ⟨x, 0, none⟩) ∧ b < x ∧ w.heap[x]? = some (.cells #[.int .i64 8, .pointer none, .pointer none, va, .pointer none, .string .empty] 105 (0, 0)) ∧ CnAt w b a va
  | .null s, v => ∃ x, v = .pointer (some ⟨x, 0, none⟩) ∧ b < x ∧ w.heap[x]? = some (.cells #[.int .i64 9, .pointer none, .pointer none, .pointer none, .pointer none, .string (strO s)] 105 (0, 0))
theorem CnAt.keep {w w' : World} {b : Nat} {S : List Nat} (hk : Keeps S w w') (hS : ∀ y ∈ S, y ≤ b) : ∀ {e : Cn} {v : Value}, CnAt w b e v → CnAt w' b e v
  | .cmp k a c, v, h => by
    obtain ⟨x, va, vc, h1, h2, h3, h4, h5⟩ := h
    exact ⟨x, va, vc, h1, h2, block_keep h3 hk (fun h => by have := hS _ h; omega), h4.keep hk hS, h5.keep hk hS⟩
  | .two k a c, v, h => by
    obtain ⟨x, va, vc, h1, h2, h3, h4, h5⟩ := h
    exact ⟨x, va, vc, h1, h2, block_keep h3 hk (fun h => by have := hS _ h; omega), h4.keep hk hS, h5.keep hk hS⟩
  | .not a, v, h => by
    obtain ⟨x, va, h1, h2, h3, h4⟩ := h
    exact ⟨x, va, h1, h2, block_keep h3 hk (fun h => by have := hS _ h; omega), h4.keep hk hS⟩
  | .null s, v, h => by
    obtain ⟨x, h1, h2, h3⟩ := h
    exact ⟨x, h1, h2, block_keep h3 hk (fun h => by have := hS _ h; omega)⟩
theorem CnAt.ptr {w : World} {b : Nat} {e : Cn} {v : Value} (h : CnAt w b e v) : ∃ x, v = .pointer (some ⟨x, 0, none⟩) := by
  cases e <;> (obtain ⟨x, h1⟩ := h; first | exact ⟨x, h1.1⟩ | (obtain ⟨_, h1, _⟩ := h1; exact ⟨x, h1⟩) | (obtain ⟨_, _, h1, _⟩ := h1; exact ⟨x, h1⟩))
theorem CnAt.alloc {w : World} {b : Nat} {a : Cn} {v : Value} (h : CnAt w b a v) (obj : Obj) : CnAt (w.alloc obj) b a v := h.keep ((Keeps.refl [] _).alloc _) (by simp)
theorem cn_done {w w2 : World} {b n o k : Nat} {ts : List Tok} {a : Cn} {obj : Obj} (h5 : Keeps [b] w w2) (h4 : PAt w2 b n ts o k) (h : CnAt (w2.alloc obj) b a (.pointer (some ⟨w2.heap.size, 0, none⟩))) :
    RP CnAt (fun _ => k) w b n o (.ok a ts) (.returned (.pointer (some ⟨w2.heap.size, 0, none⟩))) (w2.alloc obj) :=
  ⟨_, rfl, h, h4.keep ((Keeps.refl [] _).alloc _), h5.alloc _⟩
set_option maxHeartbeats 400000 in
theorem within_deep_C (w : World) (b n o k : Nat) (ts : List Tok) (h : PAt w b n ts o k) (s : Tx) (hy : Px.sees ts s = true) (fv : Value) (ho : 40 ≤ o) (ho2 : o ≤ 1000) :
    Calls Tryz.prog 235 #[pp b, .string (strO s), fv] w fun e w' => e = .panicked (died 52) ∧ w = w' := by
  have HS := Lib.hid (sees_any w b n o k ts h s)
  rw [hy] at HS
  have HN := Lib.hid (fun w' => pneed_yes w' 51)
  have HN2 := Lib.hid (fun w' => pneed_no w' 52)
  have HLT := Lib.hid (show decide ((o : Int) < 40) = false by simp; omega)
  have c2 := h.open.1
  obtain ⟨y, hyy⟩ : ∃ y, y = strO s := ⟨_, rfl⟩
  rw [← hyy] at HS ⊢
  clear h hy hyy ho
  go_enter Tryz.func235, Tryz.ntmps235
  go_wp2_with fail
  refine (HS.out).mono ?_
  rintro e w' ⟨rfl, rfl⟩
  go_wp2_with fail
  refine (HN.out _).mono ?_
  rintro e w' ⟨rfl, rfl⟩
  go_wp2_with fail
  rw [HLT.out]
  refine (HN2.out _).mono ?_
  rintro e w' ⟨rfl, rfl⟩
  go_wp2
  exact ⟨rfl, rfl, rfl⟩
set_option maxHeartbeats 1000000 in
set_option maxRecDepth 100000 in
theorem within_not (w : World) (b n o k : Nat) (t : Tok) (r : List Tok) (h : PAt w b n (t :: r) o k) (s : Tx) (hy : Px.sees (t :: r) s = true) (ho : o < 40) (kk : Cn → Nat) (rr : Px.R Cn)
    (hF : ∀ w1, PAt w1 b n r (o + 1) k → Calls Tryz.prog 230 #[pp b] w1 (RP CnAt kk w1 b n (o + 1) rr)) :
    Calls Tryz.prog 235 #[pp b, .string (strO s), .func (.func 230) #[pp b] #[]] w (RP CnAt kk w b n o rr) := by
  have HS := Lib.hid (sees_any w b n o k (t :: r) h s)
  rw [hy] at HS
  have HN := Lib.hid (fun w' => pneed_yes w' 51)
  have HN2 := Lib.hid (fun w' => pneed_yes w' 52)
  have HT := Lib.hid (take_any w b n o k t r h)
  have HLT := Lib.hid (show decide ((o : Int) < 40) = true by simp; omega)
  have c2 := h.open.1
  obtain ⟨y, hyy⟩ : ∃ y, y = strO s := ⟨_, rfl⟩
  obtain ⟨x, hx⟩ : ∃ x, x = strO t.text := ⟨_, rfl⟩
  rw [← hyy] at HS ⊢
  rw [← hx] at HT
  have HF := Lib.hid hF
  clear h hy hyy hx hF
  go_enter Tryz.func235, Tryz.ntmps235
  go_wp2_with fail
  refine (HS.out).mono ?_
  rintro e w' ⟨rfl, rfl⟩
  go_wp2_with fail
  refine (HN.out _).mono ?_
  rintro e w' ⟨rfl, rfl⟩
  go_wp2_with fail
  try rw [HLT.out]
  refine (HN2.out _).mono ?_
  rintro e w' ⟨rfl, rfl⟩
  go_wp2_with fail
  refine (HT.out).mono ?_
  rintro e w1 ⟨rfl, h1, h2⟩
  have H1 := Lib.hid h1
  have H2 := Lib.hid h2
  obtain ⟨d2, e2, _, _⟩ := h1.open
  clear h1 h2 c2
  go_wp2_with fail
  refine (HF.out _ (H1.out.setOpen (o + 1))).mono ?_
  intro e w2 hr
  cases rr with
  | ok a ts =>
    obtain ⟨v, rfl, h3, h4, h5⟩ := hr
    have H3 := Lib.hid h3
    have H4 := Lib.hid h4
    have H5 := Lib.hid h5
    obtain ⟨d3, e3, _, _⟩ := h4.open
    clear h3 h4 h5 d2 e2
    go_wp2_with fail
    go_ret
    exact ⟨v, rfl, H3.out.keep ((Keeps.refl [b] _).setCell (by simp) _) (by simp), by simpa using H4.out.setOpen o, ((H2.out.setCell (by simp) _).trans H5.out (fun _ h _ => h)).setCell (by simp) _⟩
  | err z ts =>
    obtain ⟨rfl, h4, h5⟩ := hr
    have H4 := Lib.hid h4
    have H5 := Lib.hid h5
    clear h4 h5 d2 e2
    go_wp2
    exact ⟨rfl, rfl, H4.out, (H2.out.setCell (by simp) _).trans H5.out (fun _ h _ => h)⟩
set_option maxHeartbeats 1000000 in
set_option maxRecDepth 100000 in
theorem within_cond (w : World) (b n o k : Nat) (t : Tok) (r : List Tok) (h : PAt w b n (t :: r) o k) (s : Tx) (hy : Px.sees (t :: r) s = true) (ho : o < 40) (kk : Cn → Nat) (rr : Px.R Cn)
    (hF : ∀ w1, PAt w1 b n r (o + 1) k → Calls Tryz.prog 207 #[pp b] w1 (RP CnAt kk w1 b n (o + 1) rr)) :
    Calls Tryz.prog 235 #[pp b, .string (strO s), .func (.func 207) #[pp b] #[]] w (RP CnAt kk w b n o rr) := by
  have HS := Lib.hid (sees_any w b n o k (t :: r) h s)
  rw [hy] at HS
  have HN := Lib.hid (fun w' => pneed_yes w' 51)
  have HN2 := Lib.hid (fun w' => pneed_yes w' 52)
  have HT := Lib.hid (take_any w b n o k t r h)
  have HLT := Lib.hid (show decide ((o : Int) < 40) = true by simp; omega)
  have c2 := h.open.1
  obtain ⟨y, hyy⟩ : ∃ y, y = strO s := ⟨_, rfl⟩
  obtain ⟨x, hx⟩ : ∃ x, x = strO t.text := ⟨_, rfl⟩
  rw [← hyy] at HS ⊢
  rw [← hx] at HT
  have HF := Lib.hid hF
  clear h hy hyy hx hF
  go_enter Tryz.func235, Tryz.ntmps235
  go_wp2_with fail
  refine (HS.out).mono ?_
  rintro e w' ⟨rfl, rfl⟩
  go_wp2_with fail
  refine (HN.out _).mono ?_
  rintro e w' ⟨rfl, rfl⟩
  go_wp2_with fail
  try rw [HLT.out]
  refine (HN2.out _).mono ?_
  rintro e w' ⟨rfl, rfl⟩
  go_wp2_with fail
  refine (HT.out).mono ?_
  rintro e w1 ⟨rfl, h1, h2⟩
  have H1 := Lib.hid h1
  have H2 := Lib.hid h2
  obtain ⟨d2, e2, _, _⟩ := h1.open
  clear h1 h2 c2
  go_wp2_with fail
  refine (HF.out _ (H1.out.setOpen (o + 1))).mono ?_
  intro e w2 hr
  cases rr with
  | ok a ts =>
    obtain ⟨v, rfl, h3, h4, h5⟩ := hr
    have H3 := Lib.hid h3
    have H4 := Lib.hid h4
    have H5 := Lib.hid h5
    obtain ⟨d3, e3, _, _⟩ := h4.open
    clear h3 h4 h5 d2 e2
    go_wp2_with fail
    go_ret
    exact ⟨v, rfl, H3.out.keep ((Keeps.refl [b] _).setCell (by simp) _) (by simp), by simpa using H4.out.setOpen o, ((H2.out.setCell (by simp) _).trans H5.out (fun _ h _ => h)).setCell (by simp) _⟩
  | err z ts =>
    obtain ⟨rfl, h4, h5⟩ := hr
    have H4 := Lib.hid h4
    have H5 := Lib.hid h5
    clear h4 h5 d2 e2
    go_wp2
    exact ⟨rfl, rfl, H4.out, (H2.out.setCell (by simp) _).trans H5.out (fun _ h _ => h)⟩
set_option maxHeartbeats 1000000 in
set_option maxRecDepth 100000 in
theorem not_not_deep (w : World) (b n o k : Nat) (ts : List Tok) (h : PAt w b n ts o k) (hy : Px.sees ts [33] = true) (ho : 40 ≤ o) (ho2 : o ≤ 1000) :
    Calls Tryz.prog 230 #[pp b] w fun e w' => e = .panicked (died 52) ∧ w = w' := by
  have HS := Lib.hid (sees_any w b n o k ts h [33])
  rw [hy] at HS
  have HW := Lib.hid (fun fv => within_deep_C w b n o k ts h [33] hy fv ho ho2)
  clear h hy ho
  go_enter Tryz.func230, Tryz.ntmps230
  go_wp2_with fail
  refine (HS.out).mono ?_
  rintro e w' ⟨rfl, rfl⟩
  go_wp2_with fail
  refine (HW.out _).mono ?_
  rintro e w' ⟨rfl, rfl⟩
  go_wp2
  exact ⟨rfl, rfl, rfl⟩
set_option maxHeartbeats 1000000 in
set_option maxRecDepth 100000 in
theorem not_not (w : World) (b n o k : Nat) (ts : List Tok) (h : PAt w b n ts o k) (hy : Px.sees ts [33] = true) (ho : o < 40) (rr : Px.R Cn)
    (hF : ∀ w1, PAt w1 b n ts.tail (o + 1) k → Calls Tryz.prog 230 #[pp b] w1 (RP CnAt (fun _ => k) w1 b n (o + 1) rr)) :
    Calls Tryz.prog 230 #[pp b] w (RP CnAt (fun _ => k) w b n o (rr.bind fun a r => .ok (.not a) r)) := by
  have HS := Lib.hid (sees_any w b n o k ts h [33])
  rw [hy] at HS
  obtain ⟨t, ht⟩ := tail_of (by simp) hy
  obtain ⟨r, hr⟩ : ∃ r, r = ts.tail := ⟨_, rfl⟩
  rw [← hr] at ht hF
  rw [ht] at h hy
  have HW := Lib.hid (within_not w b n o k t r h [33] hy ho (fun _ => k) rr hF)
  have hmf : ∀ (fn : Fn) (first cap : Array Value) (w : World), (Instr.makeFunc fn first cap).run Tryz.prog w = .ok (.func fn first cap) w := fun _ _ _ _ => rfl
  clear h hy ho hF ht hr
  go_enter Tryz.func230, Tryz.ntmps230
  go_wp2_with fail
  refine (HS.out).mono ?_
  rintro e w' ⟨rfl, rfl⟩
  go_wp2_with fail
  refine (HW.out).mono ?_
  intro e w2 hr
  cases rr with
  | ok a ts =>
    obtain ⟨v, rfl, h3, h4, h5⟩ := hr
    have H3 := Lib.hid h3
    have H4 := Lib.hid h4
    have H5 := Lib.hid h5
    obtain ⟨x, rfl⟩ := h3.ptr
    clear h3 h4 h5
    go_wp2_with fail
    go_ret
    exact cn_done H5.out H4.out ⟨_, _, rfl, H4.out.lt, heap_alloc_new _ _, H3.out.alloc _⟩
  | err z ts =>
    obtain ⟨rfl, h4, h5⟩ := hr
    have H4 := Lib.hid h4
    have H5 := Lib.hid h5
    clear h4 h5
    go_wp2
    exact ⟨rfl, rfl, H4.out, H5.out⟩
set_option maxHeartbeats 1000000 in
set_option maxRecDepth 100000 in
theorem not_par_deep (w : World) (b n o k : Nat) (ts : List Tok) (h : PAt w b n ts o k) (hn : Px.sees ts [33] = false) (hy : Px.sees ts [40] = true) (ho : 40 ≤ o) (ho2 : o ≤ 1000) :
    Calls Tryz.prog 230 #[pp b] w fun e w' => e = .panicked (died 52) ∧ w = w' := by
  have HS := Lib.hid (sees_any w b n o k ts h [33])
  rw [hn] at HS
  have HS2 := Lib.hid (sees_any w b n o k ts h [40])
  rw [hy] at HS2
  have HW := Lib.hid (fun fv => within_deep_C w b n o k ts h [40] hy fv ho ho2)
  clear h hy ho
  go_enter Tryz.func230, Tryz.ntmps230
  go_wp2_with fail
  refine (HS.out).mono ?_
  rintro e w' ⟨rfl, rfl⟩
  go_wp2_with fail
  refine (HS2.out).mono ?_
  rintro e w' ⟨rfl, rfl⟩
  go_wp2_with fail
  refine (HW.out _).mono ?_
  rintro e w' ⟨rfl, rfl⟩
  go_wp2
  exact ⟨rfl, rfl, rfl⟩
set_option maxHeartbeats 1000000 in
set_option maxRecDepth 100000 in
theorem not_par (w : World) (b n o k : Nat) (ts : List Tok) (h : PAt w b n ts o k) (hn : Px.sees ts [33] = false) (hy : Px.sees ts [40] = true) (ho : o < 40) (rr : Px.R Cn)
    (hF : ∀ w1, PAt w1 b n ts.tail (o + 1) k → Calls Tryz.prog 207 #[pp b] w1 (RP CnAt (fun _ => k) w1 b n (o + 1) rr)) :
    Calls Tryz.prog 230 #[pp b] w (RP CnAt (fun _ => k) w b n o (rr.bind fun a r => if Px.sees r [41] then .ok a r.tail else .err 51 r)) := by
  have HS := Lib.hid (sees_any w b n o k ts h [33])
  rw [hn] at HS
  have HS2 := Lib.hid (sees_any w b n o k ts h [40])
  rw [hy] at HS2
  obtain ⟨t, ht⟩ := tail_of (by simp) hy
  obtain ⟨r, hr⟩ : ∃ r, r = ts.tail := ⟨_, rfl⟩
  rw [← hr] at ht hF
  rw [ht] at h hy
  have HW := Lib.hid (within_cond w b n o k t r h [40] hy ho (fun _ => k) rr hF)
  have hmf : ∀ (fn : Fn) (first cap : Array Value) (w : World), (Instr.makeFunc fn first cap).run Tryz.prog w = .ok (.func fn first cap) w := fun _ _ _ _ => rfl
  clear h hy ho hF ht hr
  go_enter Tryz.func230, Tryz.ntmps230
  go_wp2_with fail
  refine (HS.out).mono ?_
  rintro e w' ⟨rfl, rfl⟩
  go_wp2_with fail
  refine (HS2.out).mono ?_
  rintro e w' ⟨rfl, rfl⟩
  go_wp2_with fail
  refine (HW.out).mono ?_
  intro e w2 hr
  cases rr with
  | ok a ts =>
    obtain ⟨v, rfl, h3, h4, h5⟩ := hr
    have H3 := Lib.hid h3
    have H4 := Lib.hid h4
    have H5 := Lib.hid h5
    obtain ⟨x, rfl⟩ := h3.ptr
    clear h3 h4 h5
    by_cases hc : Px.sees ts [41] = true
    · have HP := Lib.hid (pass_yes w2 b n o k ts H4.out [41] (by simp) hc)
      have HC := Lib.hid hc
      clear hc
      go_wp2_with fail
      refine (HP.out).mono ?_
      rintro e w3 ⟨rfl, h6, h7⟩
      have H6 := Lib.hid h6
      have H7 := Lib.hid h7
      clear h6 h7
      go_wp2_with fail
      go_ret
      unfold Px.R.bind
      simp only [HC.out, if_true]
      exact ⟨_, rfl, H3.out.keep H7.out (by simp), H6.out, H5.out.trans H7.out (fun _ h _ => h)⟩
    · have hc' : Px.sees ts [41] = false := by simpa using hc
      have HP := Lib.hid (pass_no w2 b n o k ts H4.out [41] hc')
      have HC := Lib.hid hc'
      clear hc hc'
      go_wp2_with fail
      refine (HP.out).mono ?_
      rintro e w3 ⟨rfl, rfl⟩
      go_wp2
      unfold Px.R.bind
      simp only [HC.out]
      exact ⟨rfl, rfl, ⟨_, _, H4.out⟩, H5.out⟩
  | err z ts =>
    obtain ⟨rfl, h4, h5⟩ := hr
    have H4 := Lib.hid h4
    have H5 := Lib.hid h5
    clear h4 h5
    go_wp2
    exact ⟨rfl, rfl, H4.out, H5.out⟩
set_option maxHeartbeats 1000000 in
set_option maxRecDepth 100000 in
theorem seesNull_any (w : World) (b n o k : Nat) (ts : List Tok) (h : PAt w b n ts o k) :
    Calls Tryz.prog 236 #[pp b] w fun e w' => e = .returned (.bool (Px.isNull ts)) ∧ w = w' := by
  have HS := Lib.hid (seesName_any w b n o k ts h)
  have HT1 := Lib.hid (text_any w b n o k ts h 1 (by omega))
  have HT2 := Lib.hid (text_any w b n o k ts h 2 (by omega))
  have HI := Lib.hid (show Px.isNull ts = (Px.isName ts && ((Px.txt ts 1 == [61, 61] || Px.txt ts 1 == [33, 61]) && Px.txt ts 2 == [110, 117, 108, 108])) from rfl)
  have hx := strO_toList (Px.txt ts 1)
  have hy := strO_toList (Px.txt ts 2)
  obtain ⟨x, hxx⟩ : ∃ x, x = strO (Px.txt ts 1) := ⟨_, rfl⟩
  obtain ⟨y, hyy⟩ : ∃ y, y = strO (Px.txt ts 2) := ⟨_, rfl⟩
  rw [← hxx] at HT1 hx
  rw [← hyy] at HT2 hy
  rw [← hx, ← hy] at HI
  obtain ⟨i, hi⟩ : ∃ i, i = Px.isName ts := ⟨_, rfl⟩
  rw [← hi] at HS HI
  clear h hx hy hxx hyy hi
  obtain ⟨q, hq⟩ : ∃ q, q = Px.isNull ts := ⟨_, rfl⟩
  rw [← hq] at HI ⊢
  clear hq
  cases i
  · go_enter Tryz.func236, Tryz.ntmps236
    go_wp2_with fail
    refine (HS.out).mono ?_
    rintro e w' ⟨rfl, rfl⟩
    go_wp2_with fail
    go_ret
    exact ⟨ret_bool (by rw [HI.out]; rfl), rfl⟩
  · by_cases h1 : (x.toList == [61, 61]) = true
    · go_enter Tryz.func236, Tryz.ntmps236
      go_wp2_with fail
      refine (HS.out).mono ?_
      rintro e w' ⟨rfl, rfl⟩
      go_wp2_with fail
      refine (HT1.out).mono ?_
      rintro e w' ⟨rfl, rfl⟩
      have HI2 := Lib.hid (HI.out.trans (by rw [h1]; simp : _ = (y.toList == [110, 117, 108, 108])))
      go_wp2_with fail
      refine (HT2.out).mono ?_
      rintro e w' ⟨rfl, rfl⟩
      go_wp2_with fail
      go_ret
      exact ⟨ret_bool HI2.out.symm, rfl⟩
    · have h1' : (x.toList == [61, 61]) = false := by simpa using h1
      have HI1 := Lib.hid (HI.out.trans (by rw [h1']; simp : _ = (x.toList == [33, 61] && y.toList == [110, 117, 108, 108])))
      by_cases h2 : (x.toList == [33, 61]) = true
      · have HI2 := Lib.hid (HI1.out.trans (by rw [h2]; simp : _ = (y.toList == [110, 117, 108, 108])))
        go_enter Tryz.func236, Tryz.ntmps236
        go_wp2_with fail
        refine (HS.out).mono ?_
        rintro e w' ⟨rfl, rfl⟩
        go_wp2_with fail
        refine (HT1.out).mono ?_
        rintro e w' ⟨rfl, rfl⟩
        go_wp2_with fail
        refine (HT1.out).mono ?_
        rintro e w' ⟨rfl, rfl⟩
        go_wp2_with fail
        refine (HT2.out).mono ?_
        rintro e w' ⟨rfl, rfl⟩
        go_wp2_with fail
        go_ret
        exact ⟨ret_bool HI2.out.symm, rfl⟩
      · have h2' : (x.toList == [33, 61]) = false := by simpa using h2
        have HI2 := Lib.hid (HI1.out.trans (by rw [h2']; simp : _ = false))
        go_enter Tryz.func236, Tryz.ntmps236
        go_wp2_with fail
        refine (HS.out).mono ?_
        rintro e w' ⟨rfl, rfl⟩
        go_wp2_with fail
        refine (HT1.out).mono ?_
        rintro e w' ⟨rfl, rfl⟩
        go_wp2_with fail
        refine (HT1.out).mono ?_
        rintro e w' ⟨rfl, rfl⟩
        go_wp2_with fail
        go_ret
        exact ⟨ret_bool HI2.out.symm, rfl⟩
theorem sees_of {t : Tok} {r : List Tok} {s : Tx} (h : t.text = s) : Px.sees (t :: r) s = true := by unfold Px.sees; rw [txt_cons, h]; simp
theorem sees_not {t : Tok} {r : List Tok} {s s' : Tx} (h : t.text = s) (hs : s ≠ s') : Px.sees (t :: r) s' = false := by unfold Px.sees; rw [txt_cons, h]; simpa using hs
set_option maxHeartbeats 1000000 in
set_option maxRecDepth 100000 in
theorem nullTest_any (w : World) (b n o k : Nat) (ts : List Tok) (h : PAt w b n ts o k) (hy : Px.isNull ts = true) :
    Calls Tryz.prog 237 #[pp b] w (RP CnAt (fun _ => k) w b n o (.ok (Px.nullCn ts) (ts.drop 3))) := by
  obtain ⟨t0, t1, t2, r, rfl, hn, h1, h2⟩ := Px.isNull_form hy
  have HN := Lib.hid (name_yes w b n o k _ h hn)
  have HP2 := Lib.hid (fun w' (h' : PAt w' b n (t2 :: r) o k) => pass_yes w' b n o k (t2 :: r) h' [110, 117, 108, 108] (by simp) (sees_of h2))
  rw [txt_cons] at HN
  simp only [List.tail_cons] at HN HP2
  rcases h1 with h1 | h1
  · have hr : Px.nullCn (t0 :: t1 :: t2 :: r) = .null t0.text := by unfold Px.nullCn; rw [txt_cons]; simp [Px.txt, h1]
    rw [hr]
    have HP0 := Lib.hid (fun w' (h' : PAt w' b n (t1 :: t2 :: r) o k) => passes_no w' b n o k (t1 :: t2 :: r) h' [33, 61] (sees_not h1 (by simp)))
    have HP1 := Lib.hid (fun w' (h' : PAt w' b n (t1 :: t2 :: r) o k) => pass_yes w' b n o k (t1 :: t2 :: r) h' [61, 61] (by simp) (sees_of h1))
    simp only [List.tail_cons] at HP1
    show Calls _ _ _ _ (RP CnAt _ w b n o (.ok (.null t0.text) r))
    obtain ⟨s, hs⟩ : ∃ s, s = t0.text := ⟨_, rfl⟩
    rw [← hs] at HN ⊢
    clear h hy hn h1 h2 hr hs
    go_enter Tryz.func237, Tryz.ntmps237
    go_wp2_with fail
    refine (HN.out).mono ?_
    rintro e w2 ⟨rfl, h4, h5⟩
    have H4 := Lib.hid h4
    have H5 := Lib.hid h5
    clear h4 h5
    go_wp2_with fail
    have HQ := Lib.hid (H4.out.keep ((Keeps.refl [] w2).alloc (.cells #[.int .i64 9, .pointer none, .pointer none, .pointer none, .pointer none, .string (strO s)] 105)))
    have HC := Lib.hid (show CnAt (w2.alloc (.cells #[.int .i64 9, .pointer none, .pointer none, .pointer none, .pointer none, .string (strO s)] 105)) b (.null s) (.pointer (some ⟨w2.heap.size, 0, none⟩)) from ⟨_, rfl, H4.out.lt, heap_alloc_new _ _⟩)
    refine (HP0.out _ HQ.out).mono ?_
    rintro e w' ⟨rfl, rfl⟩
    go_wp2_with fail
    refine (HP1.out _ HQ.out).mono ?_
    rintro e w3 ⟨rfl, h6, h7⟩
    have H6 := Lib.hid h6
    have H7 := Lib.hid h7
    clear h6 h7
    go_wp2_with fail
    refine (HP2.out _ H6.out).mono ?_
    rintro e w4 ⟨rfl, h6, h7⟩
    have H8 := Lib.hid h6
    have H9 := Lib.hid h7
    clear h6 h7
    go_wp2_with fail
    go_ret
    exact ⟨_, rfl, (HC.out.keep H7.out (by simp)).keep H9.out (by simp), H8.out, ((H5.out.alloc _).trans H7.out (fun _ h _ => h)).trans H9.out (fun _ h _ => h)⟩
  · have hr : Px.nullCn (t0 :: t1 :: t2 :: r) = .not (.null t0.text) := by unfold Px.nullCn; rw [txt_cons]; simp [Px.txt, h1]
    rw [hr]
    have HP1 := Lib.hid (fun w' (h' : PAt w' b n (t1 :: t2 :: r) o k) => passes_yes w' b n o k (t1 :: t2 :: r) h' [33, 61] (by simp) (sees_of h1))
    simp only [List.tail_cons] at HP1
    show Calls _ _ _ _ (RP CnAt _ w b n o (.ok (.not (.null t0.text)) r))
    obtain ⟨s, hs⟩ : ∃ s, s = t0.text := ⟨_, rfl⟩
    rw [← hs] at HN ⊢
    clear h hy hn h1 h2 hr hs
    go_enter Tryz.func237, Tryz.ntmps237
    go_wp2_with fail
    refine (HN.out).mono ?_
    rintro e w2 ⟨rfl, h4, h5⟩
    have H4 := Lib.hid h4
    have H5 := Lib.hid h5
    clear h4 h5
    go_wp2_with fail
    have HQ := Lib.hid (H4.out.keep ((Keeps.refl [] w2).alloc (.cells #[.int .i64 9, .pointer none, .pointer none, .pointer none, .pointer none, .string (strO s)] 105)))
    have HC := Lib.hid (show CnAt (w2.alloc (.cells #[.int .i64 9, .pointer none, .pointer none, .pointer none, .pointer none, .string (strO s)] 105)) b (.null s) (.pointer (some ⟨w2.heap.size, 0, none⟩)) from ⟨_, rfl, H4.out.lt, heap_alloc_new _ _⟩)
    refine (HP1.out _ HQ.out).mono ?_
    rintro e w3 ⟨rfl, h6, h7⟩
    have H6 := Lib.hid h6
    have H7 := Lib.hid h7
    clear h6 h7
    go_wp2_with fail
    have HC2 := Lib.hid (show CnAt (w3.alloc (.cells #[.int .i64 8, .pointer none, .pointer none, .pointer (some ⟨w2.heap.size, 0, none⟩), .pointer none, .string .empty] 105)) b (.not (.null s)) (.pointer (some ⟨w3.heap.size, 0, none⟩)) from ⟨_, _, rfl, H6.out.lt, heap_alloc_new _ _, (HC.out.keep H7.out (by simp)).alloc _⟩)
    refine (HP2.out _ (H6.out.keep ((Keeps.refl [] w3).alloc _))).mono ?_
    rintro e w4 ⟨rfl, h6, h7⟩
    have H8 := Lib.hid h6
    have H9 := Lib.hid h7
    clear h6 h7
    go_wp2_with fail
    go_ret
    exact ⟨_, rfl, HC2.out.keep H9.out (by simp), H8.out, ((((H5.out.alloc _).trans H7.out (fun _ h _ => h)).alloc _).trans H9.out (fun _ h _ => h))⟩
end Go.Proofs.YtbikifibfaaggaaGreatDoor
