import Derived.Test.YtbikifibfaaggaaGreatDoorVPBase
namespace Go.Proofs.YtbikifibfaaggaaGreatDoor
section
set_option maxHeartbeats 1000000
set_option maxRecDepth 100000
open Go.RowKit Go.Shelf
open Lx (Tok Tx)
open Px (Ex Cn)
def ExAt (w : World) (b : Nat) : Ex → Value → Prop
 | .num m, v => ∃ x, v = .pointer (some ⟨x, 0, none⟩) ∧ b < x ∧ w.heap[x]? = some (.cells #[.int .i64 0, .int .i64 (m : Int), .string .empty, .pointer none, .pointer none] 74 (0, 0))
 | .var s, v => ∃ x, v = .pointer (some ⟨x, 0, none⟩) ∧ b < x ∧ w.heap[x]? = some (.cells #[.int .i64 1, .int .i64 0, .string (strO s), .pointer none, .pointer none] 74 (0, 0))
 | .neg a, v => ∃ x va, v = .pointer (some ⟨x, 0, none⟩) ∧ b < x ∧ w.heap[x]? = some (.cells #[.int .i64 7, .int .i64 0, .string .empty, va, .pointer none] 74 (0, 0)) ∧ ExAt w b a va
 | .bin k a c, v => ∃ x va vc, v = .pointer (some ⟨x, 0, none⟩) ∧ b < x ∧ w.heap[x]? = some (.cells #[.int .i64 (k : Int), .int .i64 0, .string .empty, va, vc] 74 (0, 0)) ∧ ExAt w b a va ∧ ExAt w b c vc
theorem ExAt.keep {w w' : World} {b : Nat} {S : List Nat} (hk : Keeps S w w') (hS : ∀ y ∈ S, y ≤ b) : ∀ {e : Ex} {v : Value}, ExAt w b e v → ExAt w' b e v
 | .num m, v, h => by
  obtain ⟨x, h1, h2, h3⟩ := h
  exact ⟨x, h1, h2, block_keep h3 hk (fun h => by have := hS _ h; omega)⟩
 | .var s, v, h => by
  obtain ⟨x, h1, h2, h3⟩ := h
  exact ⟨x, h1, h2, block_keep h3 hk (fun h => by have := hS _ h; omega)⟩
 | .neg a, v, h => by
  obtain ⟨x, va, h1, h2, h3, h4⟩ := h
  exact ⟨x, va, h1, h2, block_keep h3 hk (fun h => by have := hS _ h; omega), h4.keep hk hS⟩
 | .bin k a c, v, h => by
  obtain ⟨x, va, vc, h1, h2, h3, h4, h5⟩ := h
  exact ⟨x, va, vc, h1, h2, block_keep h3 hk (fun h => by have := hS _ h; omega), h4.keep hk hS, h5.keep hk hS⟩
theorem ExAt.ptr {w : World} {b : Nat} {e : Ex} {v : Value} (h : ExAt w b e v) : ∃ x, v = .pointer (some ⟨x, 0, none⟩) := by
 cases e <;> (obtain ⟨x, h1⟩ := h; first | exact ⟨x, h1.1⟩ | (obtain ⟨_, h1, _⟩ := h1; exact ⟨x, h1⟩) | (obtain ⟨_, _, h1, _⟩ := h1; exact ⟨x, h1⟩))
def RP {α : Type} (At : World → Nat → α → Value → Prop) (kk : α → Nat) (w : World) (b n o : Nat) (r : Px.R α) (e : Ending) (w' : World) : Prop :=
 match r with
 | .ok a ts => ∃ v, e = .returned v ∧ At w' b a v ∧ PAt w' b n ts o (kk a) ∧ Keeps [b] w w'
 | .err z ts => e = .panicked (died (z : Int)) ∧ (∃ o' k', PAt w' b n ts o' k') ∧ Keeps [b] w w'
theorem PAt.open {w : World} {b n o k : Nat} {ts : List Tok} (h : PAt w b n ts o k) : w.cell? ⟨b, 2, none⟩ = some (.int .i64 (o : Int)) ∧ w.frozen? ⟨b, 2, none⟩ = false ∧ w.cell? ⟨b, 3, none⟩ = some (.int .i64 (k : Int)) ∧ w.frozen? ⟨b, 3, none⟩ = false := by
 obtain ⟨_, A, cap, g, hb, ht, hg, hc, hm⟩ := h
 have c2 := row_cell hb 2
 have c3 := row_cell hb 3
 exact ⟨by simpa using c2, row_free hb 2, by simpa using c3, row_free hb 3⟩
theorem toks_set {w : World} {b g : Nat} {A : Option Addr} {ts : List Tok} (h : ToksIn w g A ts) (hg : g ≠ b) (j : Nat) (v : Value) : ToksIn (w.setCell ⟨b, j, none⟩ v) g A ts :=
 h.keep (S := [b]) ((Keeps.refl _ _).setCell (by simp) _) (by simpa using hg)
theorem PAt.setOpen {w : World} {b n o k : Nat} {ts : List Tok} (h : PAt w b n ts o k) (o' : Nat) : PAt (w.setCell ⟨b, 2, none⟩ (.int .i64 (o' : Int))) b n ts o' k := by
 obtain ⟨hw, A, cap, g, hb, ht, hg, hc, hm⟩ := h
 exact ⟨hw, A, cap, g, by rw [row_set hb]; rfl, toks_set ht (by omega) _ _, hg, hc, hm⟩
theorem PAt.setBegun {w : World} {b n o k : Nat} {ts : List Tok} (h : PAt w b n ts o k) (k' : Nat) : PAt (w.setCell ⟨b, 3, none⟩ (.int .i64 (k' : Int))) b n ts o k' := by
 obtain ⟨hw, A, cap, g, hb, ht, hg, hc, hm⟩ := h
 exact ⟨hw, A, cap, g, by rw [row_set hb]; rfl, toks_set ht (by omega) _ _, hg, hc, hm⟩
theorem within_deep_E (w : World) (b n o k : Nat) (ts : List Tok) (h : PAt w b n ts o k) (s : Tx) (hy : Px.sees ts s = true) (fv : Value) (ho : 40 ≤ o) (ho2 : o ≤ 1000) :
 Calls Tryz.prog 231 #[pp b, .string (strO s), fv] w fun e w' => e = .panicked (died 52) ∧ w = w' := by
 have HS := Hd (sees_any w b n o k ts h s)
 rw [hy] at HS
 have HN := Hd (fun w' => pneed_yes w' 51)
 have HN2 := Hd (fun w' => pneed_no w' 52)
 have HLT := Hd (show decide ((o : Int) < 40) = false by simp; omega)
 have c2 := h.open.1
 obtain ⟨y, hyy⟩ : ∃ y, y = strO s := ⟨_, rfl⟩
 rw [← hyy] at HS ⊢
 clear h hy hyy ho
 go_enter Tryz.func231, Tryz.ntmps231
 go_wp2_with fail
 refine (same (HS.out)) ?_
 go_wp2_with fail
 refine (same (HN.out _)) ?_
 go_wp2_with fail
 rw [HLT.out]
 refine (same (HN2.out _)) ?_
 go_wp2
 exact ⟨rfl, rfl, rfl⟩
theorem within_un (w : World) (b n o k : Nat) (t : Tok) (r : List Tok) (h : PAt w b n (t :: r) o k) (s : Tx) (hy : Px.sees (t :: r) s = true) (ho : o < 40) (kk : Ex → Nat) (rr : Px.R Ex)
 (hF : ∀ w1, PAt w1 b n r (o + 1) k → Calls Tryz.prog 224 #[pp b] w1 (RP ExAt kk w1 b n (o + 1) rr)) :
 Calls Tryz.prog 231 #[pp b, .string (strO s), .func (.func 224) #[pp b] #[]] w (RP ExAt kk w b n o rr) := by
 have HS := Hd (sees_any w b n o k (t :: r) h s)
 rw [hy] at HS
 have HN := Hd (fun w' => pneed_yes w' 51)
 have HN2 := Hd (fun w' => pneed_yes w' 52)
 have HT := Hd (take_any w b n o k t r h)
 have HLT := Hd (show decide ((o : Int) < 40) = true by simp; omega)
 have c2 := h.open.1
 obtain ⟨y, hyy⟩ : ∃ y, y = strO s := ⟨_, rfl⟩
 obtain ⟨x, hx⟩ : ∃ x, x = strO t.text := ⟨_, rfl⟩
 rw [← hyy] at HS ⊢
 rw [← hx] at HT
 have HF := Hd hF
 clear h hy hyy hx hF
 go_enter Tryz.func231, Tryz.ntmps231
 go_wp2_with fail
 refine (same (HS.out)) ?_
 go_wp2_with fail
 refine (same (HN.out _)) ?_
 go_wp2_with fail
 try rw [HLT.out]
 refine (same (HN2.out _)) ?_
 go_wp2_with fail
 refine (HT.out).mono ?_
 rintro e w1 ⟨rfl, h1, h2⟩
 have H1 := Hd h1
 have H2 := Hd h2
 obtain ⟨d2, e2, _, _⟩ := h1.open
 clear h1 h2 c2
 go_wp2_with fail
 refine (HF.out _ (H1.out.setOpen (o + 1))).mono ?_
 intro e w2 hr
 cases rr with
 | ok a ts =>
  obtain ⟨v, rfl, h3, h4, h5⟩ := hr
  have H3 := Hd h3
  have H4 := Hd h4
  have H5 := Hd h5
  obtain ⟨d3, e3, _, _⟩ := h4.open
  clear h3 h4 h5 d2 e2
  go_wp2_with fail
  go_ret
  exact ⟨v, rfl, H3.out.keep ((Keeps.refl [b] _).setCell (by simp) _) (by simp), by simpa using H4.out.setOpen o, ((H2.out.setCell (by simp) _).trans H5.out (fun _ h _ => h)).setCell (by simp) _⟩
 | err z ts =>
  obtain ⟨rfl, h4, h5⟩ := hr
  have H4 := Hd h4
  have H5 := Hd h5
  clear h4 h5 d2 e2
  go_wp2
  exact ⟨rfl, rfl, H4.out, (H2.out.setCell (by simp) _).trans H5.out (fun _ h _ => h)⟩
theorem within_sum (w : World) (b n o k : Nat) (t : Tok) (r : List Tok) (h : PAt w b n (t :: r) o k) (s : Tx) (hy : Px.sees (t :: r) s = true) (ho : o < 40) (kk : Ex → Nat) (rr : Px.R Ex)
 (hF : ∀ w1, PAt w1 b n r (o + 1) k → Calls Tryz.prog 179 #[pp b] w1 (RP ExAt kk w1 b n (o + 1) rr)) :
 Calls Tryz.prog 231 #[pp b, .string (strO s), .func (.func 179) #[pp b] #[]] w (RP ExAt kk w b n o rr) := by
 have HS := Hd (sees_any w b n o k (t :: r) h s)
 rw [hy] at HS
 have HN := Hd (fun w' => pneed_yes w' 51)
 have HN2 := Hd (fun w' => pneed_yes w' 52)
 have HT := Hd (take_any w b n o k t r h)
 have HLT := Hd (show decide ((o : Int) < 40) = true by simp; omega)
 have c2 := h.open.1
 obtain ⟨y, hyy⟩ : ∃ y, y = strO s := ⟨_, rfl⟩
 obtain ⟨x, hx⟩ : ∃ x, x = strO t.text := ⟨_, rfl⟩
 rw [← hyy] at HS ⊢
 rw [← hx] at HT
 have HF := Hd hF
 clear h hy hyy hx hF
 go_enter Tryz.func231, Tryz.ntmps231
 go_wp2_with fail
 refine (same (HS.out)) ?_
 go_wp2_with fail
 refine (same (HN.out _)) ?_
 go_wp2_with fail
 try rw [HLT.out]
 refine (same (HN2.out _)) ?_
 go_wp2_with fail
 refine (HT.out).mono ?_
 rintro e w1 ⟨rfl, h1, h2⟩
 have H1 := Hd h1
 have H2 := Hd h2
 obtain ⟨d2, e2, _, _⟩ := h1.open
 clear h1 h2 c2
 go_wp2_with fail
 refine (HF.out _ (H1.out.setOpen (o + 1))).mono ?_
 intro e w2 hr
 cases rr with
 | ok a ts =>
  obtain ⟨v, rfl, h3, h4, h5⟩ := hr
  have H3 := Hd h3
  have H4 := Hd h4
  have H5 := Hd h5
  obtain ⟨d3, e3, _, _⟩ := h4.open
  clear h3 h4 h5 d2 e2
  go_wp2_with fail
  go_ret
  exact ⟨v, rfl, H3.out.keep ((Keeps.refl [b] _).setCell (by simp) _) (by simp), by simpa using H4.out.setOpen o, ((H2.out.setCell (by simp) _).trans H5.out (fun _ h _ => h)).setCell (by simp) _⟩
 | err z ts =>
  obtain ⟨rfl, h4, h5⟩ := hr
  have H4 := Hd h4
  have H5 := Hd h5
  clear h4 h5 d2 e2
  go_wp2
  exact ⟨rfl, rfl, H4.out, (H2.out.setCell (by simp) _).trans H5.out (fun _ h _ => h)⟩
end
section
set_option maxHeartbeats 1000000
set_option maxRecDepth 100000
open Go.RowKit Go.Shelf
open Lx (Tok Tx)
open Px (Ex Cn)
theorem tail_of {ts : List Tok} {s : Tx} (hs : s ≠ []) (h : Px.sees ts s = true) : ∃ t, ts = t :: ts.tail := by
 obtain ⟨t, r, rfl, _⟩ := sees_cons hs h
 exact ⟨t, rfl⟩
theorem un_neg_deep (w : World) (b n o k : Nat) (ts : List Tok) (h : PAt w b n ts o k) (hy : Px.sees ts [45] = true) (ho : 40 ≤ o) (ho2 : o ≤ 1000) :
 Calls Tryz.prog 224 #[pp b] w fun e w' => e = .panicked (died 52) ∧ w = w' := by
 have HS := Hd (sees_any w b n o k ts h [45])
 rw [hy] at HS
 have HW := Hd (fun fv => within_deep_E w b n o k ts h [45] hy fv ho ho2)
 clear h hy ho
 go_enter Tryz.func224, Tryz.ntmps224
 go_wp2_with fail
 refine (same (HS.out)) ?_
 go_wp2_with fail
 refine (same (HW.out _)) ?_
 go_wp2
 exact ⟨rfl, rfl, rfl⟩
theorem ex_done {w w2 : World} {b n o k : Nat} {ts : List Tok} {a : Ex} {obj : Obj} (h5 : Keeps [b] w w2) (h4 : PAt w2 b n ts o k) (h : ExAt (w2.alloc obj) b a (.pointer (some ⟨w2.heap.size, 0, none⟩))) :
 RP ExAt (fun _ => k) w b n o (.ok a ts) (.returned (.pointer (some ⟨w2.heap.size, 0, none⟩))) (w2.alloc obj) :=
 ⟨_, rfl, h, h4.keep ((Keeps.refl [] _).alloc _), h5.alloc _⟩
theorem ExAt.alloc {w : World} {b : Nat} {a : Ex} {v : Value} (h : ExAt w b a v) (obj : Obj) : ExAt (w.alloc obj) b a v := h.keep ((Keeps.refl [] _).alloc _) (by simp)
theorem PAt.lt {w : World} {b n o k : Nat} {ts : List Tok} (h : PAt w b n ts o k) : b < w.heap.size := World.block_lt_of_cell? w _ h.open.1
theorem un_neg (w : World) (b n o k : Nat) (ts : List Tok) (h : PAt w b n ts o k) (hy : Px.sees ts [45] = true) (ho : o < 40) (rr : Px.R Ex)
 (hF : ∀ w1, PAt w1 b n ts.tail (o + 1) k → Calls Tryz.prog 224 #[pp b] w1 (RP ExAt (fun _ => k) w1 b n (o + 1) rr)) :
 Calls Tryz.prog 224 #[pp b] w (RP ExAt (fun _ => k) w b n o (rr.bind fun a r => .ok (.neg a) r)) := by
 have HS := Hd (sees_any w b n o k ts h [45])
 rw [hy] at HS
 obtain ⟨t, ht⟩ := tail_of (by simp) hy
 obtain ⟨r, hr⟩ : ∃ r, r = ts.tail := ⟨_, rfl⟩
 rw [← hr] at ht hF
 rw [ht] at h hy
 have HW := Hd (within_un w b n o k t r h [45] hy ho (fun _ => k) rr hF)
 have hmf := hmf0
 clear h hy ho hF ht hr
 go_enter Tryz.func224, Tryz.ntmps224
 go_wp2_with fail
 refine (same (HS.out)) ?_
 go_wp2_with fail
 refine (HW.out).mono ?_
 intro e w2 hr
 cases rr with
 | ok a ts =>
  obtain ⟨v, rfl, h3, h4, h5⟩ := hr
  have H3 := Hd h3
  have H4 := Hd h4
  have H5 := Hd h5
  obtain ⟨x, rfl⟩ := h3.ptr
  clear h3 h4 h5
  go_wp2_with fail
  go_ret
  exact ex_done H5.out H4.out ⟨_, _, rfl, H4.out.lt, heap_alloc_new _ _, H3.out.alloc _⟩
 | err z ts =>
  obtain ⟨rfl, h4, h5⟩ := hr
  have H4 := Hd h4
  have H5 := Hd h5
  clear h4 h5
  go_wp2
  exact ⟨rfl, rfl, H4.out, H5.out⟩
theorem un_par_deep (w : World) (b n o k : Nat) (ts : List Tok) (h : PAt w b n ts o k) (hn : Px.sees ts [45] = false) (hy : Px.sees ts [40] = true) (ho : 40 ≤ o) (ho2 : o ≤ 1000) :
 Calls Tryz.prog 224 #[pp b] w fun e w' => e = .panicked (died 52) ∧ w = w' := by
 have HS := Hd (sees_any w b n o k ts h [45])
 rw [hn] at HS
 have HS2 := Hd (sees_any w b n o k ts h [40])
 rw [hy] at HS2
 have HW := Hd (fun fv => within_deep_E w b n o k ts h [40] hy fv ho ho2)
 clear h hy ho
 go_enter Tryz.func224, Tryz.ntmps224
 go_wp2_with fail
 refine (same (HS.out)) ?_
 go_wp2_with fail
 refine (same (HS2.out)) ?_
 go_wp2_with fail
 refine (same (HW.out _)) ?_
 go_wp2
 exact ⟨rfl, rfl, rfl⟩
theorem un_par (w : World) (b n o k : Nat) (ts : List Tok) (h : PAt w b n ts o k) (hn : Px.sees ts [45] = false) (hy : Px.sees ts [40] = true) (ho : o < 40) (rr : Px.R Ex)
 (hF : ∀ w1, PAt w1 b n ts.tail (o + 1) k → Calls Tryz.prog 179 #[pp b] w1 (RP ExAt (fun _ => k) w1 b n (o + 1) rr)) :
 Calls Tryz.prog 224 #[pp b] w (RP ExAt (fun _ => k) w b n o (rr.bind fun a r => if Px.sees r [41] then .ok a r.tail else .err 51 r)) := by
 have HS := Hd (sees_any w b n o k ts h [45])
 rw [hn] at HS
 have HS2 := Hd (sees_any w b n o k ts h [40])
 rw [hy] at HS2
 obtain ⟨t, ht⟩ := tail_of (by simp) hy
 obtain ⟨r, hr⟩ : ∃ r, r = ts.tail := ⟨_, rfl⟩
 rw [← hr] at ht hF
 rw [ht] at h hy
 have HW := Hd (within_sum w b n o k t r h [40] hy ho (fun _ => k) rr hF)
 have hmf := hmf0
 clear h hy ho hF ht hr
 go_enter Tryz.func224, Tryz.ntmps224
 go_wp2_with fail
 refine (same (HS.out)) ?_
 go_wp2_with fail
 refine (same (HS2.out)) ?_
 go_wp2_with fail
 refine (HW.out).mono ?_
 intro e w2 hr
 cases rr with
 | ok a ts =>
  obtain ⟨v, rfl, h3, h4, h5⟩ := hr
  have H3 := Hd h3
  have H4 := Hd h4
  have H5 := Hd h5
  obtain ⟨x, rfl⟩ := h3.ptr
  clear h3 h4 h5
  by_cases hc : Px.sees ts [41] = true
  ·
   have HP := Hd (pass_yes w2 b n o k ts H4.out [41] (by simp) hc)
   have HC := Hd hc
   clear hc
   go_wp2_with fail
   refine (HP.out).mono ?_
   rintro e w3 ⟨rfl, h6, h7⟩
   have H6 := Hd h6
   have H7 := Hd h7
   clear h6 h7
   go_wp2_with fail
   go_ret
   unfold Px.R.bind
   simp only [HC.out, if_true]
   exact ⟨_, rfl, H3.out.keep H7.out (by simp), H6.out, H5.out.trans H7.out (fun _ h _ => h)⟩
  ·
   have hc' : Px.sees ts [41] = false := by simpa using hc
   have HP := Hd (pass_no w2 b n o k ts H4.out [41] hc')
   have HC := Hd hc'
   clear hc hc'
   go_wp2_with fail
   refine (HP.out).mono ?_
   rintro e w3 ⟨rfl, rfl⟩
   go_wp2
   unfold Px.R.bind
   simp only [HC.out]
   exact ⟨rfl, rfl, ⟨_, _, H4.out⟩, H5.out⟩
 | err z ts =>
  obtain ⟨rfl, h4, h5⟩ := hr
  have H4 := Hd h4
  have H5 := Hd h5
  clear h4 h5
  go_wp2
  exact ⟨rfl, rfl, H4.out, H5.out⟩
theorem isNum_cons {ts : List Tok} (h : Px.isNum ts = true) : ∃ t r, ts = t :: r ∧ t.kind = 1 := by
 match ts, h with
 | t :: r, h => exact ⟨t, r, rfl, by simpa [Px.isNum] using h⟩
theorem un_num (w : World) (b n o k : Nat) (ts : List Tok) (h : PAt w b n ts o k) (hn : Px.sees ts [45] = false) (hn2 : Px.sees ts [40] = false) (hy : Px.isNum ts = true) :
 Calls Tryz.prog 224 #[pp b] w (RP ExAt (fun _ => k) w b n o (.ok (.num (Lx.val (Px.txt ts 0))) ts.tail)) := by
 have HS := Hd (sees_any w b n o k ts h [45])
 rw [hn] at HS
 have HS2 := Hd (sees_any w b n o k ts h [40])
 rw [hn2] at HS2
 have HS3 := Hd (seesNumber_any w b n o k ts h)
 rw [hy] at HS3
 obtain ⟨t, r, rfl, hk⟩ := isNum_cons hy
 have HN := Hd (pnumber_yes w b n o k t r h hk)
 have HT := Hd (fun w' (h' : PAt w' b n (t :: r) o k) => take_any w' b n o k t r h')
 rw [txt_cons]
 have H := Hd h
 obtain ⟨z, hz⟩ : ∃ z, z = Lx.val t.text := ⟨_, rfl⟩
 obtain ⟨x, hx⟩ : ∃ x, x = strO t.text := ⟨_, rfl⟩
 rw [← hz] at HN ⊢
 rw [← hx] at HT
 clear h hn hn2 hy hk hz hx
 go_enter Tryz.func224, Tryz.ntmps224
 go_wp2_with fail
 refine (same (HS.out)) ?_
 go_wp2_with fail
 refine (same (HS2.out)) ?_
 go_wp2_with fail
 refine (same (HS3.out)) ?_
 go_wp2_with fail
 refine (HN.out).mono ?_
 rintro e w2 ⟨rfl, hk⟩
 have HK := Hd hk
 clear hk
 go_wp2_with fail
 refine (HT.out _ ((H.out.keep HK.out).keep ((Keeps.refl [] _).alloc _))).mono ?_
 rintro e w3 ⟨rfl, h1, h2⟩
 have H1 := Hd h1
 have H2 := Hd h2
 clear h1 h2
 go_wp2_with fail
 go_ret
 exact ⟨_, rfl, ⟨_, rfl, (H.out.keep HK.out).lt, block_keep (heap_alloc_new _ _) H2.out (by have := (H.out.keep HK.out).lt; simp; omega)⟩, H1.out, ((HK.out.alloc _).mono (by simp)).trans H2.out (fun _ h _ => h)⟩
theorem un_name (w : World) (b n o k : Nat) (ts : List Tok) (h : PAt w b n ts o k) (hn : Px.sees ts [45] = false) (hn2 : Px.sees ts [40] = false) (hn3 : Px.isNum ts = false) (hy : Px.isName ts = true) :
 Calls Tryz.prog 224 #[pp b] w (RP ExAt (fun _ => k) w b n o (.ok (.var (Px.txt ts 0)) ts.tail)) := by
 have HS := Hd (sees_any w b n o k ts h [45])
 rw [hn] at HS
 have HS2 := Hd (sees_any w b n o k ts h [40])
 rw [hn2] at HS2
 have HS3 := Hd (seesNumber_any w b n o k ts h)
 rw [hn3] at HS3
 have HN := Hd (name_yes w b n o k ts h hy)
 obtain ⟨s, hs⟩ : ∃ s, s = Px.txt ts 0 := ⟨_, rfl⟩
 rw [← hs] at HN ⊢
 clear h hn hn2 hn3 hy hs
 go_enter Tryz.func224, Tryz.ntmps224
 go_wp2_with fail
 refine (same (HS.out)) ?_
 go_wp2_with fail
 refine (same (HS2.out)) ?_
 go_wp2_with fail
 refine (same (HS3.out)) ?_
 go_wp2_with fail
 refine (HN.out).mono ?_
 rintro e w2 ⟨rfl, h4, h5⟩
 have H4 := Hd h4
 have H5 := Hd h5
 clear h4 h5
 go_wp2_with fail
 go_ret
 exact ex_done H5.out H4.out ⟨_, rfl, H4.out.lt, heap_alloc_new _ _⟩
theorem un_no (w : World) (b n o k : Nat) (ts : List Tok) (h : PAt w b n ts o k) (hn : Px.sees ts [45] = false) (hn2 : Px.sees ts [40] = false) (hn3 : Px.isNum ts = false) (hy : Px.isName ts = false) :
 Calls Tryz.prog 224 #[pp b] w fun e w' => e = .panicked (died 51) ∧ w = w' := by
 have HS := Hd (sees_any w b n o k ts h [45])
 rw [hn] at HS
 have HS2 := Hd (sees_any w b n o k ts h [40])
 rw [hn2] at HS2
 have HS3 := Hd (seesNumber_any w b n o k ts h)
 rw [hn3] at HS3
 have HN := Hd (name_no w b n o k ts h hy)
 clear h hn hn2 hn3 hy
 go_enter Tryz.func224, Tryz.ntmps224
 go_wp2_with fail
 refine (same (HS.out)) ?_
 go_wp2_with fail
 refine (same (HS2.out)) ?_
 go_wp2_with fail
 refine (same (HS3.out)) ?_
 go_wp2_with fail
 refine (same (HN.out)) ?_
 go_wp2
 exact ⟨rfl, rfl, rfl⟩
theorem un_step (f : Nat) (w : World) (b n o k : Nat) (ts : List Tok) (h : PAt w b n ts o k) (ho2 : o ≤ 1000)
 (hU : o < 40 → ∀ w1, ts ≠ [] → PAt w1 b n ts.tail (o + 1) k → Calls Tryz.prog 224 #[pp b] w1 (RP ExAt (fun _ => k) w1 b n (o + 1) (Px.un f (o + 1) ts.tail)))
 (hS : o < 40 → ∀ w1, ts ≠ [] → PAt w1 b n ts.tail (o + 1) k → Calls Tryz.prog 179 #[pp b] w1 (RP ExAt (fun _ => k) w1 b n (o + 1) (Px.sum f (o + 1) ts.tail))) :
 Calls Tryz.prog 224 #[pp b] w (RP ExAt (fun _ => k) w b n o (Px.un (f + 1) o ts)) := by
 have hne : ∀ {s}, s ≠ [] → Px.sees ts s = true → ts ≠ [] := fun hs h => by
  obtain ⟨t, r, rfl, _⟩ := sees_cons hs h
  simp
 have hstay : ∀ (z : Nat) (e : Ending) (w' : World), (e = .panicked (died (z : Int)) ∧ w = w') → RP ExAt (fun _ => k) w b n o (.err z ts) e w' := fun z e w' ⟨h1, h2⟩ => by
  subst h2
  exact ⟨h1, ⟨_, _, h⟩, Keeps.refl _ _⟩
 unfold Px.un
 by_cases h1 : Px.sees ts [45] = true
 ·
  rw [if_pos h1]
  by_cases ho : 40 ≤ o
  ·
   rw [if_pos ho]
   exact (un_neg_deep w b n o k ts h h1 ho ho2).mono fun e w' => hstay 52 e w'
  ·
   rw [if_neg ho]
   have := un_neg w b n o k ts h h1 (by omega) _ (fun w1 h' => hU (by omega) w1 (hne (by simp) h1) h')
   revert this
   generalize Px.un f (o + 1) ts.tail = rr
   intro this
   cases rr <;> exact this
 ·
  have h1' : Px.sees ts [45] = false := by simpa using h1
  rw [if_neg h1]
  by_cases h2 : Px.sees ts [40] = true
  ·
   rw [if_pos h2]
   by_cases ho : 40 ≤ o
   ·
    rw [if_pos ho]
    exact (un_par_deep w b n o k ts h h1' h2 ho ho2).mono fun e w' => hstay 52 e w'
   ·
    rw [if_neg ho]
    have := un_par w b n o k ts h h1' h2 (by omega) _ (fun w1 h' => hS (by omega) w1 (hne (by simp) h2) h')
    revert this
    generalize Px.sum f (o + 1) ts.tail = rr
    intro this
    cases rr <;> exact this
  ·
   have h2' : Px.sees ts [40] = false := by simpa using h2
   rw [if_neg h2]
   by_cases h3 : Px.isNum ts = true
   ·
    rw [if_pos h3]
    exact un_num w b n o k ts h h1' h2' h3
   ·
    have h3' : Px.isNum ts = false := by simpa using h3
    rw [if_neg h3]
    by_cases h4 : Px.isName ts = true
    ·
     rw [if_pos h4]
     exact un_name w b n o k ts h h1' h2' h3' h4
    ·
     have h4' : Px.isName ts = false := by simpa using h4
     rw [if_neg h4]
     exact (un_no w b n o k ts h h1' h2' h3' h4').mono fun e w' => hstay 51 e w'
end
section
set_option maxHeartbeats 4000000
set_option maxRecDepth 100000
open Go.RowKit Go.Shelf
open Lx (Tok Tx)
open Px (Ex Cn)
def leftOf (w : World) (b : Nat) : Nat := match w.cell? ⟨b, 0, none⟩ with | some (.slice _ m _) => m | _ => 0
theorem PAt.leftOf {w : World} {b n o k : Nat} {ts : List Tok} (h : PAt w b n ts o k) : leftOf w b = ts.length := by
 obtain ⟨_, A, cap, g, hb, ht, hg, hc, hm⟩ := h
 have c0 := row_cell hb 0
 simp only [List.getElem?_toArray, List.getElem?_cons_zero] at c0
 unfold Proofs.YtbikifibfaaggaaGreatDoor.leftOf
 rw [c0]
structure EC (f : Nat) : Prop where
 un : ∀ w b n ts o k, PAt w b n ts o k → o ≤ 1000 → 4 * ts.length + 1 ≤ f → Calls Tryz.prog 224 #[pp b] w (RP ExAt (fun _ => k) w b n o (Px.un f o ts))
 prod : ∀ w b n ts o k, PAt w b n ts o k → o ≤ 1000 → 4 * ts.length + 2 ≤ f → Calls Tryz.prog 208 #[pp b] w (RP ExAt (fun _ => k) w b n o (Px.prod f o ts))
 sum : ∀ w b n ts o k, PAt w b n ts o k → o ≤ 1000 → 4 * ts.length + 3 ≤ f → Calls Tryz.prog 179 #[pp b] w (RP ExAt (fun _ => k) w b n o (Px.sum f o ts))
theorem leftOf_alloc {w : World} {b n o k : Nat} {ts : List Tok} {obj : Obj} (h : PAt w b n ts o k) : leftOf (w.alloc obj) b = ts.length := (h.keep ((Keeps.refl [] _).alloc _)).leftOf
theorem prod_step (f : Nat) (w : World) (b n o k : Nat) (ts : List Tok) (h : PAt w b n ts o k) (ho2 : o ≤ 1000) (hf : 4 * ts.length + 2 ≤ f + 1) (hE : ∀ g, g ≤ f → EC g) :
 Calls Tryz.prog 208 #[pp b] w (RP ExAt (fun _ => k) w b n o (Px.prod (f + 1) o ts)) := by
 have HU := Hd ((hE f (Nat.le_refl _)).un w b n ts o k h ho2 (by omega))
 have HP := Hd (show Px.prod (f + 1) o ts = (Px.un f o ts).bind (fun a r => Px.prodL f o a r) from by unfold Px.prod Px.R.bind; cases Px.un f o ts <;> rfl)
 have HLEN := Hd ((Px.ex_len f).1 o ts)
 obtain ⟨rr, hrr⟩ : ∃ rr, rr = Px.un f o ts := ⟨_, rfl⟩
 rw [← hrr] at HU HP HLEN
 rw [HP.out]
 have HE := Hd hE
 have HF := Hd hf
 clear h hrr HP hE hf
 cases rr with
 | err z r =>
  show Calls _ _ _ _ (RP ExAt _ w b n o (.err z r))
  go_enter Tryz.func208, Tryz.ntmps208
  go_wp2_with fail
  refine (HU.out).mono ?_
  rintro e w1 ⟨rfl, h4, h5⟩
  have H4 := Hd h4
  have H5 := Hd h5
  clear h4 h5
  go_wp2
  exact ⟨rfl, rfl, H4.out, H5.out⟩
 | ok a r =>
  have hl := HLEN.out a r rfl
  show Calls _ _ _ _ (RP ExAt _ w b n o (Px.prodL f o a r))
  obtain ⟨R, hR⟩ : ∃ R, R = Px.prodL f o a r := ⟨_, rfl⟩
  rw [← hR]
  have HR := Hd hR
  have HL := Hd hl
  clear hR hl HLEN
  go_enter Tryz.func208, Tryz.ntmps208
  go_wp2_with fail
  refine (HU.out).mono ?_
  rintro e w1 ⟨v, rfl, h3, h4, h5⟩
  have H3 := Hd h3
  have H4 := Hd h4
  have H5 := Hd h5
  clear h3 h4 h5 HU
  go_wp2_with fail
  go_loopw [3] (fun ev wr => ∃ (g : Nat) (x : Ex) (l : List Tok), g ≤ f ∧ 4 * l.length + 2 ≤ g ∧ ExAt wr b x ev ∧ PAt wr b n l o k ∧ Keeps [b] w wr ∧ Px.prodL g o x l = R) (fun _ wr => leftOf wr b)
  case atStart => exact ⟨f, a, r, Nat.le_refl _, by have := HF.out; have := HL.out; omega, H3.out, H4.out, H5.out, HR.out.symm⟩
  case round =>
   obtain ⟨g, x, l, hg, hgl, hx, hl2, hk, hd⟩ := hrel
   match g, hgl with
   | g + 1, hgl =>
   have HX := Hd hx
   have HL2 := Hd hl2
   have HK := Hd hk
   have HD := Hd hd
   have HLT : ∀ (c : UInt8), Px.sees l [c] = true → l.tail.length + 1 = l.length := fun c hs => by
    obtain ⟨t, r, rfl, _⟩ := sees_cons (by simp) hs
    simp
   have HLT := Hd HLT
   clear hx hl2 hk hd
   by_cases hs42 : Px.sees l [42] = true
   ·
    have HP := Hd (passes_yes wr b n o k l HL2.out [42] (by simp) hs42)
    have hop : Px.mulOp l = some 4 := by unfold Px.mulOp; simp only [hs42]; simp
    have hdec := HD.out
    unfold Px.prodL at hdec
    rw [hop] at hdec
    simp only at hdec
    have HU := Hd (fun w' (h' : PAt w' b n l.tail o k) => (HE.out g (by omega)).un w' b n l.tail o k h' ho2 (by have := HLT.out _ hs42; omega))
    have HLEN := Hd ((Px.ex_len g).1 o l.tail)
    have hll := HLT.out _ hs42
    obtain ⟨rr, hrr⟩ : ∃ rr, rr = Px.un g o l.tail := ⟨_, rfl⟩
    rw [← hrr] at HU HLEN hdec
    have HDEC := Hd hdec
    have HLL := Hd hll
    obtain ⟨xx, rfl⟩ := HX.out.ptr
    clear hrr hdec hop hll HD HLT hs42
    go_wp2_with fail
    refine (HP.out).mono ?_
    rintro e w2 ⟨rfl, h1, h2⟩
    have H1 := Hd h1
    have H2 := zV HK h2
    have H2B := Hd h2
    clear h1 h2
    go_wp2_with fail
    refine (HU.out _ H1.out).mono ?_
    intro e w3 hr
    cases rr with
    | err z r =>
     obtain ⟨rfl, h4, h5⟩ := hr
     have H4 := Hd h4
     have H5X := zV H2 h5
     clear h4 h5
     go_wp2
     rw [← HDEC.out]
     exact ⟨rfl, rfl, H4.out, H5X.out⟩
    | ok c r =>
     obtain ⟨vc, rfl, h3, h4, h5⟩ := hr
     have H3 := Hd h3
     have H4 := Hd h4
     have H5B := Hd h5
     have H5X := zV H2 h5
     obtain ⟨xc, rfl⟩ := h3.ptr
     have hl2 := HLEN.out c r rfl
     have HL3 := Hd hl2
     clear h3 h4 h5 hl2
     go_wp2_with fail
     have hrow : ExAt (w3.alloc (.cells #[.int .i64 4, .int .i64 0, .string .empty, .pointer (some ⟨xx, 0, none⟩), .pointer (some ⟨xc, 0, none⟩)] 74)) b (.bin 4 x c) (.pointer (some ⟨w3.heap.size, 0, none⟩)) := ⟨_, _, _, rfl, H4.out.lt, heap_alloc_new _ _, ((HX.out.keep H2B.out (by simp)).keep H5B.out (by simp)).alloc _, H3.out.alloc _⟩
     have HROW := Hd hrow
     clear hrow
     go_roundw
     · exact ⟨g, .bin 4 x c, r, by omega, by have := HL3.out; have := HLL.out; omega, HROW.out, H4.out.keep ((Keeps.refl [] _).alloc _), H5X.out.alloc _, HDEC.out⟩
     ·
      rw [leftOf_alloc H4.out, HL2.out.leftOf]
      have := HL3.out; have := HLL.out; omega
   ·
    have hn42 : Px.sees l [42] = false := by simpa using hs42
    clear hs42
    by_cases hs47 : Px.sees l [47] = true
    ·
     have HP := Hd (passes_yes wr b n o k l HL2.out [47] (by simp) hs47)
     have HN42 := Hd (passes_no wr b n o k l HL2.out [42] hn42)
     have hop : Px.mulOp l = some 5 := by unfold Px.mulOp; simp only [hs47, hn42]; simp
     have hdec := HD.out
     unfold Px.prodL at hdec
     rw [hop] at hdec
     simp only at hdec
     have HU := Hd (fun w' (h' : PAt w' b n l.tail o k) => (HE.out g (by omega)).un w' b n l.tail o k h' ho2 (by have := HLT.out _ hs47; omega))
     have HLEN := Hd ((Px.ex_len g).1 o l.tail)
     have hll := HLT.out _ hs47
     obtain ⟨rr, hrr⟩ : ∃ rr, rr = Px.un g o l.tail := ⟨_, rfl⟩
     rw [← hrr] at HU HLEN hdec
     have HDEC := Hd hdec
     have HLL := Hd hll
     obtain ⟨xx, rfl⟩ := HX.out.ptr
     clear hrr hdec hop hll HD HLT hs47 hn42
     go_wp2_with fail
     refine (same (HN42.out)) ?_
     go_wp2_with fail
     refine (HP.out).mono ?_
     rintro e w2 ⟨rfl, h1, h2⟩
     have H1 := Hd h1
     have H2 := zV HK h2
     have H2B := Hd h2
     clear h1 h2
     go_wp2_with fail
     refine (HU.out _ H1.out).mono ?_
     intro e w3 hr
     cases rr with
     | err z r =>
      obtain ⟨rfl, h4, h5⟩ := hr
      have H4 := Hd h4
      have H5X := zV H2 h5
      clear h4 h5
      go_wp2
      rw [← HDEC.out]
      exact ⟨rfl, rfl, H4.out, H5X.out⟩
     | ok c r =>
      obtain ⟨vc, rfl, h3, h4, h5⟩ := hr
      have H3 := Hd h3
      have H4 := Hd h4
      have H5B := Hd h5
      have H5X := zV H2 h5
      obtain ⟨xc, rfl⟩ := h3.ptr
      have hl2 := HLEN.out c r rfl
      have HL3 := Hd hl2
      clear h3 h4 h5 hl2
      go_wp2_with fail
      have hrow : ExAt (w3.alloc (.cells #[.int .i64 5, .int .i64 0, .string .empty, .pointer (some ⟨xx, 0, none⟩), .pointer (some ⟨xc, 0, none⟩)] 74)) b (.bin 5 x c) (.pointer (some ⟨w3.heap.size, 0, none⟩)) := ⟨_, _, _, rfl, H4.out.lt, heap_alloc_new _ _, ((HX.out.keep H2B.out (by simp)).keep H5B.out (by simp)).alloc _, H3.out.alloc _⟩
      have HROW := Hd hrow
      clear hrow
      go_roundw
      · exact ⟨g, .bin 5 x c, r, by omega, by have := HL3.out; have := HLL.out; omega, HROW.out, H4.out.keep ((Keeps.refl [] _).alloc _), H5X.out.alloc _, HDEC.out⟩
      ·
       rw [leftOf_alloc H4.out, HL2.out.leftOf]
       have := HL3.out; have := HLL.out; omega
    ·
     have hn47 : Px.sees l [47] = false := by simpa using hs47
     clear hs47
     by_cases hs37 : Px.sees l [37] = true
     ·
      have HP := Hd (passes_yes wr b n o k l HL2.out [37] (by simp) hs37)
      have HN42 := Hd (passes_no wr b n o k l HL2.out [42] hn42)
      have HN47 := Hd (passes_no wr b n o k l HL2.out [47] hn47)
      have hop : Px.mulOp l = some 6 := by unfold Px.mulOp; simp only [hs37, hn42, hn47]; simp
      have hdec := HD.out
      unfold Px.prodL at hdec
      rw [hop] at hdec
      simp only at hdec
      have HU := Hd (fun w' (h' : PAt w' b n l.tail o k) => (HE.out g (by omega)).un w' b n l.tail o k h' ho2 (by have := HLT.out _ hs37; omega))
      have HLEN := Hd ((Px.ex_len g).1 o l.tail)
      have hll := HLT.out _ hs37
      obtain ⟨rr, hrr⟩ : ∃ rr, rr = Px.un g o l.tail := ⟨_, rfl⟩
      rw [← hrr] at HU HLEN hdec
      have HDEC := Hd hdec
      have HLL := Hd hll
      obtain ⟨xx, rfl⟩ := HX.out.ptr
      clear hrr hdec hop hll HD HLT hs37 hn42 hn47
      go_wp2_with fail
      refine (same (HN42.out)) ?_
      go_wp2_with fail
      refine (same (HN47.out)) ?_
      go_wp2_with fail
      refine (HP.out).mono ?_
      rintro e w2 ⟨rfl, h1, h2⟩
      have H1 := Hd h1
      have H2 := zV HK h2
      have H2B := Hd h2
      clear h1 h2
      go_wp2_with fail
      refine (HU.out _ H1.out).mono ?_
      intro e w3 hr
      cases rr with
      | err z r =>
       obtain ⟨rfl, h4, h5⟩ := hr
       have H4 := Hd h4
       have H5X := zV H2 h5
       clear h4 h5
       go_wp2
       rw [← HDEC.out]
       exact ⟨rfl, rfl, H4.out, H5X.out⟩
      | ok c r =>
       obtain ⟨vc, rfl, h3, h4, h5⟩ := hr
       have H3 := Hd h3
       have H4 := Hd h4
       have H5B := Hd h5
       have H5X := zV H2 h5
       obtain ⟨xc, rfl⟩ := h3.ptr
       have hl2 := HLEN.out c r rfl
       have HL3 := Hd hl2
       clear h3 h4 h5 hl2
       go_wp2_with fail
       have hrow : ExAt (w3.alloc (.cells #[.int .i64 6, .int .i64 0, .string .empty, .pointer (some ⟨xx, 0, none⟩), .pointer (some ⟨xc, 0, none⟩)] 74)) b (.bin 6 x c) (.pointer (some ⟨w3.heap.size, 0, none⟩)) := ⟨_, _, _, rfl, H4.out.lt, heap_alloc_new _ _, ((HX.out.keep H2B.out (by simp)).keep H5B.out (by simp)).alloc _, H3.out.alloc _⟩
       have HROW := Hd hrow
       clear hrow
       go_roundw
       · exact ⟨g, .bin 6 x c, r, by omega, by have := HL3.out; have := HLL.out; omega, HROW.out, H4.out.keep ((Keeps.refl [] _).alloc _), H5X.out.alloc _, HDEC.out⟩
       ·
        rw [leftOf_alloc H4.out, HL2.out.leftOf]
        have := HL3.out; have := HLL.out; omega
     ·
      have hn37 : Px.sees l [37] = false := by simpa using hs37
      clear hs37
      have HN42 := Hd (passes_no wr b n o k l HL2.out [42] hn42)
      have HN47 := Hd (passes_no wr b n o k l HL2.out [47] hn47)
      have HN37 := Hd (passes_no wr b n o k l HL2.out [37] hn37)
      have hop : Px.mulOp l = none := by unfold Px.mulOp; simp only [hn42, hn47, hn37]; simp
      have hdec := HD.out
      unfold Px.prodL at hdec
      rw [hop] at hdec
      simp only at hdec
      have HDEC := Hd hdec
      obtain ⟨xx, rfl⟩ := HX.out.ptr
      clear hdec hop HD HLT hn42 hn47 hn37
      go_wp2_with fail
      refine (same (HN42.out)) ?_
      go_wp2_with fail
      refine (same (HN47.out)) ?_
      go_wp2_with fail
      refine (same (HN37.out)) ?_
      go_wp2_with fail
      go_ret
      rw [← HDEC.out]
      exact ⟨_, rfl, HX.out, HL2.out, HK.out⟩
theorem sum_step (f : Nat) (w : World) (b n o k : Nat) (ts : List Tok) (h : PAt w b n ts o k) (ho2 : o ≤ 1000) (hf : 4 * ts.length + 3 ≤ f + 1) (hE : ∀ g, g ≤ f → EC g) :
 Calls Tryz.prog 179 #[pp b] w (RP ExAt (fun _ => k) w b n o (Px.sum (f + 1) o ts)) := by
 have HU := Hd ((hE f (Nat.le_refl _)).prod w b n ts o k h ho2 (by omega))
 have HP := Hd (show Px.sum (f + 1) o ts = (Px.prod f o ts).bind (fun a r => Px.sumL f o a r) from by unfold Px.sum Px.R.bind; cases Px.prod f o ts <;> rfl)
 have HLEN := Hd ((Px.ex_len f).2.2.1 o ts)
 obtain ⟨rr, hrr⟩ : ∃ rr, rr = Px.prod f o ts := ⟨_, rfl⟩
 rw [← hrr] at HU HP HLEN
 rw [HP.out]
 have HE := Hd hE
 have HF := Hd hf
 clear h hrr HP hE hf
 cases rr with
 | err z r =>
  show Calls _ _ _ _ (RP ExAt _ w b n o (.err z r))
  go_enter Tryz.func179, Tryz.ntmps179
  go_wp2_with fail
  refine (HU.out).mono ?_
  rintro e w1 ⟨rfl, h4, h5⟩
  have H4 := Hd h4
  have H5 := Hd h5
  clear h4 h5
  go_wp2
  exact ⟨rfl, rfl, H4.out, H5.out⟩
 | ok a r =>
  have hl := HLEN.out a r rfl
  show Calls _ _ _ _ (RP ExAt _ w b n o (Px.sumL f o a r))
  obtain ⟨R, hR⟩ : ∃ R, R = Px.sumL f o a r := ⟨_, rfl⟩
  rw [← hR]
  have HR := Hd hR
  have HL := Hd hl
  clear hR hl HLEN
  go_enter Tryz.func179, Tryz.ntmps179
  go_wp2_with fail
  refine (HU.out).mono ?_
  rintro e w1 ⟨v, rfl, h3, h4, h5⟩
  have H3 := Hd h3
  have H4 := Hd h4
  have H5 := Hd h5
  clear h3 h4 h5 HU
  go_wp2_with fail
  go_loopw [3] (fun ev wr => ∃ (g : Nat) (x : Ex) (l : List Tok), g ≤ f ∧ 4 * l.length + 3 ≤ g ∧ ExAt wr b x ev ∧ PAt wr b n l o k ∧ Keeps [b] w wr ∧ Px.sumL g o x l = R) (fun _ wr => leftOf wr b)
  case atStart => exact ⟨f, a, r, Nat.le_refl _, by have := HF.out; have := HL.out; omega, H3.out, H4.out, H5.out, HR.out.symm⟩
  case round =>
   obtain ⟨g, x, l, hg, hgl, hx, hl2, hk, hd⟩ := hrel
   match g, hgl with
   | g + 1, hgl =>
   have HX := Hd hx
   have HL2 := Hd hl2
   have HK := Hd hk
   have HD := Hd hd
   have HLT : ∀ (c : UInt8), Px.sees l [c] = true → l.tail.length + 1 = l.length := fun c hs => by
    obtain ⟨t, r, rfl, _⟩ := sees_cons (by simp) hs
    simp
   have HLT := Hd HLT
   clear hx hl2 hk hd
   by_cases hs43 : Px.sees l [43] = true
   ·
    have HP := Hd (passes_yes wr b n o k l HL2.out [43] (by simp) hs43)
    have hop : Px.addOp l = some 2 := by unfold Px.addOp; simp only [hs43]; simp
    have hdec := HD.out
    unfold Px.sumL at hdec
    rw [hop] at hdec
    simp only at hdec
    have HU := Hd (fun w' (h' : PAt w' b n l.tail o k) => (HE.out g (by omega)).prod w' b n l.tail o k h' ho2 (by have := HLT.out _ hs43; omega))
    have HLEN := Hd ((Px.ex_len g).2.2.1 o l.tail)
    have hll := HLT.out _ hs43
    obtain ⟨rr, hrr⟩ : ∃ rr, rr = Px.prod g o l.tail := ⟨_, rfl⟩
    rw [← hrr] at HU HLEN hdec
    have HDEC := Hd hdec
    have HLL := Hd hll
    obtain ⟨xx, rfl⟩ := HX.out.ptr
    clear hrr hdec hop hll HD HLT hs43
    go_wp2_with fail
    refine (HP.out).mono ?_
    rintro e w2 ⟨rfl, h1, h2⟩
    have H1 := Hd h1
    have H2 := zV HK h2
    have H2B := Hd h2
    clear h1 h2
    go_wp2_with fail
    refine (HU.out _ H1.out).mono ?_
    intro e w3 hr
    cases rr with
    | err z r =>
     obtain ⟨rfl, h4, h5⟩ := hr
     have H4 := Hd h4
     have H5X := zV H2 h5
     clear h4 h5
     go_wp2
     rw [← HDEC.out]
     exact ⟨rfl, rfl, H4.out, H5X.out⟩
    | ok c r =>
     obtain ⟨vc, rfl, h3, h4, h5⟩ := hr
     have H3 := Hd h3
     have H4 := Hd h4
     have H5B := Hd h5
     have H5X := zV H2 h5
     obtain ⟨xc, rfl⟩ := h3.ptr
     have hl2 := HLEN.out c r rfl
     have HL3 := Hd hl2
     clear h3 h4 h5 hl2
     go_wp2_with fail
     have hrow : ExAt (w3.alloc (.cells #[.int .i64 2, .int .i64 0, .string .empty, .pointer (some ⟨xx, 0, none⟩), .pointer (some ⟨xc, 0, none⟩)] 74)) b (.bin 2 x c) (.pointer (some ⟨w3.heap.size, 0, none⟩)) := ⟨_, _, _, rfl, H4.out.lt, heap_alloc_new _ _, ((HX.out.keep H2B.out (by simp)).keep H5B.out (by simp)).alloc _, H3.out.alloc _⟩
     have HROW := Hd hrow
     clear hrow
     go_roundw
     · exact ⟨g, .bin 2 x c, r, by omega, by have := HL3.out; have := HLL.out; omega, HROW.out, H4.out.keep ((Keeps.refl [] _).alloc _), H5X.out.alloc _, HDEC.out⟩
     ·
      rw [leftOf_alloc H4.out, HL2.out.leftOf]
      have := HL3.out; have := HLL.out; omega
   ·
    have hn43 : Px.sees l [43] = false := by simpa using hs43
    clear hs43
    by_cases hs45 : Px.sees l [45] = true
    ·
     have HP := Hd (passes_yes wr b n o k l HL2.out [45] (by simp) hs45)
     have HN43 := Hd (passes_no wr b n o k l HL2.out [43] hn43)
     have hop : Px.addOp l = some 3 := by unfold Px.addOp; simp only [hs45, hn43]; simp
     have hdec := HD.out
     unfold Px.sumL at hdec
     rw [hop] at hdec
     simp only at hdec
     have HU := Hd (fun w' (h' : PAt w' b n l.tail o k) => (HE.out g (by omega)).prod w' b n l.tail o k h' ho2 (by have := HLT.out _ hs45; omega))
     have HLEN := Hd ((Px.ex_len g).2.2.1 o l.tail)
     have hll := HLT.out _ hs45
     obtain ⟨rr, hrr⟩ : ∃ rr, rr = Px.prod g o l.tail := ⟨_, rfl⟩
     rw [← hrr] at HU HLEN hdec
     have HDEC := Hd hdec
     have HLL := Hd hll
     obtain ⟨xx, rfl⟩ := HX.out.ptr
     clear hrr hdec hop hll HD HLT hs45 hn43
     go_wp2_with fail
     refine (same (HN43.out)) ?_
     go_wp2_with fail
     refine (HP.out).mono ?_
     rintro e w2 ⟨rfl, h1, h2⟩
     have H1 := Hd h1
     have H2 := zV HK h2
     have H2B := Hd h2
     clear h1 h2
     go_wp2_with fail
     refine (HU.out _ H1.out).mono ?_
     intro e w3 hr
     cases rr with
     | err z r =>
      obtain ⟨rfl, h4, h5⟩ := hr
      have H4 := Hd h4
      have H5X := zV H2 h5
      clear h4 h5
      go_wp2
      rw [← HDEC.out]
      exact ⟨rfl, rfl, H4.out, H5X.out⟩
     | ok c r =>
      obtain ⟨vc, rfl, h3, h4, h5⟩ := hr
      have H3 := Hd h3
      have H4 := Hd h4
      have H5B := Hd h5
      have H5X := zV H2 h5
      obtain ⟨xc, rfl⟩ := h3.ptr
      have hl2 := HLEN.out c r rfl
      have HL3 := Hd hl2
      clear h3 h4 h5 hl2
      go_wp2_with fail
      have hrow : ExAt (w3.alloc (.cells #[.int .i64 3, .int .i64 0, .string .empty, .pointer (some ⟨xx, 0, none⟩), .pointer (some ⟨xc, 0, none⟩)] 74)) b (.bin 3 x c) (.pointer (some ⟨w3.heap.size, 0, none⟩)) := ⟨_, _, _, rfl, H4.out.lt, heap_alloc_new _ _, ((HX.out.keep H2B.out (by simp)).keep H5B.out (by simp)).alloc _, H3.out.alloc _⟩
      have HROW := Hd hrow
      clear hrow
      go_roundw
      · exact ⟨g, .bin 3 x c, r, by omega, by have := HL3.out; have := HLL.out; omega, HROW.out, H4.out.keep ((Keeps.refl [] _).alloc _), H5X.out.alloc _, HDEC.out⟩
      ·
       rw [leftOf_alloc H4.out, HL2.out.leftOf]
       have := HL3.out; have := HLL.out; omega
    ·
     have hn45 : Px.sees l [45] = false := by simpa using hs45
     clear hs45
     have HN43 := Hd (passes_no wr b n o k l HL2.out [43] hn43)
     have HN45 := Hd (passes_no wr b n o k l HL2.out [45] hn45)
     have hop : Px.addOp l = none := by unfold Px.addOp; simp only [hn43, hn45]; simp
     have hdec := HD.out
     unfold Px.sumL at hdec
     rw [hop] at hdec
     simp only at hdec
     have HDEC := Hd hdec
     obtain ⟨xx, rfl⟩ := HX.out.ptr
     clear hdec hop HD HLT hn43 hn45
     go_wp2_with fail
     refine (same (HN43.out)) ?_
     go_wp2_with fail
     refine (same (HN45.out)) ?_
     go_wp2_with fail
     go_ret
     rw [← HDEC.out]
     exact ⟨_, rfl, HX.out, HL2.out, HK.out⟩
theorem ec : ∀ f, EC f := fun f => by
 induction f using Nat.strongRecOn with
 | _ f ih =>
  match f, ih with
  | 0, _ => exact ⟨fun w b n ts o k h ho hf => by omega, fun w b n ts o k h ho hf => by omega, fun w b n ts o k h ho hf => by omega⟩
  | f + 1, ih =>
   have hle : ∀ g, g ≤ f → EC g := fun g hg => ih g (by omega)
   have hlt : ∀ {ts : List Tok}, ts ≠ [] → ts.tail.length + 1 = ts.length := fun {ts} h => by
    match ts, h with
    | t :: r, _ => simp
   refine ⟨fun w b n ts o k h ho hf => ?_, fun w b n ts o k h ho hf => prod_step f w b n o k ts h ho hf hle, fun w b n ts o k h ho hf => sum_step f w b n o k ts h ho hf hle⟩
   exact un_step f w b n o k ts h ho (fun ho' w1 hne h' => (hle f (Nat.le_refl _)).un w1 b n ts.tail (o + 1) k h' (by omega) (by have := hlt hne; omega)) (fun ho' w1 hne h' => (hle f (Nat.le_refl _)).sum w1 b n ts.tail (o + 1) k h' (by omega) (by have := hlt hne; omega))
theorem sum_any (w : World) (b n o k : Nat) (ts : List Tok) (f : Nat) (h : PAt w b n ts o k) (ho : o ≤ 1000) (hf : 4 * ts.length + 3 ≤ f) :
 Calls Tryz.prog 179 #[pp b] w (RP ExAt (fun _ => k) w b n o (Px.sum f o ts)) := (ec f).sum w b n ts o k h ho hf
end
section
set_option maxHeartbeats 1000000
set_option maxRecDepth 100000
open Go.RowKit Go.Shelf
open Lx (Tok Tx)
open Px (Ex Cn)
def CnAt (w : World) (b : Nat) : Cn → Value → Prop
 | .cmp k a c, v => ∃ x va vc, v = .pointer (some ⟨x, 0, none⟩) ∧ b < x ∧ w.heap[x]? = some (.cells #[.int .i64 (k : Int), va, vc, .pointer none, .pointer none, .string .empty] 105 (0, 0)) ∧ ExAt w b a va ∧ ExAt w b c vc
 | .two k a c, v => ∃ x va vc, v = .pointer (some ⟨x, 0, none⟩) ∧ b < x ∧ w.heap[x]? = some (.cells #[.int .i64 (k : Int), .pointer none, .pointer none, va, vc, .string .empty] 105 (0, 0)) ∧ CnAt w b a va ∧ CnAt w b c vc
 | .not a, v => ∃ x va, v = .pointer (some ⟨x, 0, none⟩) ∧ b < x ∧ w.heap[x]? = some (.cells #[.int .i64 8, .pointer none, .pointer none, va, .pointer none, .string .empty] 105 (0, 0)) ∧ CnAt w b a va
 | .null s, v => ∃ x, v = .pointer (some ⟨x, 0, none⟩) ∧ b < x ∧ w.heap[x]? = some (.cells #[.int .i64 9, .pointer none, .pointer none, .pointer none, .pointer none, .string (strO s)] 105 (0, 0))
theorem CnAt.keep {w w' : World} {b : Nat} {S : List Nat} (hk : Keeps S w w') (hS : ∀ y ∈ S, y ≤ b) : ∀ {e : Cn} {v : Value}, CnAt w b e v → CnAt w' b e v
 | .cmp k a c, v, h => by
  obtain ⟨x, va, vc, h1, h2, h3, h4, h5⟩ := h
  exact ⟨x, va, vc, h1, h2, block_keep h3 hk (fun h => by have := hS _ h; omega), h4.keep hk hS, h5.keep hk hS⟩
 | .two k a c, v, h => by
  obtain ⟨x, va, vc, h1, h2, h3, h4, h5⟩ := h
  exact ⟨x, va, vc, h1, h2, block_keep h3 hk (fun h => by have := hS _ h; omega), h4.keep hk hS, h5.keep hk hS⟩
 | .not a, v, h => by
  obtain ⟨x, va, h1, h2, h3, h4⟩ := h
  exact ⟨x, va, h1, h2, block_keep h3 hk (fun h => by have := hS _ h; omega), h4.keep hk hS⟩
 | .null s, v, h => by
  obtain ⟨x, h1, h2, h3⟩ := h
  exact ⟨x, h1, h2, block_keep h3 hk (fun h => by have := hS _ h; omega)⟩
theorem CnAt.ptr {w : World} {b : Nat} {e : Cn} {v : Value} (h : CnAt w b e v) : ∃ x, v = .pointer (some ⟨x, 0, none⟩) := by
 cases e <;> (obtain ⟨x, h1⟩ := h; first | exact ⟨x, h1.1⟩ | (obtain ⟨_, h1, _⟩ := h1; exact ⟨x, h1⟩) | (obtain ⟨_, _, h1, _⟩ := h1; exact ⟨x, h1⟩))
theorem CnAt.alloc {w : World} {b : Nat} {a : Cn} {v : Value} (h : CnAt w b a v) (obj : Obj) : CnAt (w.alloc obj) b a v := h.keep ((Keeps.refl [] _).alloc _) (by simp)
theorem cn_done {w w2 : World} {b n o k : Nat} {ts : List Tok} {a : Cn} {obj : Obj} (h5 : Keeps [b] w w2) (h4 : PAt w2 b n ts o k) (h : CnAt (w2.alloc obj) b a (.pointer (some ⟨w2.heap.size, 0, none⟩))) :
 RP CnAt (fun _ => k) w b n o (.ok a ts) (.returned (.pointer (some ⟨w2.heap.size, 0, none⟩))) (w2.alloc obj) :=
 ⟨_, rfl, h, h4.keep ((Keeps.refl [] _).alloc _), h5.alloc _⟩
theorem within_deep_C (w : World) (b n o k : Nat) (ts : List Tok) (h : PAt w b n ts o k) (s : Tx) (hy : Px.sees ts s = true) (fv : Value) (ho : 40 ≤ o) (ho2 : o ≤ 1000) :
 Calls Tryz.prog 235 #[pp b, .string (strO s), fv] w fun e w' => e = .panicked (died 52) ∧ w = w' := by
 have HS := Hd (sees_any w b n o k ts h s)
 rw [hy] at HS
 have HN := Hd (fun w' => pneed_yes w' 51)
 have HN2 := Hd (fun w' => pneed_no w' 52)
 have HLT := Hd (show decide ((o : Int) < 40) = false by simp; omega)
 have c2 := h.open.1
 obtain ⟨y, hyy⟩ : ∃ y, y = strO s := ⟨_, rfl⟩
 rw [← hyy] at HS ⊢
 clear h hy hyy ho
 go_enter Tryz.func235, Tryz.ntmps235
 go_wp2_with fail
 refine (same (HS.out)) ?_
 go_wp2_with fail
 refine (same (HN.out _)) ?_
 go_wp2_with fail
 rw [HLT.out]
 refine (same (HN2.out _)) ?_
 go_wp2
 exact ⟨rfl, rfl, rfl⟩
theorem within_not (w : World) (b n o k : Nat) (t : Tok) (r : List Tok) (h : PAt w b n (t :: r) o k) (s : Tx) (hy : Px.sees (t :: r) s = true) (ho : o < 40) (kk : Cn → Nat) (rr : Px.R Cn)
 (hF : ∀ w1, PAt w1 b n r (o + 1) k → Calls Tryz.prog 230 #[pp b] w1 (RP CnAt kk w1 b n (o + 1) rr)) :
 Calls Tryz.prog 235 #[pp b, .string (strO s), .func (.func 230) #[pp b] #[]] w (RP CnAt kk w b n o rr) := by
 have HS := Hd (sees_any w b n o k (t :: r) h s)
 rw [hy] at HS
 have HN := Hd (fun w' => pneed_yes w' 51)
 have HN2 := Hd (fun w' => pneed_yes w' 52)
 have HT := Hd (take_any w b n o k t r h)
 have HLT := Hd (show decide ((o : Int) < 40) = true by simp; omega)
 have c2 := h.open.1
 obtain ⟨y, hyy⟩ : ∃ y, y = strO s := ⟨_, rfl⟩
 obtain ⟨x, hx⟩ : ∃ x, x = strO t.text := ⟨_, rfl⟩
 rw [← hyy] at HS ⊢
 rw [← hx] at HT
 have HF := Hd hF
 clear h hy hyy hx hF
 go_enter Tryz.func235, Tryz.ntmps235
 go_wp2_with fail
 refine (same (HS.out)) ?_
 go_wp2_with fail
 refine (same (HN.out _)) ?_
 go_wp2_with fail
 try rw [HLT.out]
 refine (same (HN2.out _)) ?_
 go_wp2_with fail
 refine (HT.out).mono ?_
 rintro e w1 ⟨rfl, h1, h2⟩
 have H1 := Hd h1
 have H2 := Hd h2
 obtain ⟨d2, e2, _, _⟩ := h1.open
 clear h1 h2 c2
 go_wp2_with fail
 refine (HF.out _ (H1.out.setOpen (o + 1))).mono ?_
 intro e w2 hr
 cases rr with
 | ok a ts =>
  obtain ⟨v, rfl, h3, h4, h5⟩ := hr
  have H3 := Hd h3
  have H4 := Hd h4
  have H5 := Hd h5
  obtain ⟨d3, e3, _, _⟩ := h4.open
  clear h3 h4 h5 d2 e2
  go_wp2_with fail
  go_ret
  exact ⟨v, rfl, H3.out.keep ((Keeps.refl [b] _).setCell (by simp) _) (by simp), by simpa using H4.out.setOpen o, ((H2.out.setCell (by simp) _).trans H5.out (fun _ h _ => h)).setCell (by simp) _⟩
 | err z ts =>
  obtain ⟨rfl, h4, h5⟩ := hr
  have H4 := Hd h4
  have H5 := Hd h5
  clear h4 h5 d2 e2
  go_wp2
  exact ⟨rfl, rfl, H4.out, (H2.out.setCell (by simp) _).trans H5.out (fun _ h _ => h)⟩
theorem within_cond (w : World) (b n o k : Nat) (t : Tok) (r : List Tok) (h : PAt w b n (t :: r) o k) (s : Tx) (hy : Px.sees (t :: r) s = true) (ho : o < 40) (kk : Cn → Nat) (rr : Px.R Cn)
 (hF : ∀ w1, PAt w1 b n r (o + 1) k → Calls Tryz.prog 207 #[pp b] w1 (RP CnAt kk w1 b n (o + 1) rr)) :
 Calls Tryz.prog 235 #[pp b, .string (strO s), .func (.func 207) #[pp b] #[]] w (RP CnAt kk w b n o rr) := by
 have HS := Hd (sees_any w b n o k (t :: r) h s)
 rw [hy] at HS
 have HN := Hd (fun w' => pneed_yes w' 51)
 have HN2 := Hd (fun w' => pneed_yes w' 52)
 have HT := Hd (take_any w b n o k t r h)
 have HLT := Hd (show decide ((o : Int) < 40) = true by simp; omega)
 have c2 := h.open.1
 obtain ⟨y, hyy⟩ : ∃ y, y = strO s := ⟨_, rfl⟩
 obtain ⟨x, hx⟩ : ∃ x, x = strO t.text := ⟨_, rfl⟩
 rw [← hyy] at HS ⊢
 rw [← hx] at HT
 have HF := Hd hF
 clear h hy hyy hx hF
 go_enter Tryz.func235, Tryz.ntmps235
 go_wp2_with fail
 refine (same (HS.out)) ?_
 go_wp2_with fail
 refine (same (HN.out _)) ?_
 go_wp2_with fail
 try rw [HLT.out]
 refine (same (HN2.out _)) ?_
 go_wp2_with fail
 refine (HT.out).mono ?_
 rintro e w1 ⟨rfl, h1, h2⟩
 have H1 := Hd h1
 have H2 := Hd h2
 obtain ⟨d2, e2, _, _⟩ := h1.open
 clear h1 h2 c2
 go_wp2_with fail
 refine (HF.out _ (H1.out.setOpen (o + 1))).mono ?_
 intro e w2 hr
 cases rr with
 | ok a ts =>
  obtain ⟨v, rfl, h3, h4, h5⟩ := hr
  have H3 := Hd h3
  have H4 := Hd h4
  have H5 := Hd h5
  obtain ⟨d3, e3, _, _⟩ := h4.open
  clear h3 h4 h5 d2 e2
  go_wp2_with fail
  go_ret
  exact ⟨v, rfl, H3.out.keep ((Keeps.refl [b] _).setCell (by simp) _) (by simp), by simpa using H4.out.setOpen o, ((H2.out.setCell (by simp) _).trans H5.out (fun _ h _ => h)).setCell (by simp) _⟩
 | err z ts =>
  obtain ⟨rfl, h4, h5⟩ := hr
  have H4 := Hd h4
  have H5 := Hd h5
  clear h4 h5 d2 e2
  go_wp2
  exact ⟨rfl, rfl, H4.out, (H2.out.setCell (by simp) _).trans H5.out (fun _ h _ => h)⟩
theorem not_not_deep (w : World) (b n o k : Nat) (ts : List Tok) (h : PAt w b n ts o k) (hy : Px.sees ts [33] = true) (ho : 40 ≤ o) (ho2 : o ≤ 1000) :
 Calls Tryz.prog 230 #[pp b] w fun e w' => e = .panicked (died 52) ∧ w = w' := by
 have HS := Hd (sees_any w b n o k ts h [33])
 rw [hy] at HS
 have HW := Hd (fun fv => within_deep_C w b n o k ts h [33] hy fv ho ho2)
 clear h hy ho
 go_enter Tryz.func230, Tryz.ntmps230
 go_wp2_with fail
 refine (same (HS.out)) ?_
 go_wp2_with fail
 refine (same (HW.out _)) ?_
 go_wp2
 exact ⟨rfl, rfl, rfl⟩
theorem not_not (w : World) (b n o k : Nat) (ts : List Tok) (h : PAt w b n ts o k) (hy : Px.sees ts [33] = true) (ho : o < 40) (rr : Px.R Cn)
 (hF : ∀ w1, PAt w1 b n ts.tail (o + 1) k → Calls Tryz.prog 230 #[pp b] w1 (RP CnAt (fun _ => k) w1 b n (o + 1) rr)) :
 Calls Tryz.prog 230 #[pp b] w (RP CnAt (fun _ => k) w b n o (rr.bind fun a r => .ok (.not a) r)) := by
 have HS := Hd (sees_any w b n o k ts h [33])
 rw [hy] at HS
 obtain ⟨t, ht⟩ := tail_of (by simp) hy
 obtain ⟨r, hr⟩ : ∃ r, r = ts.tail := ⟨_, rfl⟩
 rw [← hr] at ht hF
 rw [ht] at h hy
 have HW := Hd (within_not w b n o k t r h [33] hy ho (fun _ => k) rr hF)
 have hmf := hmf0
 clear h hy ho hF ht hr
 go_enter Tryz.func230, Tryz.ntmps230
 go_wp2_with fail
 refine (same (HS.out)) ?_
 go_wp2_with fail
 refine (HW.out).mono ?_
 intro e w2 hr
 cases rr with
 | ok a ts =>
  obtain ⟨v, rfl, h3, h4, h5⟩ := hr
  have H3 := Hd h3
  have H4 := Hd h4
  have H5 := Hd h5
  obtain ⟨x, rfl⟩ := h3.ptr
  clear h3 h4 h5
  go_wp2_with fail
  go_ret
  exact cn_done H5.out H4.out ⟨_, _, rfl, H4.out.lt, heap_alloc_new _ _, H3.out.alloc _⟩
 | err z ts =>
  obtain ⟨rfl, h4, h5⟩ := hr
  have H4 := Hd h4
  have H5 := Hd h5
  clear h4 h5
  go_wp2
  exact ⟨rfl, rfl, H4.out, H5.out⟩
theorem not_par_deep (w : World) (b n o k : Nat) (ts : List Tok) (h : PAt w b n ts o k) (hn : Px.sees ts [33] = false) (hy : Px.sees ts [40] = true) (ho : 40 ≤ o) (ho2 : o ≤ 1000) :
 Calls Tryz.prog 230 #[pp b] w fun e w' => e = .panicked (died 52) ∧ w = w' := by
 have HS := Hd (sees_any w b n o k ts h [33])
 rw [hn] at HS
 have HS2 := Hd (sees_any w b n o k ts h [40])
 rw [hy] at HS2
 have HW := Hd (fun fv => within_deep_C w b n o k ts h [40] hy fv ho ho2)
 clear h hy ho
 go_enter Tryz.func230, Tryz.ntmps230
 go_wp2_with fail
 refine (same (HS.out)) ?_
 go_wp2_with fail
 refine (same (HS2.out)) ?_
 go_wp2_with fail
 refine (same (HW.out _)) ?_
 go_wp2
 exact ⟨rfl, rfl, rfl⟩
theorem not_par (w : World) (b n o k : Nat) (ts : List Tok) (h : PAt w b n ts o k) (hn : Px.sees ts [33] = false) (hy : Px.sees ts [40] = true) (ho : o < 40) (rr : Px.R Cn)
 (hF : ∀ w1, PAt w1 b n ts.tail (o + 1) k → Calls Tryz.prog 207 #[pp b] w1 (RP CnAt (fun _ => k) w1 b n (o + 1) rr)) :
 Calls Tryz.prog 230 #[pp b] w (RP CnAt (fun _ => k) w b n o (rr.bind fun a r => if Px.sees r [41] then .ok a r.tail else .err 51 r)) := by
 have HS := Hd (sees_any w b n o k ts h [33])
 rw [hn] at HS
 have HS2 := Hd (sees_any w b n o k ts h [40])
 rw [hy] at HS2
 obtain ⟨t, ht⟩ := tail_of (by simp) hy
 obtain ⟨r, hr⟩ : ∃ r, r = ts.tail := ⟨_, rfl⟩
 rw [← hr] at ht hF
 rw [ht] at h hy
 have HW := Hd (within_cond w b n o k t r h [40] hy ho (fun _ => k) rr hF)
 have hmf := hmf0
 clear h hy ho hF ht hr
 go_enter Tryz.func230, Tryz.ntmps230
 go_wp2_with fail
 refine (same (HS.out)) ?_
 go_wp2_with fail
 refine (same (HS2.out)) ?_
 go_wp2_with fail
 refine (HW.out).mono ?_
 intro e w2 hr
 cases rr with
 | ok a ts =>
  obtain ⟨v, rfl, h3, h4, h5⟩ := hr
  have H3 := Hd h3
  have H4 := Hd h4
  have H5 := Hd h5
  obtain ⟨x, rfl⟩ := h3.ptr
  clear h3 h4 h5
  by_cases hc : Px.sees ts [41] = true
  ·
   have HP := Hd (pass_yes w2 b n o k ts H4.out [41] (by simp) hc)
   have HC := Hd hc
   clear hc
   go_wp2_with fail
   refine (HP.out).mono ?_
   rintro e w3 ⟨rfl, h6, h7⟩
   have H6 := Hd h6
   have H7 := Hd h7
   clear h6 h7
   go_wp2_with fail
   go_ret
   unfold Px.R.bind
   simp only [HC.out, if_true]
   exact ⟨_, rfl, H3.out.keep H7.out (by simp), H6.out, H5.out.trans H7.out (fun _ h _ => h)⟩
  ·
   have hc' : Px.sees ts [41] = false := by simpa using hc
   have HP := Hd (pass_no w2 b n o k ts H4.out [41] hc')
   have HC := Hd hc'
   clear hc hc'
   go_wp2_with fail
   refine (HP.out).mono ?_
   rintro e w3 ⟨rfl, rfl⟩
   go_wp2
   unfold Px.R.bind
   simp only [HC.out]
   exact ⟨rfl, rfl, ⟨_, _, H4.out⟩, H5.out⟩
 | err z ts =>
  obtain ⟨rfl, h4, h5⟩ := hr
  have H4 := Hd h4
  have H5 := Hd h5
  clear h4 h5
  go_wp2
  exact ⟨rfl, rfl, H4.out, H5.out⟩
theorem seesNull_any (w : World) (b n o k : Nat) (ts : List Tok) (h : PAt w b n ts o k) :
 Calls Tryz.prog 236 #[pp b] w fun e w' => e = .returned (.bool (Px.isNull ts)) ∧ w = w' := by
 have HS := Hd (seesName_any w b n o k ts h)
 have HT1 := Hd (text_any w b n o k ts h 1 (by omega))
 have HT2 := Hd (text_any w b n o k ts h 2 (by omega))
 have HI := Hd (show Px.isNull ts = (Px.isName ts && ((Px.txt ts 1 == [61, 61] || Px.txt ts 1 == [33, 61]) && Px.txt ts 2 == [110, 117, 108, 108])) from rfl)
 have hx := strO_toList (Px.txt ts 1)
 have hy := strO_toList (Px.txt ts 2)
 obtain ⟨x, hxx⟩ : ∃ x, x = strO (Px.txt ts 1) := ⟨_, rfl⟩
 obtain ⟨y, hyy⟩ : ∃ y, y = strO (Px.txt ts 2) := ⟨_, rfl⟩
 rw [← hxx] at HT1 hx
 rw [← hyy] at HT2 hy
 rw [← hx, ← hy] at HI
 obtain ⟨i, hi⟩ : ∃ i, i = Px.isName ts := ⟨_, rfl⟩
 rw [← hi] at HS HI
 clear h hx hy hxx hyy hi
 obtain ⟨q, hq⟩ : ∃ q, q = Px.isNull ts := ⟨_, rfl⟩
 rw [← hq] at HI ⊢
 clear hq
 cases i
 ·
  go_enter Tryz.func236, Tryz.ntmps236
  go_wp2_with fail
  refine (same (HS.out)) ?_
  go_wp2_with fail
  go_ret
  exact ⟨ret_bool (by rw [HI.out]; rfl), rfl⟩
 ·
  by_cases h1 : (x.toList == [61, 61]) = true
  ·
   go_enter Tryz.func236, Tryz.ntmps236
   go_wp2_with fail
   refine (same (HS.out)) ?_
   go_wp2_with fail
   refine (same (HT1.out)) ?_
   have HI2 := Hd (HI.out.trans (by rw [h1]; simp : _ = (y.toList == [110, 117, 108, 108])))
   go_wp2_with fail
   refine (same (HT2.out)) ?_
   go_wp2_with fail
   go_ret
   exact ⟨ret_bool HI2.out.symm, rfl⟩
  ·
   have h1' : (x.toList == [61, 61]) = false := by simpa using h1
   have HI1 := Hd (HI.out.trans (by rw [h1']; simp : _ = (x.toList == [33, 61] && y.toList == [110, 117, 108, 108])))
   by_cases h2 : (x.toList == [33, 61]) = true
   ·
    have HI2 := Hd (HI1.out.trans (by rw [h2]; simp : _ = (y.toList == [110, 117, 108, 108])))
    go_enter Tryz.func236, Tryz.ntmps236
    go_wp2_with fail
    refine (same (HS.out)) ?_
    go_wp2_with fail
    refine (same (HT1.out)) ?_
    go_wp2_with fail
    refine (same (HT1.out)) ?_
    go_wp2_with fail
    refine (same (HT2.out)) ?_
    go_wp2_with fail
    go_ret
    exact ⟨ret_bool HI2.out.symm, rfl⟩
   ·
    have h2' : (x.toList == [33, 61]) = false := by simpa using h2
    have HI2 := Hd (HI1.out.trans (by rw [h2']; simp : _ = false))
    go_enter Tryz.func236, Tryz.ntmps236
    go_wp2_with fail
    refine (same (HS.out)) ?_
    go_wp2_with fail
    refine (same (HT1.out)) ?_
    go_wp2_with fail
    refine (same (HT1.out)) ?_
    go_wp2_with fail
    go_ret
    exact ⟨ret_bool HI2.out.symm, rfl⟩
theorem sees_of {t : Tok} {r : List Tok} {s : Tx} (h : t.text = s) : Px.sees (t :: r) s = true := by unfold Px.sees; rw [txt_cons, h]; simp
theorem sees_not {t : Tok} {r : List Tok} {s s' : Tx} (h : t.text = s) (hs : s ≠ s') : Px.sees (t :: r) s' = false := by unfold Px.sees; rw [txt_cons, h]; simpa using hs
theorem nullTest_any (w : World) (b n o k : Nat) (ts : List Tok) (h : PAt w b n ts o k) (hy : Px.isNull ts = true) :
 Calls Tryz.prog 237 #[pp b] w (RP CnAt (fun _ => k) w b n o (.ok (Px.nullCn ts) (ts.drop 3))) := by
 obtain ⟨t0, t1, t2, r, rfl, hn, h1, h2⟩ := Px.isNull_form hy
 have HN := Hd (name_yes w b n o k _ h hn)
 have HP2 := Hd (fun w' (h' : PAt w' b n (t2 :: r) o k) => pass_yes w' b n o k (t2 :: r) h' [110, 117, 108, 108] (by simp) (sees_of h2))
 rw [txt_cons] at HN
 simp only [List.tail_cons] at HN HP2
 rcases h1 with h1 | h1
 ·
  have hr : Px.nullCn (t0 :: t1 :: t2 :: r) = .null t0.text := by unfold Px.nullCn; rw [txt_cons]; simp [Px.txt, h1]
  rw [hr]
  have HP0 := Hd (fun w' (h' : PAt w' b n (t1 :: t2 :: r) o k) => passes_no w' b n o k (t1 :: t2 :: r) h' [33, 61] (sees_not h1 (by simp)))
  have HP1 := Hd (fun w' (h' : PAt w' b n (t1 :: t2 :: r) o k) => pass_yes w' b n o k (t1 :: t2 :: r) h' [61, 61] (by simp) (sees_of h1))
  simp only [List.tail_cons] at HP1
  show Calls _ _ _ _ (RP CnAt _ w b n o (.ok (.null t0.text) r))
  obtain ⟨s, hs⟩ : ∃ s, s = t0.text := ⟨_, rfl⟩
  rw [← hs] at HN ⊢
  clear h hy hn h1 h2 hr hs
  go_enter Tryz.func237, Tryz.ntmps237
  go_wp2_with fail
  refine (HN.out).mono ?_
  rintro e w2 ⟨rfl, h4, h5⟩
  have H4 := Hd h4
  have H5 := Hd h5
  clear h4 h5
  go_wp2_with fail
  have HQ := Hd (H4.out.keep ((Keeps.refl [] w2).alloc (.cells #[.int .i64 9, .pointer none, .pointer none, .pointer none, .pointer none, .string (strO s)] 105)))
  have HC := Hd (show CnAt (w2.alloc (.cells #[.int .i64 9, .pointer none, .pointer none, .pointer none, .pointer none, .string (strO s)] 105)) b (.null s) (.pointer (some ⟨w2.heap.size, 0, none⟩)) from ⟨_, rfl, H4.out.lt, heap_alloc_new _ _⟩)
  refine (same (HP0.out _ HQ.out)) ?_
  go_wp2_with fail
  refine (HP1.out _ HQ.out).mono ?_
  rintro e w3 ⟨rfl, h6, h7⟩
  have H6 := Hd h6
  have H7 := Hd h7
  clear h6 h7
  go_wp2_with fail
  refine (HP2.out _ H6.out).mono ?_
  rintro e w4 ⟨rfl, h6, h7⟩
  have H8 := Hd h6
  have H9 := Hd h7
  clear h6 h7
  go_wp2_with fail
  go_ret
  exact ⟨_, rfl, (HC.out.keep H7.out (by simp)).keep H9.out (by simp), H8.out, ((H5.out.alloc _).trans H7.out (fun _ h _ => h)).trans H9.out (fun _ h _ => h)⟩
 ·
  have hr : Px.nullCn (t0 :: t1 :: t2 :: r) = .not (.null t0.text) := by unfold Px.nullCn; rw [txt_cons]; simp [Px.txt, h1]
  rw [hr]
  have HP1 := Hd (fun w' (h' : PAt w' b n (t1 :: t2 :: r) o k) => passes_yes w' b n o k (t1 :: t2 :: r) h' [33, 61] (by simp) (sees_of h1))
  simp only [List.tail_cons] at HP1
  show Calls _ _ _ _ (RP CnAt _ w b n o (.ok (.not (.null t0.text)) r))
  obtain ⟨s, hs⟩ : ∃ s, s = t0.text := ⟨_, rfl⟩
  rw [← hs] at HN ⊢
  clear h hy hn h1 h2 hr hs
  go_enter Tryz.func237, Tryz.ntmps237
  go_wp2_with fail
  refine (HN.out).mono ?_
  rintro e w2 ⟨rfl, h4, h5⟩
  have H4 := Hd h4
  have H5 := Hd h5
  clear h4 h5
  go_wp2_with fail
  have HQ := Hd (H4.out.keep ((Keeps.refl [] w2).alloc (.cells #[.int .i64 9, .pointer none, .pointer none, .pointer none, .pointer none, .string (strO s)] 105)))
  have HC := Hd (show CnAt (w2.alloc (.cells #[.int .i64 9, .pointer none, .pointer none, .pointer none, .pointer none, .string (strO s)] 105)) b (.null s) (.pointer (some ⟨w2.heap.size, 0, none⟩)) from ⟨_, rfl, H4.out.lt, heap_alloc_new _ _⟩)
  refine (HP1.out _ HQ.out).mono ?_
  rintro e w3 ⟨rfl, h6, h7⟩
  have H6 := Hd h6
  have H7 := Hd h7
  clear h6 h7
  go_wp2_with fail
  have HC2 := Hd (show CnAt (w3.alloc (.cells #[.int .i64 8, .pointer none, .pointer none, .pointer (some ⟨w2.heap.size, 0, none⟩), .pointer none, .string .empty] 105)) b (.not (.null s)) (.pointer (some ⟨w3.heap.size, 0, none⟩)) from ⟨_, _, rfl, H6.out.lt, heap_alloc_new _ _, (HC.out.keep H7.out (by simp)).alloc _⟩)
  refine (HP2.out _ (H6.out.keep ((Keeps.refl [] w3).alloc _))).mono ?_
  rintro e w4 ⟨rfl, h6, h7⟩
  have H8 := Hd h6
  have H9 := Hd h7
  clear h6 h7
  go_wp2_with fail
  go_ret
  exact ⟨_, rfl, HC2.out.keep H9.out (by simp), H8.out, ((((H5.out.alloc _).trans H7.out (fun _ h _ => h)).alloc _).trans H9.out (fun _ h _ => h))⟩
end
section
open Go.RowKit Go.Shelf
open Lx (Tok Tx)
open Px (Ex Cn Sm)
theorem start_c {w w2 : World} {b n o k : Nat} {ts : List Tok} {a : Ex} {v : Value} (xa : Nat) (h4 : Hid (PAt w2 b n ts o k)) (h3 : Hid (ExAt w2 b a v)) (h5 : Hid (Keeps [b] w w2)) : Hid (PAt (w2.alloc (.cells #[.int .i64 0, .pointer (some ⟨xa, 0, none⟩), .pointer none, .pointer none, .pointer none, .string .empty] 105)) b n ts o k) ∧ Hid (ExAt (w2.alloc (.cells #[.int .i64 0, .pointer (some ⟨xa, 0, none⟩), .pointer none, .pointer none, .pointer none, .string .empty] 105)) b a v) ∧ Hid ((w2.alloc (.cells #[.int .i64 0, .pointer (some ⟨xa, 0, none⟩), .pointer none, .pointer none, .pointer none, .string .empty] 105)).heap[w2.heap.size]? = some (.cells #[.int .i64 0, .pointer (some ⟨xa, 0, none⟩), .pointer none, .pointer none, .pointer none, .string .empty] 105 (0, 0))) ∧ Hid (Keeps [b] w (w2.alloc (.cells #[.int .i64 0, .pointer (some ⟨xa, 0, none⟩), .pointer none, .pointer none, .pointer none, .string .empty] 105))) := ⟨Lib.hid (h4.out.keep ((Keeps.refl [] w2).alloc _)), Lib.hid (h3.out.alloc _), Lib.hid (heap_alloc_new _ _), Lib.hid (h5.out.alloc _)⟩
end
end Go.Proofs.YtbikifibfaaggaaGreatDoor
