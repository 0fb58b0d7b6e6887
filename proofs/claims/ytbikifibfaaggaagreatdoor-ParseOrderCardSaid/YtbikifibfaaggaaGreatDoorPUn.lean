/- unary: each of its ways. -/
import Derived.Test.YtbikifibfaaggaaGreatDoorPTree
namespace Go.Proofs.YtbikifibfaaggaaGreatDoor
open Go.RowKit Go.Shelf
open Lx (Tok Tx)
open Px (Ex Cn)

theorem tail_of {ts : List Tok} {s : Tx} (hs : s ≠ []) (h : Px.sees ts s = true) : ∃ t, ts = t :: ts.tail := by
  obtain ⟨t, r, rfl, _⟩ := sees_cons hs h
  exact ⟨t, rfl⟩
set_option maxHeartbeats 1000000 in
set_option maxRecDepth 100000 in
theorem un_neg_deep (w : World) (b n o k : Nat) (ts : List Tok) (h : PAt w b n ts o k) (hy : Px.sees ts [45] = true) (ho : 40 ≤ o) (ho2 : o ≤ 1000) :
    Calls Tryz.prog 224 #[pp b] w fun e w' => e = .panicked (died 52) ∧ w = w' := by
  have HS := Lib.hid (sees_any w b n o k ts h [45])
  rw [hy] at HS
  have HW := Lib.hid (fun fv => within_deep_E w b n o k ts h [45] hy fv ho ho2)
  clear h hy ho
  go_enter Tryz.func224, Tryz.ntmps224
  go_wp2_with fail
  refine (HS.out).mono ?_
  rintro e w' ⟨rfl, rfl⟩
  go_wp2_with fail
  refine (HW.out _).mono ?_
  rintro e w' ⟨rfl, rfl⟩
  go_wp2
  exact ⟨rfl, rfl, rfl⟩
theorem ex_done {w w2 : World} {b n o k : Nat} {ts : List Tok} {a : Ex} {obj : Obj} (h5 : Keeps [b] w w2) (h4 : PAt w2 b n ts o k) (h : ExAt (w2.alloc obj) b a (.pointer (some ⟨w2.heap.size, 0, none⟩))) :
    RP ExAt (fun _ => k) w b n o (.ok a ts) (.returned (.pointer (some ⟨w2.heap.size, 0, none⟩))) (w2.alloc obj) :=
  ⟨_, rfl, h, h4.keep ((Keeps.refl [] _).alloc _), h5.alloc _⟩
theorem ExAt.alloc {w : World} {b : Nat} {a : Ex} {v : Value} (h : ExAt w b a v) (obj : Obj) : ExAt (w.alloc obj) b a v := h.keep ((Keeps.refl [] _).alloc _) (by simp)
theorem PAt.lt {w : World} {b n o k : Nat} {ts : List Tok} (h : PAt w b n ts o k) : b < w.heap.size := World.block_lt_of_cell? w _ h.open.1
set_option maxHeartbeats 1000000 in
set_option maxRecDepth 100000 in
theorem un_neg (w : World) (b n o k : Nat) (ts : List Tok) (h : PAt w b n ts o k) (hy : Px.sees ts [45] = true) (ho : o < 40) (rr : Px.R Ex)
    (hF : ∀ w1, PAt w1 b n ts.tail (o + 1) k → Calls Tryz.prog 224 #[pp b] w1 (RP ExAt (fun _ => k) w1 b n (o + 1) rr)) :
    Calls Tryz.prog 224 #[pp b] w (RP ExAt (fun _ => k) w b n o (rr.bind fun a r => .ok (.neg a) r)) := by
  have HS := Lib.hid (sees_any w b n o k ts h [45])
  rw [hy] at HS
  obtain ⟨t, ht⟩ := tail_of (by simp) hy
  obtain ⟨r, hr⟩ : ∃ r, r = ts.tail := ⟨_, rfl⟩
  rw [← hr] at ht hF
  rw [ht] at h hy
  have HW := Lib.hid (within_un w b n o k t r h [45] hy ho (fun _ => k) rr hF)
  have hmf : ∀ (fn : Fn) (first cap : Array Value) (w : World), (Instr.makeFunc fn first cap).run Tryz.prog w = .ok (.func fn first cap) w := fun _ _ _ _ => rfl
  clear h hy ho hF ht hr
  go_enter Tryz.func224, Tryz.ntmps224
  go_wp2_with fail
  refine (HS.out).mono ?_
  rintro e w' ⟨rfl, rfl⟩
  go_wp2_with fail
  refine (HW.out).mono ?_
  intro e w2 hr
  cases rr with
  | ok a ts =>
    obtain ⟨v, rfl, h3, h4, h5⟩ := hr
    have H3 := Lib.hid h3
    have H4 := Lib.hid h4
    have H5 := Lib.hid h5
    obtain ⟨x, rfl⟩ := h3.ptr
    clear h3 h4 h5
    go_wp2_with fail
    go_ret
    exact ex_done H5.out H4.out ⟨_, _, rfl, H4.out.lt, heap_alloc_new _ _, H3.out.alloc _⟩
  | err z ts =>
    obtain ⟨rfl, h4, h5⟩ := hr
    have H4 := Lib.hid h4
    have H5 := Lib.hid h5
    clear h4 h5
    go_wp2
    exact ⟨rfl, rfl, H4.out, H5.out⟩
set_option maxHeartbeats 1000000 in
set_option maxRecDepth 100000 in
theorem un_par_deep (w : World) (b n o k : Nat) (ts : List Tok) (h : PAt w b n ts o k) (hn : Px.sees ts [45] = false) (hy : Px.sees ts [40] = true) (ho : 40 ≤ o) (ho2 : o ≤ 1000) :
    Calls Tryz.prog 224 #[pp b] w fun e w' => e = .panicked (died 52) ∧ w = w' := by
  have HS := Lib.hid (sees_any w b n o k ts h [45])
  rw [hn] at HS
  have HS2 := Lib.hid (sees_any w b n o k ts h [40])
  rw [hy] at HS2
  have HW := Lib.hid (fun fv => within_deep_E w b n o k ts h [40] hy fv ho ho2)
  clear h hy ho
  go_enter Tryz.func224, Tryz.ntmps224
  go_wp2_with fail
  refine (HS.out).mono ?_
  rintro e w' ⟨rfl, rfl⟩
  go_wp2_with fail
  refine (HS2.out).mono ?_
  rintro e w' ⟨rfl, rfl⟩
  go_wp2_with fail
  refine (HW.out _).mono ?_
  rintro e w' ⟨rfl, rfl⟩
  go_wp2
  exact ⟨rfl, rfl, rfl⟩
set_option maxHeartbeats 1000000 in
set_option maxRecDepth 100000 in
theorem un_par (w : World) (b n o k : Nat) (ts : List Tok) (h : PAt w b n ts o k) (hn : Px.sees ts [45] = false) (hy : Px.sees ts [40] = true) (ho : o < 40) (rr : Px.R Ex)
    (hF : ∀ w1, PAt w1 b n ts.tail (o + 1) k → Calls Tryz.prog 179 #[pp b] w1 (RP ExAt (fun _ => k) w1 b n (o + 1) rr)) :
    Calls Tryz.prog 224 #[pp b] w (RP ExAt (fun _ => k) w b n o (rr.bind fun a r => if Px.sees r [41] then .ok a r.tail else .err 51 r)) := by
  have HS := Lib.hid (sees_any w b n o k ts h [45])
  rw [hn] at HS
  have HS2 := Lib.hid (sees_any w b n o k ts h [40])
  rw [hy] at HS2
  obtain ⟨t, ht⟩ := tail_of (by simp) hy
  obtain ⟨r, hr⟩ : ∃ r, r = ts.tail := ⟨_, rfl⟩
  rw [← hr] at ht hF
  rw [ht] at h hy
  have HW := Lib.hid (within_sum w b n o k t r h [40] hy ho (fun _ => k) rr hF)
  have hmf : ∀ (fn : Fn) (first cap : Array Value) (w : World), (Instr.makeFunc fn first cap).run Tryz.prog w = .ok (.func fn first cap) w := fun _ _ _ _ => rfl
  clear h hy ho hF ht hr
  go_enter Tryz.func224, Tryz.ntmps224
  go_wp2_with fail
  refine (HS.out).mono ?_
  rintro e w' ⟨rfl, rfl⟩
  go_wp2_with fail
  refine (HS2.out).mono ?_
  rintro e w' ⟨rfl, rfl⟩
  go_wp2_with fail
  refine (HW.out).mono ?_
  intro e w2 hr
  cases rr with
  | ok a ts =>
    obtain ⟨v, rfl, h3, h4, h5⟩ := hr
    have H3 := Lib.hid h3
    have H4 := Lib.hid h4
    have H5 := Lib.hid h5
    obtain ⟨x, rfl⟩ := h3.ptr
    clear h3 h4 h5
    by_cases hc : Px.sees ts [41] = true
    · have HP := Lib.hid (pass_yes w2 b n o k ts H4.out [41] (by simp) hc)
      have HC := Lib.hid hc
      clear hc
      go_wp2_with fail
      refine (HP.out).mono ?_
      rintro e w3 ⟨rfl, h6, h7⟩
      have H6 := Lib.hid h6
      have H7 := Lib.hid h7
      clear h6 h7
      go_wp2_with fail
      go_ret
      unfold Px.R.bind
      simp only [HC.out, if_true]
      exact ⟨_, rfl, H3.out.keep H7.out (by simp), H6.out, H5.out.trans H7.out (fun _ h _ => h)⟩
    · have hc' : Px.sees ts [41] = false := by simpa using hc
      have HP := Lib.hid (pass_no w2 b n o k ts H4.out [41] hc')
      have HC := Lib.hid hc'
      clear hc hc'
      go_wp2_with fail
      refine (HP.out).mono ?_
      rintro e w3 ⟨rfl, rfl⟩
      go_wp2
      unfold Px.R.bind
      simp only [HC.out]
      exact ⟨rfl, rfl, ⟨_, _, H4.out⟩, H5.out⟩
  | err z ts =>
    obtain ⟨rfl, h4, h5⟩ := hr
    have H4 := Lib.hid h4
    have H5 := Lib.hid h5
    clear h4 h5
    go_wp2
    exact ⟨rfl, rfl, H4.out, H5.out⟩
theorem isNum_cons {ts : List Tok} (h : Px.isNum ts = true) : ∃ t r, ts = t :: r ∧ t.kind = 1 := by
  match ts, h with
  | t :: r, h => exact ⟨t, r, rfl, by simpa [Px.isNum] using h⟩
set_option maxHeartbeats 1000000 in
set_option maxRecDepth 100000 in
theorem un_num (w : World) (b n o k : Nat) (ts : List Tok) (h : PAt w b n ts o k) (hn : Px.sees ts [45] = false) (hn2 : Px.sees ts [40] = false) (hy : Px.isNum ts = true) :
    Calls Tryz.prog 224 #[pp b] w (RP ExAt (fun _ => k) w b n o (.ok (.num (Lx.val (Px.txt ts 0))) ts.tail)) := by
  have HS := Lib.hid (sees_any w b n o k ts h [45])
  rw [hn] at HS
  have HS2 := Lib.hid (sees_any w b n o k ts h [40])
  rw [hn2] at HS2
  have HS3 := Lib.hid (seesNumber_any w b n o k ts h)
  rw [hy] at HS3
  obtain ⟨t, r, rfl, hk⟩ := isNum_cons hy
  have HN := Lib.hid (pnumber_yes w b n o k t r h hk)
  have HT := Lib.hid (fun w' (h' : PAt w' b n (t :: r) o k) => take_any w' b n o k t r h')
  rw [txt_cons]
  have H := Lib.hid h
  obtain ⟨z, hz⟩ : ∃ z, z = Lx.val t.text := ⟨_, rfl⟩
  obtain ⟨x, hx⟩ : ∃ x, x = strO t.text := ⟨_, rfl⟩
  rw [← hz] at HN ⊢
  rw [← hx] at HT
  clear h hn hn2 hy hk hz hx
  go_enter Tryz.func224, Tryz.ntmps224
  go_wp2_with fail
  refine (HS.out).mono ?_
  rintro e w' ⟨rfl, rfl⟩
  go_wp2_with fail
  refine (HS2.out).mono ?_
  rintro e w' ⟨rfl, rfl⟩
  go_wp2_with fail
  refine (HS3.out).mono ?_
  rintro e w' ⟨rfl, rfl⟩
  go_wp2_with fail
  refine (HN.out).mono ?_
  rintro e w2 ⟨rfl, hk⟩
  have HK := Lib.hid hk
  clear hk
  go_wp2_with fail
  refine (HT.out _ ((H.out.keep HK.out).keep ((Keeps.refl [] _).alloc _))).mono ?_
  rintro e w3 ⟨rfl, h1, h2⟩
  have H1 := Lib.hid h1
  have H2 := Lib.hid h2
  clear h1 h2
  go_wp2_with fail
  go_ret
  exact ⟨_, rfl, ⟨_, rfl, (H.out.keep HK.out).lt, block_keep (heap_alloc_new _ _) H2.out (by have := (H.out.keep HK.out).lt; simp; omega)⟩, H1.out, ((HK.out.alloc _).mono (by simp)).trans H2.out (fun _ h _ => h)⟩
set_option maxHeartbeats 1000000 in
set_option maxRecDepth 100000 in
theorem un_name (w : World) (b n o k : Nat) (ts : List Tok) (h : PAt w b n ts o k) (hn : Px.sees ts [45] = false) (hn2 : Px.sees ts [40] = false) (hn3 : Px.isNum ts = false) (hy : Px.isName ts = true) :
    Calls Tryz.prog 224 #[pp b] w (RP ExAt (fun _ => k) w b n o (.ok (.var (Px.txt ts 0)) ts.tail)) := by
  have HS := Lib.hid (sees_any w b n o k ts h [45])
  rw [hn] at HS
  have HS2 := Lib.hid (sees_any w b n o k ts h [40])
  rw [hn2] at HS2
  have HS3 := Lib.hid (seesNumber_any w b n o k ts h)
  rw [hn3] at HS3
  have HN := Lib.hid (name_yes w b n o k ts h hy)
  obtain ⟨s, hs⟩ : ∃ s, s = Px.txt ts 0 := ⟨_, rfl⟩
  rw [← hs] at HN ⊢
  clear h hn hn2 hn3 hy hs
  go_enter Tryz.func224, Tryz.ntmps224
  go_wp2_with fail
  refine (HS.out).mono ?_
  rintro e w' ⟨rfl, rfl⟩
  go_wp2_with fail
  refine (HS2.out).mono ?_
  rintro e w' ⟨rfl, rfl⟩
  go_wp2_with fail
  refine (HS3.out).mono ?_
  rintro e w' ⟨rfl, rfl⟩
  go_wp2_with fail
  refine (HN.out).mono ?_
  rintro e w2 ⟨rfl, h4, h5⟩
  have H4 := Lib.hid h4
  have H5 := Lib.hid h5
  clear h4 h5
  go_wp2_with fail
  go_ret
  exact ex_done H5.out H4.out ⟨_, rfl, H4.out.lt, heap_alloc_new _ _⟩
set_option maxHeartbeats 1000000 in
set_option maxRecDepth 100000 in
theorem un_no (w : World) (b n o k : Nat) (ts : List Tok) (h : PAt w b n ts o k) (hn : Px.sees ts [45] = false) (hn2 : Px.sees ts [40] = false) (hn3 : Px.isNum ts = false) (hy : Px.isName ts = false) :
    Calls Tryz.prog 224 #[pp b] w fun e w' => e = .panicked (died 51) ∧ w = w' := by
  have HS := Lib.hid (sees_any w b n o k ts h [45])
  rw [hn] at HS
  have HS2 := Lib.hid (sees_any w b n o k ts h [40])
  rw [hn2] at HS2
  have HS3 := Lib.hid (seesNumber_any w b n o k ts h)
  rw [hn3] at HS3
  have HN := Lib.hid (name_no w b n o k ts h hy)
  clear h hn hn2 hn3 hy
  go_enter Tryz.func224, Tryz.ntmps224
  go_wp2_with fail
  refine (HS.out).mono ?_
  rintro e w' ⟨rfl, rfl⟩
  go_wp2_with fail
  refine (HS2.out).mono ?_
  rintro e w' ⟨rfl, rfl⟩
  go_wp2_with fail
  refine (HS3.out).mono ?_
  rintro e w' ⟨rfl, rfl⟩
  go_wp2_with fail
  refine (HN.out).mono ?_
  rintro e w' ⟨rfl, rfl⟩
  go_wp2
  exact ⟨rfl, rfl, rfl⟩
/-- The contract of unary, those of unary and sum at what is behind a bracket given. -/
theorem un_step (f : Nat) (w : World) (b n o k : Nat) (ts : List Tok) (h : PAt w b n ts o k) (ho2 : o ≤ 1000)
    (hU : o < 40 → ∀ w1, ts ≠ [] → PAt w1 b n ts.tail (o + 1) k → Calls Tryz.prog 224 #[pp b] w1 (RP ExAt (fun _ => k) w1 b n (o + 1) (Px.un f (o + 1) ts.tail)))
    (hS : o < 40 → ∀ w1, ts ≠ [] → PAt w1 b n ts.tail (o + 1) k → Calls Tryz.prog 179 #[pp b] w1 (RP ExAt (fun _ => k) w1 b n (o + 1) (Px.sum f (o + 1) ts.tail))) :
    Calls Tryz.prog 224 #[pp b] w (RP ExAt (fun _ => k) w b n o (Px.un (f + 1) o ts)) := by
  have hne : ∀ {s}, s ≠ [] → Px.sees ts s = true → ts ≠ [] := fun hs h => by
    obtain ⟨t, r, rfl, _⟩ := sees_cons hs h
    simp
  have hstay : ∀ (z : Nat) (e : Ending) (w' : World), (e = .panicked (died (z : Int)) ∧ w = w') → RP ExAt (fun _ => k) w b n o (.err z ts) e w' := fun z e w' ⟨h1, h2⟩ => by
    subst h2
    exact ⟨h1, ⟨_, _, h⟩, Keeps.refl _ _⟩
  unfold Px.un
  by_cases h1 : Px.sees ts [45] = true
  · rw [if_pos h1]
    by_cases ho : 40 ≤ o
    · rw [if_pos ho]
      exact (un_neg_deep w b n o k ts h h1 ho ho2).mono fun e w' => hstay 52 e w'
    · rw [if_neg ho]
      have := un_neg w b n o k ts h h1 (by omega) _ (fun w1 h' => hU (by omega) w1 (hne (by simp) h1) h')
      revert this
      generalize Px.un f (o + 1) ts.tail = rr
      intro this
      cases rr <;> exact this
  · have h1' : Px.sees ts [45] = false := by simpa using h1
    rw [if_neg h1]
    by_cases h2 : Px.sees ts [40] = true
    · rw [if_pos h2]
      by_cases ho : 40 ≤ o
      · rw [if_pos ho]
        exact (un_par_deep w b n o k ts h h1' h2 ho ho2).mono fun e w' => hstay 52 e w'
      · rw [if_neg ho]
        have := un_par w b n o k ts h h1' h2 (by omega) _ (fun w1 h' => hS (by omega) w1 (hne (by simp) h2) h')
        revert this
        generalize Px.sum f (o + 1) ts.tail = rr
        intro this
        cases rr <;> exact this
    · have h2' : Px.sees ts [40] = false := by simpa using h2
      rw [if_neg h2]
      by_cases h3 : Px.isNum ts = true
      · rw [if_pos h3]
        exact un_num w b n o k ts h h1' h2' h3
      · have h3' : Px.isNum ts = false := by simpa using h3
        rw [if_neg h3]
        by_cases h4 : Px.isName ts = true
        · rw [if_pos h4]
          exact un_name w b n o k ts h h1' h2' h3' h4
        · have h4' : Px.isName ts = false := by simpa using h4
          rw [if_neg h4]
          exact (un_no w b n o k ts h h1' h2' h3' h4').mono fun e w' => hstay 51 e w'
end Go.Proofs.YtbikifibfaaggaaGreatDoor
