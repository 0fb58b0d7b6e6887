/- Reset. -/
import Derived.Test.YtgjgnieobbhepaaDoorWCommit
namespace Go.Proofs.YtgjgnieobbhepaaDoor
open Go.RowKit
open Reg (Is Fact CB)

attribute [local go_sem] Reg.lateFr Reg.wantedV Reg.gives_value Reg.gives_skip Reg.gives_enter
/-- What Reset makes of disk and log. -/
def resetD (d : Dk) (g : Lg) (ls : List (List UInt8)) : Nat × Dk × Lg :=
  if fitErr (L.cap d.dur.length) d.size ls ≠ 0 then (fitErr (L.cap d.dur.length) d.size ls, d, g)
  else chg d g { area := 1 - g.area, used := L.nsec ls d.size, count := ls.length, settled := false } (L.resetSteps d.dur.length d.size (1 - g.area) ls)
set_option maxRecDepth 100000 in
set_option maxHeartbeats 2000000 in
theorem reset_err (w : World) (h : DH) (B : Nat → Prop) (d : Dk) (lp : Nat) (g : Lg) (G : Nat → Prop) (A : Option Addr) (cap : Nat) (ls : List (List UInt8)) (x : DskAt w h B d) (y : LogAt w lp h.p g)
    (hr : RowsIn w G A ls) (hb : (L.body ls).length ≤ 1099511627776) (hN : 16 ≤ d.dur.length) (he : fitErr (L.cap d.dur.length) d.size ls ≠ 0) :
    Calls Tryd.prog 17 #[.pointer (some ⟨lp, 0, none⟩), .slice A ls.length cap] w (ChangeP w h B lp (resetD d g ls)) := by
  have hcap := sp_le x.ok
  have hc2 := L.cap_room hN
  have HC := Lib.hid (show resetD d g ls = (fitErr (L.cap d.dur.length) d.size ls, d, g) from if_pos he)
  obtain ⟨fr, hfr⟩ : ∃ fr, fr = L.cap d.dur.length := ⟨_, rfl⟩
  have HCAP := Lib.hid (capacity_any w h B d lp g x y hN)
  rw [← hfr] at he HC HCAP
  have HFIT := Lib.hid (fit_any w h B d lp g G A ls cap fr x y hr hb (by omega))
  have HX := Lib.hid x
  have HY := Lib.hid y
  obtain ⟨er, her⟩ : ∃ er, er = fitErr fr d.size ls := ⟨_, rfl⟩
  rw [← her] at he HC HFIT
  have hz : ((er : Int) != 0) = true := by rw [bne_iff_ne]; omega
  clear x y hr hfr her
  go_enter Tryd.func17, Tryd.ntmps17
  go_wp2_with fail
  refine HCAP.out.mono ?_
  rintro e w' ⟨rfl, rfl⟩
  go_wp2_with fail
  refine HFIT.out.mono ?_
  rintro e w' ⟨rfl, rfl⟩
  go_wp2_with fail
  go_ret
  rw [HC.out]
  exact ⟨rfl, Keeps.refl _ _, HY.out, B, HX.out, fun _ h => h, fun _ h => .inl h⟩
/-- The new extent: where it was put, what it holds. -/
def EX (w1 : World) (cs1 : Array Value) (L : Nat → Bool) (vs : Nat → Value) (w : World) : Prop :=
  Keeps [] w1 w ∧ (L 13 = true → L 12 = true) ∧ (L 12 = true → ∃ x cs, vs 12 = .pointer (some ⟨x, 0, none⟩) ∧ w1.heap.size ≤ x ∧ w.heap[x]? = some (.cells cs 66 (0, 0)) ∧ cs.size = 3 ∧ (L 13 = true → cs = cs1))
theorem EX.other {w1 w : World} {cs1 : Array Value} {Ls : Nat → Bool} {vs : Nat → Value} {i : Nat} {v : Value} (h : EX w1 cs1 Ls vs w) (h2 : i ≠ 12) (h3 : i ≠ 13) : EX w1 cs1 (Reg.lay Ls i) (Reg.upd vs i v) w := by
  unfold EX
  rw [lay_ne h2, lay_ne h3]
  refine ⟨h.1, h.2.1, fun e => ?_⟩
  obtain ⟨x, cs, q1, q2⟩ := h.2.2 e
  exact ⟨x, cs, by unfold Reg.upd; rw [if_neg (Ne.symm h2)]; exact q1, q2⟩
/-- New bytes apart from S. -/
def NewUS (S : List Nat) (W : Nat) (l : List UInt8) : Fact := fun v w => ∃ x, v = .slice (some ⟨x, 0, none⟩) l.length l.length ∧ U8At w x l ∧ x ∉ S ∧ W ≤ x
theorem NewUS.keep {S : List Nat} {W : Nat} {l : List UInt8} : ∀ v w w', NewUS S W l v w → Keeps S w w' → NewUS S W l v w' := by
  rintro v w w' ⟨x, h1, h2, h3, h4⟩ hk
  exact ⟨x, h1, h2.keep hk h3, h3, h4⟩
def NewTS (S : List Nat) (W : Nat) (t : Nat × List UInt8) : Fact := fun v w => ∃ x, v = .agg #[.int .i64 (t.1 : Int), .slice (some ⟨x, 0, none⟩) t.2.length t.2.length] ∧ U8At w x t.2 ∧ x ∉ S ∧ W ≤ x
theorem NewTS.keep {S : List Nat} {W : Nat} {t : Nat × List UInt8} : ∀ v w w', NewTS S W t v w → Keeps S w w' → NewTS S W t v w' := by
  rintro v w w' ⟨x, h1, h2, h3, h4⟩ hk
  exact ⟨x, h1, h2.keep hk h3, h3, h4⟩
/-- A row of two steps, the second one's bytes new. -/
def NewRS (S : List Nat) (W : Nat) (a b : Value) (t : Nat × List UInt8) : Fact := fun v w => ∃ x y, v = .slice (some ⟨x, 0, none⟩) 2 2 ∧ w.heap[x]? = some (.cells #[a, b, .int .i64 (t.1 : Int), .slice (some ⟨y, 0, none⟩) t.2.length t.2.length] 77 (0, 0)) ∧ U8At w y t.2 ∧ x ∉ S ∧ y ∉ S ∧ W ≤ x ∧ W ≤ y
theorem NewRS.keep {S : List Nat} {W : Nat} {a b : Value} {t : Nat × List UInt8} : ∀ v w w', NewRS S W a b t v w → Keeps S w w' → NewRS S W a b t v w' := by
  rintro v w w' ⟨x, y, h1, h2, h3, h4, h5, h6⟩ hk
  exact ⟨x, y, h1, block_keep h2 hk h4, h3.keep hk h5, h4, h5, h6⟩
set_option maxRecDepth 100000 in
set_option maxHeartbeats 4000000 in
theorem reset_ok (w : World) (h : DH) (B : Nat → Prop) (d : Dk) (lp : Nat) (g : Lg) (G : Nat → Prop) (A : Option Addr) (cap : Nat) (ls : List (List UInt8)) (x : DskAt w h B d) (y : LogAt w lp h.p g) (hlB : ¬ B lp) (ht : TabAt w)
    (hr : RowsIn w G A ls) (hG : ∀ x, G x → x < w.heap.size) (hN : 16 ≤ d.dur.length) (ha : g.area ≤ 1) (hu : g.used ≤ L.cap d.dur.length) (he : fitErr (L.cap d.dur.length) d.size ls = 0) :
    Calls Tryd.prog 17 #[.pointer (some ⟨lp, 0, none⟩), .slice A ls.length cap] w (ChangeP w h B lp (resetD d g ls)) := by
  have hcap := sp_le x.ok
  have hc2 := L.cap_room hN
  have hsz := x.ok.size
  obtain ⟨hlens, hfits⟩ := fit_ok he
  have hprod : L.nsec ls d.size * d.size ≤ 2048 * 4096 := Nat.mul_le_mul (by omega) hsz.2
  have hbody : (L.body ls).length ≤ 8388608 := by
    by_cases h0 : ls = []
    · subst h0; simp [L.body]
    · have := L.nsec_room h0 (s := d.size) (by omega); omega
  have hcount := body_count ls
  have HC := Lib.hid (show resetD d g ls = chg d g { area := 1 - g.area, used := L.nsec ls d.size, count := ls.length, settled := false } (L.resetSteps d.dur.length d.size (1 - g.area) ls) by unfold resetD; rw [if_neg (by rw [he]; simp)])
  have HCAP := Lib.hid (capacity_any w h B d lp g x y hN)
  have HFIT := Lib.hid (by
    have := fit_any w h B d lp g G A ls cap (L.cap d.dur.length) x y hr (by omega) (by omega)
    rw [he] at this
    exact this)
  have HSEC := Lib.hid (fun w' (hk : Keeps [] w w') => sectors_of w' G A ls cap d.size (hr.keep0 hk) (by omega) (by omega))
  have HFRM := Lib.hid (frame_any w G A ls cap d.size 1 ht hr hG (by omega) (by omega))
  have HST := Lib.hid (fun w' (hk : Keeps [] w w') => start_any w' h B d lp g (x.keep0 hk) (y.keep hk (by simp)) (1 - g.area) (by omega))
  obtain ⟨c0, c1, c2, c3, c4⟩ := y.cells
  have hne := y.ne x
  have hlt := x.lt
  have hll := y.lt
  have HFL := Lib.hid (L.frame_length 1 ls (s := d.size) (by omega))
  have HX := Lib.hid x
  have HY := Lib.hid y
  have HNE := Lib.hid hne
  have HLB := Lib.hid hlB
  have hsecs := x.ok.secs
  obtain ⟨ns, hns⟩ : ∃ ns, ns = L.nsec ls d.size := ⟨_, rfl⟩
  rw [← hns] at HSEC hfits HC hprod HFL
  obtain ⟨T, hT⟩ : ∃ T, T = (ns + 1) * d.size := ⟨_, rfl⟩
  rw [← hT] at HFL
  have hTs : d.size ≤ T ∧ T ≤ 8396800 := by rw [hT, Nat.add_mul]; omega
  obtain ⟨a, hae⟩ : ∃ a, a = g.area := ⟨_, rfl⟩
  have HAE := Lib.hid hae
  rw [← hae] at c1 ha
  obtain ⟨a', hae'⟩ : ∃ a', a' = 1 - a := ⟨_, rfl⟩
  have ha' : a' ≤ 1 := by omega
  rw [← hae, ← hae'] at HST HC
  obtain ⟨sa, hsa⟩ : ∃ sa, sa = L.st d.dur.length a' := ⟨_, rfl⟩
  have hstf := L.st_fits (N := d.dur.length) (a := a') (by omega) ha'
  rw [← hsa] at HST
  have hsab : sa ≤ 8192 := by omega
  have HSA := Lib.hid hsa
  have ea : IntKind.i64.wrap (1 - (a : Int)) = (a' : Int) := by
    rw [show (a' : Int) = 1 - (a : Int) by omega]; exact IntWalk.i64_in _ ⟨by omega, by omega⟩
  have HHL := Lib.hid (L.hd_length (a := a') (s := d.size) (by omega))
  clear x y hr ht hne hlB he hns hT hae hae' hsa hG
  go_enter Tryd.func17, Tryd.ntmps17
  go_wp2_with fail
  refine HCAP.out.mono ?_
  rintro e w' ⟨rfl, rfl⟩
  go_wp2_with fail
  refine HFIT.out.mono ?_
  rintro e w' ⟨rfl, rfl⟩
  go_wp2_with fail
  refine (size_any w h B d HX.out).mono ?_
  rintro e w' ⟨rfl, rfl⟩
  go_wp2_with fail
  refine HFRM.out.mono ?_
  rintro e w2 ⟨gf, rfl, hgf, hgf1, hk2⟩
  rw [HFL.out]
  have HGF := Lib.hid hgf
  have HK2 := Lib.hid hk2
  have k1 := hk2.cell_some c1 (by simp)
  have hgf2 := block_lt hgf
  clear hgf hk2
  go_wp2_with fail
  refine Reg.wp_region_free (A := ?A) (EX w2 #[.int .i64 (a' : Int), .int .i64 (ns : Int), .int .i64 (ls.length : Int)]) (fun _ _ => True)
    [Is (.pointer (some ⟨lp, 0, none⟩)), Is (.pointer (some ⟨lp, 0, none⟩)), Is (.pointer (some ⟨lp, 1, none⟩)), Is (.pointer (some ⟨lp, 1, none⟩)), Is (.int .i64 (a : Int)), Is (.int .i64 (a' : Int)), Is (.slice A ls.length cap), Is (.int .i64 (d.size : Int)), Is (.int .i64 (ns : Int)), Is (.slice A ls.length cap), Is (.int .i64 (ls.length : Int)),
     Is (.agg #[.int .i64 (a' : Int), .int .i64 (ns : Int), .int .i64 (ls.length : Int)]), AnyF, AnyF]
    (by kernel_rfl) (by kernel_rfl) rfl ?hA ?hC ?ho ?hlast ?hend
  case hA => intro vs; simp only [Reg.fill, if_true, Nat.zero_add, Nat.reduceAdd, Act.put, List.setIfInBounds_toArray, List.set_cons_succ, List.set_cons_zero]; exact rfl
  case hC => exact fun vs => ⟨(Keeps.refl _ _).drew, fun e => by simp at e, fun e => by simp at e⟩
  case hlast => repeat (first | exact trivial | refine ⟨fun _ _ _ h _ => h, ?_⟩)
  case ho =>
    repeat' apply And.intro
    all_goals
      first
        | exact trivial
        | (intro Ls vs w' hC hL hd haw K hK
           try simp only [Reg.Deps, Reg.at_, List.getD_cons_zero, List.getD_cons_succ, Region.binds, true_implies, Is, and_true] at hd
           try simp only [Reg.Aw, Region.binds, true_implies, and_true] at haw
           have q1 := hC.1.cell_some k1 (by simp)
           first
             | (go_simp
                exact hK _ _ (hC.other (by decide) (by decide)) trivial rfl)
             | skip)
    · go_simp
      refine (HSEC.out w' (HK2.out.trans hC.1 (by simp))).mono ?_
      rintro e w'' ⟨rfl, rfl⟩
      exact ⟨_, rfl, hK _ _ (hC.other (by decide) (by decide)) trivial rfl⟩
    · have h13 : Ls 13 = false := by
        cases e : Ls 13 with
        | false => rfl
        | true => have := hC.2.1 e; rw [hL] at this; cases this
      go_simp
      refine hK _ _ ⟨hC.1.alloc _, fun e => ?_, fun _ => ⟨w'.heap.size, _, ?_, hC.1.size, heap_alloc_new _ _, rfl, fun e => ?_⟩⟩ trivial trivial
      · rw [lay_ne (by decide), h13] at e; cases e
      · simp [Reg.upd]
      · rw [lay_ne (by decide), h13] at e; cases e
    · have h12 : Ls 12 = true := by first | exact haw.1 | exact haw
      obtain ⟨x9, cs9, hv9, hx9, hh9, hs9, _⟩ := hC.2.2 h12
      obtain ⟨u0, u1, u2, rfl⟩ : ∃ u0 u1 u2 : Value, cs9 = #[u0, u1, u2] := by
        obtain ⟨l9⟩ := cs9
        match l9, hs9 with
        | [u0, u1, u2], _ => exact ⟨u0, u1, u2, rfl⟩
      have z0 : w'.cell? ⟨x9, 0, none⟩ = some u0 := row_cell hh9 0
      have z1 : w'.cell? ⟨x9, 1, none⟩ = some u1 := row_cell hh9 1
      have z2 : w'.cell? ⟨x9, 2, none⟩ = some u2 := row_cell hh9 2
      have y0 := row_free hh9 0
      have y1 := row_free hh9 1
      have y2 := row_free hh9 2
      go_simp
      refine hK _ _ ⟨?_, fun _ => by rw [lay_ne (by decide)]; exact h12, fun _ => ⟨x9, _, ?_, hx9, ?_, rfl, fun _ => rfl⟩⟩ trivial trivial
      · exact (((hC.1.setCell (by simp; omega) _).setCell (by simp; omega) _).setCell (by simp; omega) _)
      · simp [Reg.upd, hv9]
      · rw [row_set (row_set (row_set hh9 0 _) 1 _) 2 _]; rfl
  case hend =>
    intro vs w6 hC hall
    obtain ⟨hk6, _, h6⟩ := hC
    obtain ⟨nb, cs6, hv6, hnb, hbx6, _, hcs⟩ := h6 rfl
    obtain rfl := hcs rfl
    have HBX7 := Lib.hid hbx6
    have HK7 := Lib.hid (HK2.out.trans hk6 (by simp))
    have HGF7 := Lib.hid (HGF.out.keep hk6 (by simp))
    have HFL7 := Lib.hid (block_lt HGF7.out)
    obtain ⟨w7, rfl⟩ : ∃ w7, w7 = w6 := ⟨_, rfl⟩
    have HX7 := Lib.hid (HX.out.keep0 HK7.out)
    have HY7 := Lib.hid (HY.out.keep HK7.out (by simp))
    have hnb7 := block_lt hbx6
    have hw2 := HK2.out.size
    obtain ⟨r, hr⟩ : ∃ r, r = resetD d g ls := ⟨_, rfl⟩
    have HR := Lib.hid (show r = chg d g ⟨a', ns, ls.length, false⟩ [(sa, L.frame 1 ls d.size), (0, L.hd a' d.size)] by rw [hr, HC.out, HSA.out]; rfl)
    rw [← hr]
    have HRR := Lib.hid hr
    have HSTS := Lib.hid (fun w' (hk : Keeps [] w7 w') => HST.out w' (HK7.out.trans hk (by simp)))
    clear hall hk6 h6 hbx6 hr HC ea k1
    rw [hv6]
    go_wp2_with fail
    refine Reg.wp_region_last 14 [0, 1, 2, 3, 4, 5, 6, 7, 8, 9, 10, 11, 12, 13] (fun w' => Keeps [] w7 w') (fun w' => Chgd w7 h B lp r w') (Keeps (lp :: h.l)) (A := ?A2)
      [Is (.pointer (some ⟨lp, 0, none⟩)), Is (.agg #[.int .i64 (a' : Int), .int .i64 (ns : Int), .int .i64 (ls.length : Int)]), Is (.pointer (some ⟨lp, 0, none⟩)), Is (.pointer (some ⟨nb, 0, none⟩)), Is (.int .i64 (a' : Int)), Is (.int .i64 (sa : Int)), Is (.slice (some ⟨gf, 0, none⟩) T T), Is (.agg #[.int .i64 (sa : Int), .slice (some ⟨gf, 0, none⟩) T T]),
       Is (.pointer (some ⟨nb, 0, none⟩)), Is (.int .i64 (a' : Int)), Is (.int .i64 (d.size : Int)), NewUS (lp :: h.l) w7.heap.size (L.hd a' d.size), NewTS (lp :: h.l) w7.heap.size (0, L.hd a' d.size),
       NewRS (lp :: h.l) w7.heap.size (.int .i64 (sa : Int)) (.slice (some ⟨gf, 0, none⟩) T T) (0, L.hd a' d.size), Is (.int .i64 (r.1 : Int)), Is (.int .i64 (r.1 : Int))]
      (by kernel_rfl) (by kernel_rfl) (by kernel_rfl) rfl ?hA2 ?hC2 ?ho2 ?hlast2 ?hend2
    case hA2 => intro vs; simp only [Reg.fill, if_true, Nat.zero_add, Nat.reduceAdd, Act.put, List.setIfInBounds_toArray, List.set_cons_succ, List.set_cons_zero]; exact rfl
    case hC2 => exact (Keeps.refl _ _).drew
    case hlast2 => repeat (first | exact trivial | refine ⟨Is.keepS, ?_⟩ | refine ⟨NewUS.keep, ?_⟩ | refine ⟨NewTS.keep, ?_⟩ | refine ⟨NewRS.keep, ?_⟩)
    case ho2 =>
      repeat' apply And.intro
      all_goals
        first
          | exact trivial
          | (intro b vs2 w' hC hb hd K hK
             have hbb : b = false := by apply hb; decide
             subst hbb
             have hC0 := hC.1 rfl
             try simp only [Reg.Deps, Reg.at_, List.getD_cons_zero, List.getD_cons_succ, Region.binds, true_implies, Is, and_true] at hd
             have hb9 := block_keep HBX7.out hC0 (by simp)
             have q1 : w'.cell? ⟨nb, 0, none⟩ = some (.int .i64 (a' : Int)) := row_cell hb9 0
             have q2 : w'.cell? ⟨nb, 1, none⟩ = some (.int .i64 (ns : Int)) := row_cell hb9 1
             have q3 : w'.cell? ⟨nb, 2, none⟩ = some (.int .i64 (ls.length : Int)) := row_cell hb9 2
             go_simp
             first
               | exact hK _ _ (CB.pre hC0 rfl) (Keeps.refl _ _) rfl
               | skip)
          | (intro b vs2 w' hC hb hd K hK
             try simp only [Reg.Deps, Reg.at_, List.getD_cons_zero, List.getD_cons_succ, Region.binds, true_implies, Is, and_true] at hd
             go_simp
             exact hK _ _ (hC.same rfl id id) (Keeps.refl _ _) (by first | rfl | exact hd | exact hd.1))
      · refine (HSTS.out w' hC0).mono ?_
        rintro e w'' ⟨rfl, rfl⟩
        exact ⟨_, rfl, hK _ _ (CB.pre hC0 rfl) (Keeps.refl _ _) rfl⟩
      · refine (head_any w' a' d.size ha' (by omega)).mono ?_
        rintro e w'' ⟨x, rfl, hxu, hxw, hk⟩
        have hs8 := HK7.out.size
        have hs9 := hC0.size
        exact ⟨_, rfl, hK _ _ (CB.pre (hC0.trans hk (by simp)) rfl) (hk.mono (by simp)) ⟨x, rfl, hxu, by simp [DH.l]; omega, by omega⟩⟩
      · have hN9 : NewUS (lp :: h.l) w7.heap.size (L.hd a' d.size) (vs2 11) w' := by first | exact hd | exact hd.1 | exact hd.2
        obtain ⟨x, hx, hxu, hxn, hxw⟩ := hN9
        rw [hx]
        go_simp
        exact hK _ _ (CB.pre hC0 rfl) (Keeps.refl _ _) ⟨x, rfl, hxu, hxn, hxw⟩
      · have hN9 : NewTS (lp :: h.l) w7.heap.size (0, L.hd a' d.size) (vs2 12) w' := by first | exact hd | exact hd.1 | exact hd.2 | exact hd.2.1 | exact hd.2.2.1
        obtain ⟨x, hx, hxu, hxn, hxw⟩ := hN9
        rw [hx]
        go_simp
        have hs8 := HK7.out.size
        have hs9 := hC0.size
        exact hK _ _ (CB.pre (hC0.alloc _) rfl) ((Keeps.refl _ _).alloc _) ⟨w'.heap.size, x, rfl, heap_alloc_new _ _, hxu.keep ((Keeps.refl [] _).alloc _) (by simp), by simp [DH.l]; omega, hxn, hs9, hxw⟩
      · have hN9 : NewRS (lp :: h.l) w7.heap.size (.int .i64 (sa : Int)) (.slice (some ⟨gf, 0, none⟩) T T) (0, L.hd a' d.size) (vs2 13) w' := by first | exact hd.1 | exact hd.2.1 | exact hd.2.2.1 | exact hd.2.2.2.1 | exact hd.2.2.2.2.1 | exact hd.2.2.2.2.2.1 | exact hd
        obtain ⟨x, y, hx, hxb, hyu, hxn, hyn, hxw, hyw⟩ := hN9
        rw [hx]
        have hs8 := HK7.out.size
        have hs9 := hC0.size
        have hx9 := block_lt hxb
        have hy9 := block_lt hyu
        have hst9 : StepsIn w' (fun z => w.heap.size ≤ z ∧ z < w'.heap.size) (some ⟨x, 0, none⟩) [(sa, L.frame 1 ls d.size), (0, L.hd a' d.size)] := by
          have h7a := HFL7.out
          refine StepsIn.two hxb ⟨by omega, hx9⟩ ⟨some ⟨gf, 0, none⟩, gf, T, by rw [HFL.out], (HGF7.out.keep hC0 (by simp)).bytes, by rw [HFL.out]; exact Nat.le_refl _, by unfold maxLen; omega, .inr ⟨by omega, by omega⟩⟩
            ⟨some ⟨y, 0, none⟩, y, _, rfl, hyu.bytes, Nat.le_refl _, by show (L.hd a' d.size).length ≤ _; rw [HHL.out]; unfold maxLen; omega, .inr ⟨by omega, hy9⟩⟩
        have hst8 : ∀ t ∈ [(sa, L.frame 1 ls d.size), (0, L.hd a' d.size)], t.1 ≤ 65536 ∧ t.2.length ≤ 17179869184 := fun t ht => by
          simp only [List.mem_cons, List.not_mem_nil, or_false] at ht
          rcases ht with rfl | rfl
          · refine ⟨by simp only []; omega, ?_⟩
            show (L.frame 1 ls d.size).length ≤ _
            rw [HFL.out]; omega
          · refine ⟨by simp only []; omega, ?_⟩
            show (L.hd a' d.size).length ≤ _
            rw [HHL.out]; omega
        have hch := change_any w' h B d lp g ⟨a', ns, ls.length, false⟩ (fun z => w.heap.size ≤ z ∧ z < w'.heap.size) (some ⟨x, 0, none⟩) 2 _ (HX7.out.keep0 hC0) (HY7.out.keep hC0 (by simp)) HLB.out hst9
          (fun z hz => ⟨by simp [DH.l]; omega, by omega, hz.2⟩) hst8 (by simp) (by have := HAE.out; omega) (by omega)
        rw [← HR.out] at hch
        refine hch.mono ?_
        rintro e w'' ⟨rfl, q⟩
        have hq : Chgd w7 h B lp r w'' := Chgd.first hC0 q
        exact ⟨_, rfl, hK _ _ (CB.post hq) q.1 rfl⟩
    case hend2 =>
      intro vs2 w8 hC hall
      have hv15 : vs2 15 = .int .i64 (r.1 : Int) := by
        have := hall.2.2.2.2.2.2.2.2.2.2.2.2.2.2.2.1
        exact this
      have HW := Lib.hid (Chgd.first HK7.out hC)
      clear hall hC
      go_wp2_with fail
      go_ret
      rw [← HRR.out]
      exact ⟨congrArg Ending.returned hv15, HW.out⟩
theorem reset_any (w : World) (h : DH) (B : Nat → Prop) (d : Dk) (lp : Nat) (g : Lg) (G : Nat → Prop) (A : Option Addr) (cap : Nat) (ls : List (List UInt8)) (x : DskAt w h B d) (y : LogAt w lp h.p g) (hlB : ¬ B lp) (ht : TabAt w)
    (hr : RowsIn w G A ls) (hG : ∀ x, G x → x < w.heap.size) (hb : (L.body ls).length ≤ 1099511627776) (hN : 16 ≤ d.dur.length) (ha : g.area ≤ 1) (hu : g.used ≤ L.cap d.dur.length) :
    Calls Tryd.prog 17 #[.pointer (some ⟨lp, 0, none⟩), .slice A ls.length cap] w (ChangeP w h B lp (resetD d g ls)) := by
  by_cases he : fitErr (L.cap d.dur.length) d.size ls = 0
  · exact reset_ok w h B d lp g G A cap ls x y hlB ht hr hG hN ha hu he
  · exact reset_err w h B d lp g G A cap ls x y hr hb hN he
end Go.Proofs.YtgjgnieobbhepaaDoor
