/- Merged: WCommit WReset WSplit RegPan WLeft -/
import Derived.Test.YtbanpdeganlndaaGreatDoorQ5
import Derived.ArgAppend
namespace Go.Proofs.YtbanpdeganlndaaGreatDoor
open Go.RowKit
open Reg (Is Fact CB)

attribute [local go_sem] Reg.lateFr Reg.wantedV Reg.gives_value Reg.gives_skip Reg.gives_enter
/-- A copy of bytes, whose block is known. -/
def CloneAt (w : World) (l : List UInt8) (e : Ending) (w' : World) : Prop :=
  ∃ g cap cur, e = .returned (.slice (some ⟨g, 0, none⟩) l.length cap) ∧ w'.heap[g]? = some (.cells cur 5 (0, 0)) ∧ (∀ k (h : k < l.length), cur[k]? = some (.int .u8 ((l[k].toNat : Nat) : Int))) ∧ w.heap.size ≤ g ∧ l.length ≤ cap ∧ cap ≤ maxLen ∧ Keeps [] w w'
set_option maxHeartbeats 400000 in
theorem clone_whole (w : World) (g off : Nat) (l : List UInt8) (cap : Nat) (hr : BytesIn w g (some ⟨g, off, none⟩) l) (hl : l.length ≤ 140737488355328) :
    Calls Tryz.prog 75 #[.slice (some ⟨g, off, none⟩) l.length cap] w (CloneAt w l) := by
  have q22 : ∀ (w : World) (a : Option Addr) (n c n' c' : Nat), (binOp .eql 62 (.slice a n c) (.slice none n' c')).run Tryz.prog w = .ok (.bool a.isNone) w := fun w a n c n' c' => Lib.run_eql_slice_nil w _ _ a n c n' c' Tryz.underlying62
  obtain ⟨i0, hi, hz0, hz1, hz2⟩ := info_parts infoU8
  have HR := Lib.hid hr
  clear hr
  go_enter Tryz.func75, Tryz.ntmps75
  go_wp2_with (at_builtin; refine wpList_append_own _ rfl _ _ 62 rfl w.heap.size 5 i0 (.int .u8 0) 1 1 Tryz.underlying62 hi hz0 hz1 hz2 rfl (by decide) _ _ _ rfl (World.ownsRow_made w #[] 0 (Nat.le_refl _) (Nat.zero_le _) rfl) ⟨g, off, none⟩ l.length cap (u8s l) rfl ?qc1 ?qc2 ?qc3 ?qc4 ?qc5 ?qc6 ?_)
  case qc1 => simp [u8s]
  case qc2 =>
    intro j u hj
    have hjl : j < l.length := by
      have := (List.getElem?_eq_some_iff.1 hj).1
      simpa [u8s] using this
    rcases HR.out with h | ⟨off', h, hc⟩
    · subst h; simp at hjl
    · obtain rfl : off = off' := by simpa using h
      have h1 := hc j hjl
      rw [u8s_get hjl] at hj
      obtain rfl := Option.some.inj hj
      rw [Addr.add_lit]
      exact ((Keeps.refl [] w).alloc _).cell_some h1 (by simp)
  case qc3 => exact u8s_one l
  case qc4 => unfold maxLen; omega
  case qc5 => omega
  case qc6 => simp
  intro v' w' h1 h2 h3
  obtain ⟨g', cap', cur, hv, hg', hh, hc', hm', htk⟩ : ∃ g' cap' cur, v' = .slice (some ⟨g', 0, none⟩) l.length cap' ∧ w.heap.size ≤ g' ∧ w'.heap[g']? = some (.cells cur 5 (0, 0)) ∧ l.length ≤ cap' ∧ cap' ≤ maxLen ∧ cur.toList.take l.length = u8s l := by
    rcases h1.2 with ⟨h, h0⟩ | ⟨g2, c2, cu2, hv, hb, hh, hn, hm, hcs, ht⟩
    · exact (h3 h).elim
    · exact ⟨g2, c2, cu2, by simpa using hv, hb, hh, by simpa using hn, hm, by simpa using ht⟩
  have HK := Lib.hid (show Keeps [] w w' from ((Keeps.refl [] w).alloc _).trans (Keeps.of_grown h2) (fun i hi hl => by
      have : i = w.heap.size := by simpa [Value.ownBlock] using hi
      omega))
  have HH := Lib.hid hh
  have HTK := Lib.hid (show ∀ k (h : k < l.length), cur[k]? = some (.int .u8 ((l[k].toNat : Nat) : Int)) from fun k hk => by
    have e1 : cur.toList[k]? = (u8s l)[k]? := by rw [← htk, List.getElem?_take, if_pos hk]
    rw [u8s_get hk] at e1
    rw [← Array.getElem?_toList]; exact e1)
  clear h1 h2 h3 hh htk
  subst hv
  go_wp2
  go_ret
  exact ⟨g', cap', cur, rfl, HH.out, HTK.out, hg', hc', hm', HK.out⟩

/-- What Commit makes of disk and log. -/
def commitD (d : Dk) (g : Lg) (ls : List (List UInt8)) : Nat × Dk × Lg :=
  if fitErr (L.cap d.dur.length - g.used) d.size ls ≠ 0 then (fitErr (L.cap d.dur.length - g.used) d.size ls, d, g)
  else if ls = [] then chg d { g with settled := false } g []
  else chg d g { area := g.area, used := g.used + L.nsec ls d.size, count := g.count + ls.length, settled := false } (L.commitSteps d.dur.length d.size g.area g.used ls)
set_option maxRecDepth 100000 in
set_option maxHeartbeats 2000000 in
theorem commit_err (w : World) (h : DH) (B : Nat → Prop) (d : Dk) (lp : Nat) (g : Lg) (G : Nat → Prop) (A : Option Addr) (cap : Nat) (ls : List (List UInt8)) (x : DskAt w h B d) (y : LogAt w lp h.p g)
    (hr : RowsIn w G A ls) (hb : (L.body ls).length ≤ 1099511627776) (hN : 16 ≤ d.dur.length) (hu : g.used ≤ L.cap d.dur.length) (he : fitErr (L.cap d.dur.length - g.used) d.size ls ≠ 0) :
    Calls Tryz.prog 60 #[.pointer (some ⟨lp, 0, none⟩), .slice A ls.length cap] w (ChangeP w h B lp (commitD d g ls)) := by
  have hcap := sp_le x.ok
  have hc2 := L.cap_room hN
  have HC := Lib.hid (show commitD d g ls = (fitErr (L.cap d.dur.length - g.used) d.size ls, d, g) from if_pos he)
  obtain ⟨fr, hfr⟩ : ∃ fr, fr = L.cap d.dur.length - g.used := ⟨_, rfl⟩
  rw [← hfr] at he HC
  have HFREE := Lib.hid (free_any w h B d lp g x y hN hu)
  rw [← hfr] at HFREE
  have HFIT := Lib.hid (fun w' (hk : Keeps [] w w') => fit_any w' h B d lp g G A ls cap fr (x.keep0 hk) (y.keep hk (by simp)) (hr.keep0 hk) hb (by omega))
  have HX := Lib.hid x
  have HY := Lib.hid y
  obtain ⟨er, her⟩ : ∃ er, er = fitErr fr d.size ls := ⟨_, rfl⟩
  rw [← her] at he HC HFIT
  have hz : ((er : Int) != 0) = true := by rw [bne_iff_ne]; omega
  clear x y hr hfr her
  go_enter Tryz.func60, Tryz.ntmps60
  go_wp2_with fail
  refine HFREE.out.mono ?_
  intro e w1 hq
  obtain ⟨rfl, hk1⟩ := hq.keeps
  have HK1 := Lib.hid hk1
  clear hq hk1
  go_wp2_with fail
  refine (HFIT.out w1 HK1.out).mono ?_
  rintro e w' ⟨rfl, rfl⟩
  go_wp2_with fail
  go_ret
  rw [HC.out]
  exact ⟨rfl, HK1.out.mono (by simp), HY.out.keep HK1.out (by simp), B, HX.out.keep0 HK1.out, fun _ h => h, fun _ h => .inl h⟩
set_option maxRecDepth 100000 in
set_option maxHeartbeats 2000000 in
theorem commit_none (w : World) (h : DH) (B : Nat → Prop) (d : Dk) (lp : Nat) (g : Lg) (A : Option Addr) (cap : Nat) (x : DskAt w h B d) (y : LogAt w lp h.p g) (hlB : ¬ B lp)
    (hN : 16 ≤ d.dur.length) (ha : g.area ≤ 1) (hu : g.used ≤ L.cap d.dur.length) :
    Calls Tryz.prog 60 #[.pointer (some ⟨lp, 0, none⟩), .slice A 0 cap] w (ChangeP w h B lp (commitD d g [])) := by
  have hcap := sp_le x.ok
  have hc2 := L.cap_room hN
  have hfit0 : ∀ f s, fitErr f s [] = 0 := fun f s => by unfold fitErr; rw [if_neg (by simp), if_neg (by rw [L.nsec_nil]; omega)]
  have HC := Lib.hid (show commitD d g [] = chg d { g with settled := false } g [] by unfold commitD; rw [if_neg (by rw [hfit0]; simp), if_pos rfl])
  have HFREE := Lib.hid (free_any w h B d lp g x y hN hu)
  have HFIT := Lib.hid (fun w' (hk : Keeps [] w w') => by
    have := fit_any w' h B d lp g (fun _ => False) A [] cap (L.cap d.dur.length - g.used) (x.keep0 hk) (y.keep hk (by simp)) (.inl rfl) (by simp [L.body]) (by omega)
    rw [hfit0] at this
    exact this)
  obtain ⟨_, c1, c2, c3, c4⟩ := y.cells
  have hne := y.ne x
  have f4 := y.free 4
  have HX := Lib.hid x
  have HY := Lib.hid y
  have HNE := Lib.hid hne
  have HLB := Lib.hid hlB
  clear x y hne hlB
  go_enter Tryz.func60, Tryz.ntmps60
  go_wp2_with fail
  refine HFREE.out.mono ?_
  intro e w1 hq
  obtain ⟨rfl, hk1⟩ := hq.keeps
  have HK1 := Lib.hid hk1
  have k1 := hk1.cell_some c1 (by simp)
  have k2 := hk1.cell_some c2 (by simp)
  have k3 := hk1.cell_some c3 (by simp)
  have k4 := hk1.cell_some c4 (by simp)
  have z4 := (HY.out.keep hk1 (by simp)).free 4
  clear hq hk1
  go_wp2_with fail
  refine (HFIT.out w1 HK1.out).mono ?_
  rintro e w' ⟨rfl, rfl⟩
  have hk2 : Keeps [lp] w1 (w1.setCell ⟨lp, 4, none⟩ (.bool false)) := (Keeps.refl _ _).setCell (by simp) _
  have HCH := Lib.hid (change_any (w1.setCell ⟨lp, 4, none⟩ (.bool false)) h B d lp { g with settled := false } g (fun _ => False) none 0 []
    ((HX.out.keep0 HK1.out).keep hk2 (fun z hz => ⟨by simp at hz; rw [hz]; exact HNE.out.2.2.2, by simp at hz; rw [hz]; exact HLB.out⟩))
    (by unfold LogAt; rw [row_set (HY.out.keep HK1.out (by simp)) 4 _]; rfl) HLB.out (.inl ⟨rfl, rfl⟩) (fun _ h => h.elim) (by simp) (by simp) ha (by simp only []; omega))
  have HK2 := Lib.hid hk2
  clear hk2
  go_wp2_with fail
  refine HCH.out.mono ?_
  rintro e w3 ⟨rfl, q1, q2, B', q3, q4, q5⟩
  have HW := Lib.hid (show ChangeP w h B lp (commitD d g []) (.returned (.int .i64 ((chg d { g with settled := false } g []).1 : Int))) w3 by
    rw [HC.out]
    refine ⟨rfl, ((HK1.out.mono (T := lp :: h.l) (by simp)).trans (HK2.out.mono (T := lp :: h.l) (by simp)) (fun _ h _ => h)).trans q1 (fun _ h _ => h), q2, B', q3, q4, fun z hz => (q5 z hz).imp id (fun e => ?_)⟩
    have h8 := HK1.out.size
    have h9 := HK2.out.size
    omega)
  clear q1 q2 q3 q4 q5
  go_wp2_with fail
  go_ret
  exact HW.out

theorem fit_ok {fr s : Nat} {ls : List (List UInt8)} (h : fitErr fr s ls = 0) : (∀ r ∈ ls, r.length ≤ 1048576) ∧ L.nsec ls s ≤ fr := by
  unfold fitErr at h
  split at h
  · cases h
  · rename_i h1
    split at h
    · cases h
    · rename_i h2
      refine ⟨fun r hr => ?_, by omega⟩
      by_cases hl : r.length ≤ 1048576
      · exact hl
      · exact absurd ⟨r, hr, by omega⟩ h1
theorem first_bytes {ls : List (List UInt8)} {s : Nat} (h0 : ls ≠ []) (hs : 0 < s) : ((L.frame 0 ls s).take s).set 0 1 = (L.frame 1 ls s).take s := by
  obtain ⟨X, hX⟩ := L.frame_marks (s := s) h0
  obtain ⟨n, rfl⟩ : ∃ n, s = n + 1 := ⟨s - 1, by omega⟩
  rw [hX 0, hX 1]; rfl
/-- A row of n things in new memory, apart from S. -/
def NewM (S : List Nat) (W n : Nat) (t : TypeId) (cs : Array Value) : Fact := fun v w => ∃ x, v = .slice (some ⟨x, 0, none⟩) n n ∧ w.heap[x]? = some (.cells cs t (0, 0)) ∧ x ∉ S ∧ W ≤ x
theorem NewM.keep {S : List Nat} {W n : Nat} {t : TypeId} {cs : Array Value} : ∀ v w w', NewM S W n t cs v w → Keeps S w w' → NewM S W n t cs v w' := by
  rintro v w w' ⟨x, h1, h2, h3, h4⟩ hk
  exact ⟨x, h1, block_keep h2 hk h3, h3, h4⟩
theorem StepsIn.two {w : World} {G : Nat → Prop} {x i j n1 n2 c1 c2 : Nat} {A1 A2 : Option Addr} {l1 l2 : List UInt8} (hx : w.heap[x]? = some (.cells #[.int .i64 (i : Int), .slice A1 n1 c1, .int .i64 (j : Int), .slice A2 n2 c2] 147 (0, 0))) (hG : G x)
    (h1 : ElV w G (.slice A1 n1 c1) l1) (h2 : ElV w G (.slice A2 n2 c2) l2) : StepsIn w G (some ⟨x, 0, none⟩) [(i, l1), (j, l2)] := by
  refine .inr ⟨x, 0, [.int .i64 (i : Int), .slice A1 n1 c1, .int .i64 (j : Int), .slice A2 n2 c2], rfl, hG, fun k u hk => ?_, rfl, fun k hk => ?_⟩
  · rw [row_cell hx, Nat.zero_add]
    simpa using hk
  · match k, hk with
    | 0, _ => exact ⟨rfl, _, rfl, h1⟩
    | 1, _ => exact ⟨rfl, _, rfl, h2⟩
def Chgd (w : World) (h : DH) (B : Nat → Prop) (lp : Nat) (r : Nat × Dk × Lg) (w' : World) : Prop := Keeps (lp :: h.l) w w' ∧ LogAt w' lp h.p r.2.2 ∧ ∃ B', DskAt w' h B' r.2.1 ∧ (∀ x, B x → B' x) ∧ (∀ x, B' x → B x ∨ w.heap.size ≤ x)
theorem Chgd.then0 {w w1 w2 : World} {h : DH} {B : Nat → Prop} {lp : Nat} {r : Nat × Dk × Lg} (y : Chgd w h B lp r w1) (hk : Keeps [] w1 w2) : Chgd w h B lp r w2 := by
  obtain ⟨q1, q2, B2, z, z1, z2⟩ := y
  exact ⟨q1.trans hk (by simp), q2.keep hk (by simp), B2, z.keep0 hk, z1, z2⟩
theorem Chgd.first {w w1 w2 : World} {h : DH} {B : Nat → Prop} {lp : Nat} {r : Nat × Dk × Lg} (hk : Keeps [] w w1) (y : Chgd w1 h B lp r w2) : Chgd w h B lp r w2 := by
  obtain ⟨q1, q2, B2, z, z1, z2⟩ := y
  exact ⟨(hk.mono (T := lp :: h.l) (by simp)).trans q1 (fun _ h _ => h), q2, B2, z, z1, fun x hx => (z2 x hx).imp id (fun e => Nat.le_trans hk.size e)⟩
set_option maxRecDepth 100000 in
set_option maxHeartbeats 4000000 in
theorem commit_some (w : World) (h : DH) (B : Nat → Prop) (d : Dk) (lp : Nat) (g : Lg) (G : Nat → Prop) (A : Option Addr) (cap : Nat) (ls : List (List UInt8)) (x : DskAt w h B d) (y : LogAt w lp h.p g) (hlB : ¬ B lp) (ht : TabAt w)
    (hr : RowsIn w G A ls) (hG : ∀ x, G x → x < w.heap.size) (hN : 16 ≤ d.dur.length) (ha : g.area ≤ 1) (hu : g.used ≤ L.cap d.dur.length) (hc : g.count ≤ 1099511627776) (he : fitErr (L.cap d.dur.length - g.used) d.size ls = 0) (h0 : ls ≠ []) :
    Calls Tryz.prog 60 #[.pointer (some ⟨lp, 0, none⟩), .slice A ls.length cap] w (ChangeP w h B lp (commitD d g ls)) := by
  have hcap := sp_le x.ok
  have hc2 := L.cap_room hN
  have hsz := x.ok.size
  obtain ⟨hlens, hfits⟩ := fit_ok he
  have hroom := L.nsec_room h0 (s := d.size) (by omega)
  have hprod : L.nsec ls d.size * d.size ≤ 2048 * 4096 := Nat.mul_le_mul (by omega) hsz.2
  have hbody : (L.body ls).length ≤ 8388608 := by omega
  have hcount := body_count ls
  have HC := Lib.hid (show commitD d g ls = chg d g { area := g.area, used := g.used + L.nsec ls d.size, count := g.count + ls.length, settled := false } (L.commitSteps d.dur.length d.size g.area g.used ls) by unfold commitD; rw [if_neg (by rw [he]; simp), if_neg h0])
  have HFREE := Lib.hid (free_any w h B d lp g x y hN hu)
  have HFIT := Lib.hid (fun w' (hk : Keeps [] w w') => by
    have := fit_any w' h B d lp g G A ls cap (L.cap d.dur.length - g.used) (x.keep0 hk) (y.keep hk (by simp)) (hr.keep0 hk) (by omega) (by omega)
    rw [he] at this
    exact this)
  have HSEC := Lib.hid (fun w' (hk : Keeps [] w w') => sectors_of w' G A ls cap d.size (hr.keep0 hk) (by omega) (by omega))
  have HFRM := Lib.hid (fun w' (hk : Keeps [] w w') => frame_any w' G A ls cap d.size 0 (ht.keep hk (by simp)) (hr.keep0 hk) (fun z hz => Nat.lt_of_lt_of_le (hG z hz) hk.size) (by omega) (by omega))
  have HEND := Lib.hid (fun w' (hk : Keeps [] w w') => (end_any w' h B d lp g (x.keep0 hk) (y.keep hk (by simp)) ha (by omega)).mono fun _ _ hq => hq.keeps)
  obtain ⟨c0, c1, c2, c3, c4⟩ := y.cells
  have hne := y.ne x
  have hlt := x.lt
  have hll := y.lt
  have hpos : 0 < ls.length := List.length_pos_iff.2 h0
  have hz0 : ((ls.length : Int) == 0) = false := by rw [beq_eq_false_iff_ne]; omega
  have HFL := Lib.hid (L.frame_length 0 ls (s := d.size) (by omega))
  have HFB := Lib.hid (first_bytes (s := d.size) h0 (by omega))
  have HX := Lib.hid x
  have HY := Lib.hid y
  have HNE := Lib.hid hne
  have HLB := Lib.hid hlB
  obtain ⟨en, hen⟩ : ∃ en, en = L.st d.dur.length g.area + g.used := ⟨_, rfl⟩
  have hstf := L.st_fits (N := d.dur.length) (a := g.area) (by omega) ha
  have hsecs := x.ok.secs
  have henb : en ≤ 8192 := by omega
  rw [← hen] at HEND
  have HEN := Lib.hid hen
  obtain ⟨ns, hns⟩ : ∃ ns, ns = L.nsec ls d.size := ⟨_, rfl⟩
  rw [← hns] at HSEC hfits HC hroom hprod HFL
  obtain ⟨T, hT⟩ : ∃ T, T = (ns + 1) * d.size := ⟨_, rfl⟩
  rw [← hT] at HFL
  have hTs : d.size ≤ T ∧ T ≤ 8396800 := by rw [hT, Nat.add_mul]; omega
  obtain ⟨a, hae⟩ : ∃ a, a = g.area := ⟨_, rfl⟩
  obtain ⟨u, hue⟩ : ∃ u, u = g.used := ⟨_, rfl⟩
  obtain ⟨c, hce⟩ : ∃ c, c = g.count := ⟨_, rfl⟩
  have HAE := Lib.hid hae
  have HUE := Lib.hid hue
  have HCE := Lib.hid hce
  rw [← hae] at c1
  rw [← hue] at c2 hu hfits
  rw [← hce] at c3 hc
  clear x y hr ht hne hlB he h0 hen hns hT hae hue hce hG
  go_enter Tryz.func60, Tryz.ntmps60
  go_wp2_with fail
  refine HFREE.out.mono ?_
  intro e w1 hq
  obtain ⟨rfl, hk1⟩ := hq.keeps
  have HK1 := Lib.hid hk1
  have k0 := hk1.cell_some c0 (by simp)
  clear hq hk1
  go_wp2_with fail
  refine (HFIT.out w1 HK1.out).mono ?_
  rintro e w' ⟨rfl, rfl⟩
  go_wp2_with fail
  refine (size_any w1 h B d (HX.out.keep0 HK1.out)).mono ?_
  rintro e w' ⟨rfl, rfl⟩
  go_wp2_with fail
  refine (HFRM.out w1 HK1.out).mono ?_
  rintro e w2 ⟨gf, rfl, hgf, hgf1, hk2⟩
  rw [HFL.out]
  have hk12 := HK1.out.trans hk2 (by simp)
  have HGF := Lib.hid hgf
  have HK2 := Lib.hid hk12
  have k1 := hk12.cell_some c1 (by simp)
  have k2 := hk12.cell_some c2 (by simp)
  have k3 := hk12.cell_some c3 (by simp)
  have hgf2 := block_lt hgf
  have hw1 := HK1.out.size
  clear hgf hk2 hk12 k0
  have hsT : (d.size : Int) ≤ (T : Int) := by omega
  have HTL := Lib.hid (show ((L.frame 0 ls d.size).take d.size).length = d.size by rw [List.length_take, HFL.out]; omega)
  have HCLN := Lib.hid (clone_whole w2 gf 0 ((L.frame 0 ls d.size).take d.size) T (by
    have := HGF.out.part 0 d.size (by rw [HFL.out]; omega)
    simpa using this) (by rw [HTL.out]; omega))
  rw [HTL.out] at HCLN
  go_wp2_with fail
  refine HCLN.out.mono ?_
  rintro e w3 ⟨gc, cc, cur, rfl, hcur, hcb, hgc, hcc, hcm, hk3⟩
  rw [HTL.out] at hcc ⊢
  have hk23 := HK2.out.trans hk3 (by simp)
  have HGF3 := Lib.hid (HGF.out.keep hk3 (by simp))
  have m1 := hk3.cell_some k1 (by simp)
  have m2 := hk3.cell_some k2 (by simp)
  have m3 := hk3.cell_some k3 (by simp)
  have hw2 := HK2.out.size
  have hw3 := hk3.size
  have hgc3 := block_lt hcur
  obtain ⟨y0, hy0⟩ : ∃ y0 : Value, w3.cell? ⟨gc, 0, none⟩ = some y0 := ⟨_, by rw [row_cell hcur]; exact hcb 0 (by rw [HTL.out]; omega)⟩
  have fy0 := row_free hcur 0
  have HFIRST := Lib.hid (show BytesIn (w3.setCell ⟨gc, 0, none⟩ (.int .u8 1)) gc (some ⟨gc, 0, none⟩) ((L.frame 1 ls d.size).take d.size) from by
    rw [← HFB.out]
    refine .inr ⟨0, rfl, fun k hk => ?_⟩
    rw [row_cell (row_set hcur 0 _), Nat.zero_add]
    rw [List.length_set] at hk
    have hcs := hcb k hk
    have hlt9 := (Array.getElem?_eq_some_iff.1 hcs).1
    by_cases hk0 : k = 0
    · subst hk0
      rw [Array.getElem?_setIfInBounds_self_of_lt hlt9, List.getElem_set_self]; rfl
    · rw [Array.getElem?_setIfInBounds_ne (Ne.symm hk0), List.getElem_set_ne (Ne.symm hk0)]
      exact hcs)
  have HFT := Lib.hid (show ((L.frame 1 ls d.size).take d.size).length = d.size by rw [← HFB.out, List.length_set]; exact HTL.out)
  have HGF4 := Lib.hid (show U8At (w3.setCell ⟨gc, 0, none⟩ (.int .u8 1)) gf (L.frame 0 ls d.size) from HGF3.out.keep (S := [gc]) ((Keeps.refl _ _).setCell (by simp) _) (by simp; omega))
  have HK4 := Lib.hid (show Keeps [] w (w3.setCell ⟨gc, 0, none⟩ (.int .u8 1)) from ((hk23.mono (T := [gc]) (by simp)).setCell (by simp) _).mono (fun i hi hl => by simp at hi; omega))
  have p1 : (w3.setCell ⟨gc, 0, none⟩ (.int .u8 1)).cell? ⟨lp, 1, none⟩ = some (.int .i64 (a : Int)) := HK4.out.cell_some c1 (by simp)
  have p2 : (w3.setCell ⟨gc, 0, none⟩ (.int .u8 1)).cell? ⟨lp, 2, none⟩ = some (.int .i64 (u : Int)) := HK4.out.cell_some c2 (by simp)
  have p3 : (w3.setCell ⟨gc, 0, none⟩ (.int .u8 1)).cell? ⟨lp, 3, none⟩ = some (.int .i64 (c : Int)) := HK4.out.cell_some c3 (by simp)
  clear hcur hcb hk3 hk23 k1 k2 k3
  go_wp2_with fail
  obtain ⟨nb, hnb⟩ : ∃ nb, nb = w3.heap.size := ⟨_, rfl⟩
  obtain ⟨w5, hw5⟩ : ∃ w5, w5 = (w3.setCell ⟨gc, 0, none⟩ (.int .u8 1)).alloc (.cells #[.int .i64 (a : Int), .int .i64 (u : Int), .int .i64 (c : Int)] 98) := ⟨_, rfl⟩
  have hk5 : Keeps [] (w3.setCell ⟨gc, 0, none⟩ (.int .u8 1)) w5 := by rw [hw5]; exact (Keeps.refl _ _).alloc _
  have hbx : w5.heap[nb]? = some (.cells #[.int .i64 (a : Int), .int .i64 (u : Int), .int .i64 (c : Int)] 98 (0, 0)) := by
    have h9 := heap_alloc_new (w3.setCell ⟨gc, 0, none⟩ (.int .u8 1)) (.cells #[.int .i64 (a : Int), .int .i64 (u : Int), .int .i64 (c : Int)] 98)
    rw [hw5, hnb]
    simpa [World.setCell] using h9
  rw [← hw5, ← hnb]
  have HBX := Lib.hid hbx
  have HK5 := Lib.hid (HK4.out.trans hk5 (by simp))
  have HGF5 := Lib.hid (HGF4.out.keep hk5 (by simp))
  have HFI5 := Lib.hid (HFIRST.out.keep hk5 (by simp))
  have HNB := Lib.hid (show w.heap.size ≤ nb ∧ gf < nb ∧ gc < nb ∧ w.heap.size ≤ gf ∧ w.heap.size ≤ gc from ⟨by omega, by omega, by omega, by omega, by omega⟩)
  have hnb5 := block_lt hbx
  clear hw5 hnb hk5 hbx p1 p2 p3 m1 m2 m3 hy0 fy0 hw2 hw3 hgc3 hgf2 hw1 HFIRST HGF4 HK4 HGF3 HK2 HGF
  have e1 : IntKind.i64.wrap ((u : Int) + (ns : Int)) = ((u + ns : Nat) : Int) := by
    rw [show ((u + ns : Nat) : Int) = (u : Int) + (ns : Int) by push_cast; rfl]; exact IntWalk.i64_in _ ⟨by omega, by omega⟩
  refine Reg.wp_region_last 7 [0, 1, 2, 3, 4, 5, 6] (fun w' => Keeps [] w5 w') (fun w' => Keeps [nb] w5 w' ∧ w'.heap[nb]? = some (.cells #[.int .i64 (a : Int), .int .i64 ((u + ns : Nat) : Int), .int .i64 (c : Int)] 98 (0, 0))) (fun _ _ => True) (A := ?A)
    [Is (.pointer (some ⟨nb, 1, none⟩)), Is (.int .i64 (u : Int)), Is (.slice A ls.length cap), Is (.int .i64 (d.size : Int)), Is (.int .i64 (ns : Int)), Is (.int .i64 ((u + ns : Nat) : Int)), Is (.pointer (some ⟨nb, 1, none⟩)), AnyF]
    (by kernel_rfl) (by kernel_rfl) (by kernel_rfl) rfl ?hA ?hC ?ho ?hlast ?hend
  case hA => intro vs; simp only [Reg.fill, if_true, Nat.zero_add, Nat.reduceAdd, Act.put, List.setIfInBounds_toArray, List.set_cons_succ, List.set_cons_zero]; exact rfl
  case hC => exact (Keeps.refl _ _).drew
  case hlast => repeat (first | exact trivial | refine ⟨fun _ _ _ h _ => h, ?_⟩)
  case ho =>
    repeat' apply And.intro
    all_goals
      first
        | exact trivial
        | (intro b vs w' hC hb hd K hK
           have hbb : b = false := by apply hb; decide
           subst hbb
           have hC0 := hC.1 rfl
           try simp only [Reg.Deps, Reg.at_, List.getD_cons_zero, List.getD_cons_succ, Region.binds, true_implies, Is, and_true] at hd
           have hb9 := block_keep HBX.out hC0 (by simp)
           have q1 : w'.cell? ⟨nb, 1, none⟩ = some (.int .i64 (u : Int)) := row_cell hb9 1
           have q2 := row_free hb9 1
           go_simp
           first
             | exact hK _ _ (CB.pre hC0 rfl) trivial rfl
             | skip)
    · refine (HSEC.out w' (HK5.out.trans hC0 (by simp))).mono ?_
      rintro e w'' ⟨rfl, rfl⟩
      exact ⟨_, rfl, hK _ _ (CB.pre hC0 rfl) trivial rfl⟩
    · refine hK _ _ (CB.post ⟨(hC0.mono (by simp)).setCell (by simp) _, ?_⟩) trivial trivial
      rw [row_set hb9 1 _]; rfl
  case hend =>
    intro vs w6 hC hall
    obtain ⟨hk6, hbx6⟩ := hC
    have HBX6 := Lib.hid hbx6
    have HK6 := Lib.hid hk6
    have q2 : w6.cell? ⟨nb, 2, none⟩ = some (.int .i64 (c : Int)) := row_cell hbx6 2
    have f2 := row_free hbx6 2
    clear hall hk6 hbx6 e1
    go_wp2_with fail
    obtain ⟨w7, hw7⟩ : ∃ w7, w7 = w6.setCell ⟨nb, 2, none⟩ (.int .i64 ((c : Int) + (ls.length : Int))) := ⟨_, rfl⟩
    have hk7 : Keeps [nb] w6 w7 := by rw [hw7]; exact (Keeps.refl _ _).setCell (by simp) _
    have hbx7 : w7.heap[nb]? = some (.cells #[.int .i64 (a : Int), .int .i64 ((u + ns : Nat) : Int), .int .i64 ((c : Int) + (ls.length : Int))] 98 (0, 0)) := by rw [hw7, row_set HBX6.out 2 _]; rfl
    rw [← hw7]
    have hk57 : Keeps [nb] w5 w7 := HK6.out.trans hk7 (fun _ h _ => h)
    have HK7 := Lib.hid (show Keeps [] w w7 from ((HK5.out.mono (T := [nb]) (by simp)).trans hk57 (fun _ h _ => h)).mono (fun i hi hl => by simp at hi; have := HNB.out; omega))
    have HGF7 := Lib.hid (HGF5.out.keep hk57 (by have := HNB.out; simp; omega))
    have HFI7 := Lib.hid (HFI5.out.keep hk57 (by have := HNB.out; simp; omega))
    have HBX7 := Lib.hid hbx7
    have HFL7 := Lib.hid (block_lt HGF7.out)
    have HFC7 := Lib.hid (HFI7.out.lt (by rw [HFT.out]; omega))
    have HX7 := Lib.hid (HX.out.keep0 HK7.out)
    have HY7 := Lib.hid (HY.out.keep HK7.out (by simp))
    obtain ⟨r, hr⟩ : ∃ r, r = commitD d g ls := ⟨_, rfl⟩
    have HR := Lib.hid (show r = chg d g ⟨a, u + ns, c + ls.length, false⟩ [(en, L.frame 0 ls d.size), (en, (L.frame 1 ls d.size).take d.size)] by rw [hr, HC.out, HAE.out, HUE.out, HCE.out, HEN.out]; rfl)
    have HRR := Lib.hid hr
    have HENS := Lib.hid (fun w' (hk : Keeps [] w7 w') => HEND.out w' (HK7.out.trans hk (by simp)))
    clear hw7 hk7 hbx7 hk57 hr q2 f2 HC
    refine Reg.wp_region_last 11 [0, 1, 2, 3, 4, 5, 6, 7, 8, 9, 10] (fun w' => Keeps [] w7 w') (fun w' => Chgd w7 h B lp r w') (Keeps (lp :: h.l)) (A := ?A2)
      [Is (.pointer (some ⟨lp, 0, none⟩)), Is (.agg #[.int .i64 (a : Int), .int .i64 ((u + ns : Nat) : Int), .int .i64 ((c : Int) + (ls.length : Int))]), Is (.pointer (some ⟨lp, 0, none⟩)), Is (.int .i64 (en : Int)), Is (.slice (some ⟨gf, 0, none⟩) T T), Is (.agg #[.int .i64 (en : Int), .slice (some ⟨gf, 0, none⟩) T T]),
       Is (.pointer (some ⟨lp, 0, none⟩)), Is (.int .i64 (en : Int)), Is (.slice (some ⟨gc, 0, none⟩) d.size cc), Is (.agg #[.int .i64 (en : Int), .slice (some ⟨gc, 0, none⟩) d.size cc]),
       NewM (lp :: h.l) w7.heap.size 2 147 #[.int .i64 (en : Int), .slice (some ⟨gf, 0, none⟩) T T, .int .i64 (en : Int), .slice (some ⟨gc, 0, none⟩) d.size cc], Is (.int .i64 (r.1 : Int)), Is (.int .i64 (r.1 : Int))]
      (by kernel_rfl) (by kernel_rfl) (by kernel_rfl) rfl ?hA2 ?hC2 ?ho2 ?hlast2 ?hend2
    case hA2 => intro vs; simp only [Reg.fill, if_true, Nat.zero_add, Nat.reduceAdd, Act.put, List.setIfInBounds_toArray, List.set_cons_succ, List.set_cons_zero]; exact rfl
    case hC2 => exact (Keeps.refl _ _).drew
    case hlast2 => repeat (first | exact trivial | refine ⟨Is.keepS, ?_⟩ | refine ⟨NewM.keep, ?_⟩)
    case ho2 =>
      repeat' apply And.intro
      all_goals
        first
          | exact trivial
          | (intro b vs2 w' hC hb hd K hK
             have hbb : b = false := by apply hb; decide
             subst hbb
             have hC0 := hC.1 rfl
             try simp only [Reg.Deps, Reg.at_, List.getD_cons_zero, List.getD_cons_succ, Region.binds, true_implies, Is, and_true] at hd
             have hb9 := block_keep HBX7.out hC0 (by simp)
             have q1 : w'.cell? ⟨nb, 0, none⟩ = some (.int .i64 (a : Int)) := row_cell hb9 0
             have q2 : w'.cell? ⟨nb, 1, none⟩ = some (.int .i64 ((u + ns : Nat) : Int)) := row_cell hb9 1
             have q3 : w'.cell? ⟨nb, 2, none⟩ = some (.int .i64 ((c : Int) + (ls.length : Int))) := row_cell hb9 2
             go_simp
             first
               | exact hK _ _ (CB.pre hC0 rfl) (Keeps.refl _ _) rfl
               | skip)
          | (intro b vs2 w' hC hb hd K hK
             try simp only [Reg.Deps, Reg.at_, List.getD_cons_zero, List.getD_cons_succ, Region.binds, true_implies, Is, and_true] at hd
             go_simp
             exact hK _ _ (hC.same rfl id id) (Keeps.refl _ _) (by first | rfl | exact hd | exact hd.1))
      · refine (HENS.out w' hC0).mono ?_
        rintro e w'' ⟨rfl, hk⟩
        exact ⟨_, rfl, hK _ _ (CB.pre (hC0.trans hk (by simp)) rfl) (hk.mono (by simp)) rfl⟩
      · refine (HENS.out w' hC0).mono ?_
        rintro e w'' ⟨rfl, hk⟩
        exact ⟨_, rfl, hK _ _ (CB.pre (hC0.trans hk (by simp)) rfl) (hk.mono (by simp)) rfl⟩
      · have hs9 := hC0.size
        have hs8 := HK7.out.size
        exact hK _ _ (CB.pre (hC0.alloc _) rfl) ((Keeps.refl _ _).alloc _) ⟨w'.heap.size, rfl, heap_alloc_new _ _, by simp [DH.l]; omega, hs9⟩
      · have hN9 : NewM (lp :: h.l) w7.heap.size 2 147 #[.int .i64 (en : Int), .slice (some ⟨gf, 0, none⟩) T T, .int .i64 (en : Int), .slice (some ⟨gc, 0, none⟩) d.size cc] (vs2 10) w' := by first | exact hd.1 | exact hd.2.1 | exact hd.2.2.1 | exact hd.2.2.2.1 | exact hd.2.2.2.2.1 | exact hd.2.2.2.2.2.1 | exact hd
        obtain ⟨x, hx, hxb, hxn, hxw⟩ := hN9
        rw [hx]
        have hs8 := HK7.out.size
        have hs9 := hC0.size
        have hx9 := block_lt hxb
        have hst9 : StepsIn w' (fun z => w.heap.size ≤ z ∧ z < w'.heap.size) (some ⟨x, 0, none⟩) [(en, L.frame 0 ls d.size), (en, (L.frame 1 ls d.size).take d.size)] := by
          have h7a := HFL7.out
          have h7b := HFC7.out
          have h7c := HNB.out
          refine StepsIn.two hxb ⟨by omega, hx9⟩ ⟨some ⟨gf, 0, none⟩, gf, T, by rw [HFL.out], (HGF7.out.keep hC0 (by simp)).bytes, by rw [HFL.out]; exact Nat.le_refl _, by unfold maxLen; omega, .inr ⟨by omega, by omega⟩⟩
            ⟨some ⟨gc, 0, none⟩, gc, cc, by rw [HFT.out], HFI7.out.keep hC0 (by simp), by rw [HFT.out]; exact hcc, hcm, .inr ⟨by omega, by omega⟩⟩
        have hst8 : ∀ t ∈ [(en, L.frame 0 ls d.size), (en, (L.frame 1 ls d.size).take d.size)], t.1 ≤ 65536 ∧ t.2.length ≤ 17179869184 := fun t ht => by
          simp only [List.mem_cons, List.not_mem_nil, or_false] at ht
          rcases ht with rfl | rfl
          · refine ⟨by simp only []; omega, ?_⟩
            show (L.frame 0 ls d.size).length ≤ _
            rw [HFL.out]; omega
          · refine ⟨by simp only []; omega, ?_⟩
            show ((L.frame 1 ls d.size).take d.size).length ≤ _
            rw [HFT.out]; omega
        have hch := change_any w' h B d lp g ⟨a, u + ns, c + ls.length, false⟩ (fun z => w.heap.size ≤ z ∧ z < w'.heap.size) (some ⟨x, 0, none⟩) 2 _ (HX7.out.keep0 hC0) (HY7.out.keep hC0 (by simp)) HLB.out hst9
          (fun z hz => ⟨by simp [DH.l]; omega, by omega, hz.2⟩) hst8 (by simp) ha (by have := HUE.out; omega)
        rw [← HR.out] at hch
        refine hch.mono ?_
        rintro e w'' ⟨rfl, q⟩
        have hq : Chgd w7 h B lp r w'' := Chgd.first hC0 q
        exact ⟨_, rfl, hK _ _ (CB.post hq) q.1 rfl⟩
    case hend2 =>
      intro vs2 w8 hC hall
      have hv12 : vs2 12 = .int .i64 (r.1 : Int) := by
        have := hall.2.2.2.2.2.2.2.2.2.2.2.2.1
        exact this
      have HW := Lib.hid (Chgd.first HK7.out hC)
      clear hall hC
      go_wp2_with fail
      go_ret
      rw [← HRR.out]
      exact ⟨congrArg Ending.returned hv12, HW.out⟩
theorem commit_any (w : World) (h : DH) (B : Nat → Prop) (d : Dk) (lp : Nat) (g : Lg) (G : Nat → Prop) (A : Option Addr) (cap : Nat) (ls : List (List UInt8)) (x : DskAt w h B d) (y : LogAt w lp h.p g) (hlB : ¬ B lp) (ht : TabAt w)
    (hr : RowsIn w G A ls) (hG : ∀ x, G x → x < w.heap.size) (hb : (L.body ls).length ≤ 1099511627776) (hN : 16 ≤ d.dur.length) (ha : g.area ≤ 1) (hu : g.used ≤ L.cap d.dur.length) (hc : g.count ≤ 1099511627776) :
    Calls Tryz.prog 60 #[.pointer (some ⟨lp, 0, none⟩), .slice A ls.length cap] w (ChangeP w h B lp (commitD d g ls)) := by
  by_cases he : fitErr (L.cap d.dur.length - g.used) d.size ls = 0
  · by_cases h0 : ls = []
    · subst h0; exact commit_none w h B d lp g A cap x y hlB hN ha hu
    · exact commit_some w h B d lp g G A cap ls x y hlB ht hr hG hN ha hu hc he h0
  · exact commit_err w h B d lp g G A cap ls x y hr hb hN hu he
end Go.Proofs.YtbanpdeganlndaaGreatDoor
namespace Go.Proofs.YtbanpdeganlndaaGreatDoor
open Go.RowKit
open Reg (Is Fact CB)

attribute [local go_sem] Reg.lateFr Reg.wantedV Reg.gives_value Reg.gives_skip Reg.gives_enter
/-- What Reset makes of disk and log. -/
def resetD (d : Dk) (g : Lg) (ls : List (List UInt8)) : Nat × Dk × Lg :=
  if fitErr (L.cap d.dur.length) d.size ls ≠ 0 then (fitErr (L.cap d.dur.length) d.size ls, d, g)
  else chg d g { area := 1 - g.area, used := L.nsec ls d.size, count := ls.length, settled := false } (L.resetSteps d.dur.length d.size (1 - g.area) ls)
set_option maxRecDepth 100000 in
set_option maxHeartbeats 2000000 in
theorem reset_err (w : World) (h : DH) (B : Nat → Prop) (d : Dk) (lp : Nat) (g : Lg) (G : Nat → Prop) (A : Option Addr) (cap : Nat) (ls : List (List UInt8)) (x : DskAt w h B d) (y : LogAt w lp h.p g)
    (hr : RowsIn w G A ls) (hb : (L.body ls).length ≤ 1099511627776) (hN : 16 ≤ d.dur.length) (he : fitErr (L.cap d.dur.length) d.size ls ≠ 0) :
    Calls Tryz.prog 53 #[.pointer (some ⟨lp, 0, none⟩), .slice A ls.length cap] w (ChangeP w h B lp (resetD d g ls)) := by
  have hcap := sp_le x.ok
  have hc2 := L.cap_room hN
  have HC := Lib.hid (show resetD d g ls = (fitErr (L.cap d.dur.length) d.size ls, d, g) from if_pos he)
  obtain ⟨fr, hfr⟩ : ∃ fr, fr = L.cap d.dur.length := ⟨_, rfl⟩
  have HCAP := Lib.hid (capacity_any w h B d lp g x y hN)
  rw [← hfr] at he HC HCAP
  have HFIT := Lib.hid (fit_any w h B d lp g G A ls cap fr x y hr hb (by omega))
  have HX := Lib.hid x
  have HY := Lib.hid y
  obtain ⟨er, her⟩ : ∃ er, er = fitErr fr d.size ls := ⟨_, rfl⟩
  rw [← her] at he HC HFIT
  have hz : ((er : Int) != 0) = true := by rw [bne_iff_ne]; omega
  clear x y hr hfr her
  go_enter Tryz.func53, Tryz.ntmps53
  go_wp2_with fail
  refine HCAP.out.mono ?_
  rintro e w' ⟨rfl, rfl⟩
  go_wp2_with fail
  refine HFIT.out.mono ?_
  rintro e w' ⟨rfl, rfl⟩
  go_wp2_with fail
  go_ret
  rw [HC.out]
  exact ⟨rfl, Keeps.refl _ _, HY.out, B, HX.out, fun _ h => h, fun _ h => .inl h⟩
/-- The new extent: where it was put, what it holds. -/
def EX (w1 : World) (cs1 : Array Value) (L : Nat → Bool) (vs : Nat → Value) (w : World) : Prop :=
  Keeps [] w1 w ∧ (L 13 = true → L 12 = true) ∧ (L 12 = true → ∃ x cs, vs 12 = .pointer (some ⟨x, 0, none⟩) ∧ w1.heap.size ≤ x ∧ w.heap[x]? = some (.cells cs 98 (0, 0)) ∧ cs.size = 3 ∧ (L 13 = true → cs = cs1))
theorem EX.other {w1 w : World} {cs1 : Array Value} {Ls : Nat → Bool} {vs : Nat → Value} {i : Nat} {v : Value} (h : EX w1 cs1 Ls vs w) (h2 : i ≠ 12) (h3 : i ≠ 13) : EX w1 cs1 (Reg.lay Ls i) (Reg.upd vs i v) w := by
  unfold EX
  rw [lay_ne h2, lay_ne h3]
  refine ⟨h.1, h.2.1, fun e => ?_⟩
  obtain ⟨x, cs, q1, q2⟩ := h.2.2 e
  exact ⟨x, cs, by unfold Reg.upd; rw [if_neg (Ne.symm h2)]; exact q1, q2⟩
/-- New bytes apart from S. -/
def NewUS (S : List Nat) (W : Nat) (l : List UInt8) : Fact := fun v w => ∃ x, v = .slice (some ⟨x, 0, none⟩) l.length l.length ∧ U8At w x l ∧ x ∉ S ∧ W ≤ x
theorem NewUS.keep {S : List Nat} {W : Nat} {l : List UInt8} : ∀ v w w', NewUS S W l v w → Keeps S w w' → NewUS S W l v w' := by
  rintro v w w' ⟨x, h1, h2, h3, h4⟩ hk
  exact ⟨x, h1, h2.keep hk h3, h3, h4⟩
def NewTS (S : List Nat) (W : Nat) (t : Nat × List UInt8) : Fact := fun v w => ∃ x, v = .agg #[.int .i64 (t.1 : Int), .slice (some ⟨x, 0, none⟩) t.2.length t.2.length] ∧ U8At w x t.2 ∧ x ∉ S ∧ W ≤ x
theorem NewTS.keep {S : List Nat} {W : Nat} {t : Nat × List UInt8} : ∀ v w w', NewTS S W t v w → Keeps S w w' → NewTS S W t v w' := by
  rintro v w w' ⟨x, h1, h2, h3, h4⟩ hk
  exact ⟨x, h1, h2.keep hk h3, h3, h4⟩
/-- A row of two steps, the second one's bytes new. -/
def NewRS (S : List Nat) (W : Nat) (a b : Value) (t : Nat × List UInt8) : Fact := fun v w => ∃ x y, v = .slice (some ⟨x, 0, none⟩) 2 2 ∧ w.heap[x]? = some (.cells #[a, b, .int .i64 (t.1 : Int), .slice (some ⟨y, 0, none⟩) t.2.length t.2.length] 147 (0, 0)) ∧ U8At w y t.2 ∧ x ∉ S ∧ y ∉ S ∧ W ≤ x ∧ W ≤ y
theorem NewRS.keep {S : List Nat} {W : Nat} {a b : Value} {t : Nat × List UInt8} : ∀ v w w', NewRS S W a b t v w → Keeps S w w' → NewRS S W a b t v w' := by
  rintro v w w' ⟨x, y, h1, h2, h3, h4, h5, h6⟩ hk
  exact ⟨x, y, h1, block_keep h2 hk h4, h3.keep hk h5, h4, h5, h6⟩
set_option maxRecDepth 100000 in
set_option maxHeartbeats 4000000 in
theorem reset_ok (w : World) (h : DH) (B : Nat → Prop) (d : Dk) (lp : Nat) (g : Lg) (G : Nat → Prop) (A : Option Addr) (cap : Nat) (ls : List (List UInt8)) (x : DskAt w h B d) (y : LogAt w lp h.p g) (hlB : ¬ B lp) (ht : TabAt w)
    (hr : RowsIn w G A ls) (hG : ∀ x, G x → x < w.heap.size) (hN : 16 ≤ d.dur.length) (ha : g.area ≤ 1) (hu : g.used ≤ L.cap d.dur.length) (he : fitErr (L.cap d.dur.length) d.size ls = 0) :
    Calls Tryz.prog 53 #[.pointer (some ⟨lp, 0, none⟩), .slice A ls.length cap] w (ChangeP w h B lp (resetD d g ls)) := by
  have hcap := sp_le x.ok
  have hc2 := L.cap_room hN
  have hsz := x.ok.size
  obtain ⟨hlens, hfits⟩ := fit_ok he
  have hprod : L.nsec ls d.size * d.size ≤ 2048 * 4096 := Nat.mul_le_mul (by omega) hsz.2
  have hbody : (L.body ls).length ≤ 8388608 := by
    by_cases h0 : ls = []
    · subst h0; simp [L.body]
    · have := L.nsec_room h0 (s := d.size) (by omega); omega
  have hcount := body_count ls
  have HC := Lib.hid (show resetD d g ls = chg d g { area := 1 - g.area, used := L.nsec ls d.size, count := ls.length, settled := false } (L.resetSteps d.dur.length d.size (1 - g.area) ls) by unfold resetD; rw [if_neg (by rw [he]; simp)])
  have HCAP := Lib.hid (capacity_any w h B d lp g x y hN)
  have HFIT := Lib.hid (by
    have := fit_any w h B d lp g G A ls cap (L.cap d.dur.length) x y hr (by omega) (by omega)
    rw [he] at this
    exact this)
  have HSEC := Lib.hid (fun w' (hk : Keeps [] w w') => sectors_of w' G A ls cap d.size (hr.keep0 hk) (by omega) (by omega))
  have HFRM := Lib.hid (frame_any w G A ls cap d.size 1 ht hr hG (by omega) (by omega))
  have HST := Lib.hid (fun w' (hk : Keeps [] w w') => start_any w' h B d lp g (x.keep0 hk) (y.keep hk (by simp)) (1 - g.area) (by omega))
  obtain ⟨c0, c1, c2, c3, c4⟩ := y.cells
  have hne := y.ne x
  have hlt := x.lt
  have hll := y.lt
  have HFL := Lib.hid (L.frame_length 1 ls (s := d.size) (by omega))
  have HX := Lib.hid x
  have HY := Lib.hid y
  have HNE := Lib.hid hne
  have HLB := Lib.hid hlB
  have hsecs := x.ok.secs
  obtain ⟨ns, hns⟩ : ∃ ns, ns = L.nsec ls d.size := ⟨_, rfl⟩
  rw [← hns] at HSEC hfits HC hprod HFL
  obtain ⟨T, hT⟩ : ∃ T, T = (ns + 1) * d.size := ⟨_, rfl⟩
  rw [← hT] at HFL
  have hTs : d.size ≤ T ∧ T ≤ 8396800 := by rw [hT, Nat.add_mul]; omega
  obtain ⟨a, hae⟩ : ∃ a, a = g.area := ⟨_, rfl⟩
  have HAE := Lib.hid hae
  rw [← hae] at c1 ha
  obtain ⟨a', hae'⟩ : ∃ a', a' = 1 - a := ⟨_, rfl⟩
  have ha' : a' ≤ 1 := by omega
  rw [← hae, ← hae'] at HST HC
  obtain ⟨sa, hsa⟩ : ∃ sa, sa = L.st d.dur.length a' := ⟨_, rfl⟩
  have hstf := L.st_fits (N := d.dur.length) (a := a') (by omega) ha'
  rw [← hsa] at HST
  have hsab : sa ≤ 8192 := by omega
  have HSA := Lib.hid hsa
  have ea : IntKind.i64.wrap (1 - (a : Int)) = (a' : Int) := by
    rw [show (a' : Int) = 1 - (a : Int) by omega]; exact IntWalk.i64_in _ ⟨by omega, by omega⟩
  have HHL := Lib.hid (L.hd_length (a := a') (s := d.size) (by omega))
  clear x y hr ht hne hlB he hns hT hae hae' hsa hG
  go_enter Tryz.func53, Tryz.ntmps53
  go_wp2_with fail
  refine HCAP.out.mono ?_
  rintro e w' ⟨rfl, rfl⟩
  go_wp2_with fail
  refine HFIT.out.mono ?_
  rintro e w' ⟨rfl, rfl⟩
  go_wp2_with fail
  refine (size_any w h B d HX.out).mono ?_
  rintro e w' ⟨rfl, rfl⟩
  go_wp2_with fail
  refine HFRM.out.mono ?_
  rintro e w2 ⟨gf, rfl, hgf, hgf1, hk2⟩
  rw [HFL.out]
  have HGF := Lib.hid hgf
  have HK2 := Lib.hid hk2
  have k1 := hk2.cell_some c1 (by simp)
  have hgf2 := block_lt hgf
  clear hgf hk2
  go_wp2_with fail
  refine Reg.wp_region_free (A := ?A) (EX w2 #[.int .i64 (a' : Int), .int .i64 (ns : Int), .int .i64 (ls.length : Int)]) (fun _ _ => True)
    [Is (.pointer (some ⟨lp, 0, none⟩)), Is (.pointer (some ⟨lp, 0, none⟩)), Is (.pointer (some ⟨lp, 1, none⟩)), Is (.pointer (some ⟨lp, 1, none⟩)), Is (.int .i64 (a : Int)), Is (.int .i64 (a' : Int)), Is (.slice A ls.length cap), Is (.int .i64 (d.size : Int)), Is (.int .i64 (ns : Int)), Is (.slice A ls.length cap), Is (.int .i64 (ls.length : Int)),
     Is (.agg #[.int .i64 (a' : Int), .int .i64 (ns : Int), .int .i64 (ls.length : Int)]), AnyF, AnyF]
    (by kernel_rfl) (by kernel_rfl) rfl ?hA ?hC ?ho ?hlast ?hend
  case hA => intro vs; simp only [Reg.fill, if_true, Nat.zero_add, Nat.reduceAdd, Act.put, List.setIfInBounds_toArray, List.set_cons_succ, List.set_cons_zero]; exact rfl
  case hC => exact fun vs => ⟨(Keeps.refl _ _).drew, fun e => by simp at e, fun e => by simp at e⟩
  case hlast => repeat (first | exact trivial | refine ⟨fun _ _ _ h _ => h, ?_⟩)
  case ho =>
    repeat' apply And.intro
    all_goals
      first
        | exact trivial
        | (intro Ls vs w' hC hL hd haw K hK
           try simp only [Reg.Deps, Reg.at_, List.getD_cons_zero, List.getD_cons_succ, Region.binds, true_implies, Is, and_true] at hd
           try simp only [Reg.Aw, Region.binds, true_implies, and_true] at haw
           have q1 := hC.1.cell_some k1 (by simp)
           first
             | (go_simp
                exact hK _ _ (hC.other (by decide) (by decide)) trivial rfl)
             | skip)
    · go_simp
      refine (HSEC.out w' (HK2.out.trans hC.1 (by simp))).mono ?_
      rintro e w'' ⟨rfl, rfl⟩
      exact ⟨_, rfl, hK _ _ (hC.other (by decide) (by decide)) trivial rfl⟩
    · have h13 : Ls 13 = false := by
        cases e : Ls 13 with
        | false => rfl
        | true => have := hC.2.1 e; rw [hL] at this; cases this
      go_simp
      refine hK _ _ ⟨hC.1.alloc _, fun e => ?_, fun _ => ⟨w'.heap.size, _, ?_, hC.1.size, heap_alloc_new _ _, rfl, fun e => ?_⟩⟩ trivial trivial
      · rw [lay_ne (by decide), h13] at e; cases e
      · simp [Reg.upd]
      · rw [lay_ne (by decide), h13] at e; cases e
    · have h12 : Ls 12 = true := by first | exact haw.1 | exact haw
      obtain ⟨x9, cs9, hv9, hx9, hh9, hs9, _⟩ := hC.2.2 h12
      obtain ⟨u0, u1, u2, rfl⟩ : ∃ u0 u1 u2 : Value, cs9 = #[u0, u1, u2] := by
        obtain ⟨l9⟩ := cs9
        match l9, hs9 with
        | [u0, u1, u2], _ => exact ⟨u0, u1, u2, rfl⟩
      have z0 : w'.cell? ⟨x9, 0, none⟩ = some u0 := row_cell hh9 0
      have z1 : w'.cell? ⟨x9, 1, none⟩ = some u1 := row_cell hh9 1
      have z2 : w'.cell? ⟨x9, 2, none⟩ = some u2 := row_cell hh9 2
      have y0 := row_free hh9 0
      have y1 := row_free hh9 1
      have y2 := row_free hh9 2
      go_simp
      refine hK _ _ ⟨?_, fun _ => by rw [lay_ne (by decide)]; exact h12, fun _ => ⟨x9, _, ?_, hx9, ?_, rfl, fun _ => rfl⟩⟩ trivial trivial
      · exact (((hC.1.setCell (by simp; omega) _).setCell (by simp; omega) _).setCell (by simp; omega) _)
      · simp [Reg.upd, hv9]
      · rw [row_set (row_set (row_set hh9 0 _) 1 _) 2 _]; rfl
  case hend =>
    intro vs w6 hC hall
    obtain ⟨hk6, _, h6⟩ := hC
    obtain ⟨nb, cs6, hv6, hnb, hbx6, _, hcs⟩ := h6 rfl
    obtain rfl := hcs rfl
    have HBX7 := Lib.hid hbx6
    have HK7 := Lib.hid (HK2.out.trans hk6 (by simp))
    have HGF7 := Lib.hid (HGF.out.keep hk6 (by simp))
    have HFL7 := Lib.hid (block_lt HGF7.out)
    obtain ⟨w7, rfl⟩ : ∃ w7, w7 = w6 := ⟨_, rfl⟩
    have HX7 := Lib.hid (HX.out.keep0 HK7.out)
    have HY7 := Lib.hid (HY.out.keep HK7.out (by simp))
    have hnb7 := block_lt hbx6
    have hw2 := HK2.out.size
    obtain ⟨r, hr⟩ : ∃ r, r = resetD d g ls := ⟨_, rfl⟩
    have HR := Lib.hid (show r = chg d g ⟨a', ns, ls.length, false⟩ [(sa, L.frame 1 ls d.size), (0, L.hd a' d.size)] by rw [hr, HC.out, HSA.out]; rfl)
    rw [← hr]
    have HRR := Lib.hid hr
    have HSTS := Lib.hid (fun w' (hk : Keeps [] w7 w') => HST.out w' (HK7.out.trans hk (by simp)))
    clear hall hk6 h6 hbx6 hr HC ea k1
    rw [hv6]
    go_wp2_with fail
    refine Reg.wp_region_last 14 [0, 1, 2, 3, 4, 5, 6, 7, 8, 9, 10, 11, 12, 13] (fun w' => Keeps [] w7 w') (fun w' => Chgd w7 h B lp r w') (Keeps (lp :: h.l)) (A := ?A2)
      [Is (.pointer (some ⟨lp, 0, none⟩)), Is (.agg #[.int .i64 (a' : Int), .int .i64 (ns : Int), .int .i64 (ls.length : Int)]), Is (.pointer (some ⟨lp, 0, none⟩)), Is (.pointer (some ⟨nb, 0, none⟩)), Is (.int .i64 (a' : Int)), Is (.int .i64 (sa : Int)), Is (.slice (some ⟨gf, 0, none⟩) T T), Is (.agg #[.int .i64 (sa : Int), .slice (some ⟨gf, 0, none⟩) T T]),
       Is (.pointer (some ⟨nb, 0, none⟩)), Is (.int .i64 (a' : Int)), Is (.int .i64 (d.size : Int)), NewUS (lp :: h.l) w7.heap.size (L.hd a' d.size), NewTS (lp :: h.l) w7.heap.size (0, L.hd a' d.size),
       NewRS (lp :: h.l) w7.heap.size (.int .i64 (sa : Int)) (.slice (some ⟨gf, 0, none⟩) T T) (0, L.hd a' d.size), Is (.int .i64 (r.1 : Int)), Is (.int .i64 (r.1 : Int))]
      (by kernel_rfl) (by kernel_rfl) (by kernel_rfl) rfl ?hA2 ?hC2 ?ho2 ?hlast2 ?hend2
    case hA2 => intro vs; simp only [Reg.fill, if_true, Nat.zero_add, Nat.reduceAdd, Act.put, List.setIfInBounds_toArray, List.set_cons_succ, List.set_cons_zero]; exact rfl
    case hC2 => exact (Keeps.refl _ _).drew
    case hlast2 => repeat (first | exact trivial | refine ⟨Is.keepS, ?_⟩ | refine ⟨NewUS.keep, ?_⟩ | refine ⟨NewTS.keep, ?_⟩ | refine ⟨NewRS.keep, ?_⟩)
    case ho2 =>
      repeat' apply And.intro
      all_goals
        first
          | exact trivial
          | (intro b vs2 w' hC hb hd K hK
             have hbb : b = false := by apply hb; decide
             subst hbb
             have hC0 := hC.1 rfl
             try simp only [Reg.Deps, Reg.at_, List.getD_cons_zero, List.getD_cons_succ, Region.binds, true_implies, Is, and_true] at hd
             have hb9 := block_keep HBX7.out hC0 (by simp)
             have q1 : w'.cell? ⟨nb, 0, none⟩ = some (.int .i64 (a' : Int)) := row_cell hb9 0
             have q2 : w'.cell? ⟨nb, 1, none⟩ = some (.int .i64 (ns : Int)) := row_cell hb9 1
             have q3 : w'.cell? ⟨nb, 2, none⟩ = some (.int .i64 (ls.length : Int)) := row_cell hb9 2
             go_simp
             first
               | exact hK _ _ (CB.pre hC0 rfl) (Keeps.refl _ _) rfl
               | skip)
          | (intro b vs2 w' hC hb hd K hK
             try simp only [Reg.Deps, Reg.at_, List.getD_cons_zero, List.getD_cons_succ, Region.binds, true_implies, Is, and_true] at hd
             go_simp
             exact hK _ _ (hC.same rfl id id) (Keeps.refl _ _) (by first | rfl | exact hd | exact hd.1))
      · refine (HSTS.out w' hC0).mono ?_
        rintro e w'' ⟨rfl, rfl⟩
        exact ⟨_, rfl, hK _ _ (CB.pre hC0 rfl) (Keeps.refl _ _) rfl⟩
      · refine (head_any w' a' d.size ha' (by omega)).mono ?_
        rintro e w'' ⟨x, rfl, hxu, hxw, hk⟩
        have hs8 := HK7.out.size
        have hs9 := hC0.size
        exact ⟨_, rfl, hK _ _ (CB.pre (hC0.trans hk (by simp)) rfl) (hk.mono (by simp)) ⟨x, rfl, hxu, by simp [DH.l]; omega, by omega⟩⟩
      · have hN9 : NewUS (lp :: h.l) w7.heap.size (L.hd a' d.size) (vs2 11) w' := by first | exact hd | exact hd.1 | exact hd.2
        obtain ⟨x, hx, hxu, hxn, hxw⟩ := hN9
        rw [hx]
        go_simp
        exact hK _ _ (CB.pre hC0 rfl) (Keeps.refl _ _) ⟨x, rfl, hxu, hxn, hxw⟩
      · have hN9 : NewTS (lp :: h.l) w7.heap.size (0, L.hd a' d.size) (vs2 12) w' := by first | exact hd | exact hd.1 | exact hd.2 | exact hd.2.1 | exact hd.2.2.1
        obtain ⟨x, hx, hxu, hxn, hxw⟩ := hN9
        rw [hx]
        go_simp
        have hs8 := HK7.out.size
        have hs9 := hC0.size
        exact hK _ _ (CB.pre (hC0.alloc _) rfl) ((Keeps.refl _ _).alloc _) ⟨w'.heap.size, x, rfl, heap_alloc_new _ _, hxu.keep ((Keeps.refl [] _).alloc _) (by simp), by simp [DH.l]; omega, hxn, hs9, hxw⟩
      · have hN9 : NewRS (lp :: h.l) w7.heap.size (.int .i64 (sa : Int)) (.slice (some ⟨gf, 0, none⟩) T T) (0, L.hd a' d.size) (vs2 13) w' := by first | exact hd.1 | exact hd.2.1 | exact hd.2.2.1 | exact hd.2.2.2.1 | exact hd.2.2.2.2.1 | exact hd.2.2.2.2.2.1 | exact hd
        obtain ⟨x, y, hx, hxb, hyu, hxn, hyn, hxw, hyw⟩ := hN9
        rw [hx]
        have hs8 := HK7.out.size
        have hs9 := hC0.size
        have hx9 := block_lt hxb
        have hy9 := block_lt hyu
        have hst9 : StepsIn w' (fun z => w.heap.size ≤ z ∧ z < w'.heap.size) (some ⟨x, 0, none⟩) [(sa, L.frame 1 ls d.size), (0, L.hd a' d.size)] := by
          have h7a := HFL7.out
          refine StepsIn.two hxb ⟨by omega, hx9⟩ ⟨some ⟨gf, 0, none⟩, gf, T, by rw [HFL.out], (HGF7.out.keep hC0 (by simp)).bytes, by rw [HFL.out]; exact Nat.le_refl _, by unfold maxLen; omega, .inr ⟨by omega, by omega⟩⟩
            ⟨some ⟨y, 0, none⟩, y, _, rfl, hyu.bytes, Nat.le_refl _, by show (L.hd a' d.size).length ≤ _; rw [HHL.out]; unfold maxLen; omega, .inr ⟨by omega, hy9⟩⟩
        have hst8 : ∀ t ∈ [(sa, L.frame 1 ls d.size), (0, L.hd a' d.size)], t.1 ≤ 65536 ∧ t.2.length ≤ 17179869184 := fun t ht => by
          simp only [List.mem_cons, List.not_mem_nil, or_false] at ht
          rcases ht with rfl | rfl
          · refine ⟨by simp only []; omega, ?_⟩
            show (L.frame 1 ls d.size).length ≤ _
            rw [HFL.out]; omega
          · refine ⟨by simp only []; omega, ?_⟩
            show (L.hd a' d.size).length ≤ _
            rw [HHL.out]; omega
        have hch := change_any w' h B d lp g ⟨a', ns, ls.length, false⟩ (fun z => w.heap.size ≤ z ∧ z < w'.heap.size) (some ⟨x, 0, none⟩) 2 _ (HX7.out.keep0 hC0) (HY7.out.keep hC0 (by simp)) HLB.out hst9
          (fun z hz => ⟨by simp [DH.l]; omega, by omega, hz.2⟩) hst8 (by simp) (by have := HAE.out; omega) (by omega)
        rw [← HR.out] at hch
        refine hch.mono ?_
        rintro e w'' ⟨rfl, q⟩
        have hq : Chgd w7 h B lp r w'' := Chgd.first hC0 q
        exact ⟨_, rfl, hK _ _ (CB.post hq) q.1 rfl⟩
    case hend2 =>
      intro vs2 w8 hC hall
      have hv15 : vs2 15 = .int .i64 (r.1 : Int) := by
        have := hall.2.2.2.2.2.2.2.2.2.2.2.2.2.2.2.1
        exact this
      have HW := Lib.hid (Chgd.first HK7.out hC)
      clear hall hC
      go_wp2_with fail
      go_ret
      rw [← HRR.out]
      exact ⟨congrArg Ending.returned hv15, HW.out⟩
theorem reset_any (w : World) (h : DH) (B : Nat → Prop) (d : Dk) (lp : Nat) (g : Lg) (G : Nat → Prop) (A : Option Addr) (cap : Nat) (ls : List (List UInt8)) (x : DskAt w h B d) (y : LogAt w lp h.p g) (hlB : ¬ B lp) (ht : TabAt w)
    (hr : RowsIn w G A ls) (hG : ∀ x, G x → x < w.heap.size) (hb : (L.body ls).length ≤ 1099511627776) (hN : 16 ≤ d.dur.length) (ha : g.area ≤ 1) (hu : g.used ≤ L.cap d.dur.length) :
    Calls Tryz.prog 53 #[.pointer (some ⟨lp, 0, none⟩), .slice A ls.length cap] w (ChangeP w h B lp (resetD d g ls)) := by
  by_cases he : fitErr (L.cap d.dur.length) d.size ls = 0
  · exact reset_ok w h B d lp g G A cap ls x y hlB ht hr hG hN ha hu he
  · exact reset_err w h B d lp g G A cap ls x y hr hb hN he
end Go.Proofs.YtbanpdeganlndaaGreatDoor
namespace Go.Proofs.YtbanpdeganlndaaGreatDoor
open Go.RowKit

/-- A row of records that was made since W blocks. -/
def RowsOwn (w : World) (W : Nat) (v : Value) (rs : List (List UInt8)) : Prop :=
  ∃ xs, w.ownsRow W 62 1 v rs.length xs ∧ ∀ j (h : j < rs.length), ∃ x, xs[j]? = some x ∧ ElV w (fun g => W ≤ g ∧ v.ownBlock ≠ some g) x rs[j]
theorem ElV.lt {w : World} {G : Nat → Prop} {v : Value} {l : List UInt8} (h : ElV w G v l) : ElV w (fun g => G g ∧ g < w.heap.size) v l := by
  obtain ⟨A, g, cap, hv, hb, h1, h2, h3⟩ := h
  refine ⟨A, g, cap, hv, hb, h1, h2, ?_⟩
  rcases h3 with h3 | h3
  · exact .inl h3
  · by_cases hl : l.length = 0
    · exact .inl (List.eq_nil_of_length_eq_zero hl)
    · exact .inr ⟨h3, hb.lt (by omega)⟩
theorem ElV.mono {w : World} {G G' : Nat → Prop} {v : Value} {l : List UInt8} (h : ElV w G v l) (hG : ∀ x, G x → G' x) : ElV w G' v l := by
  obtain ⟨A, g, cap, hv, hb, h1, h2, h3⟩ := h
  exact ⟨A, g, cap, hv, hb, h1, h2, h3.imp id (hG g)⟩
/-- A store, an append into row r. -/
theorem ElV.grown {w w' : World} {G G' : Nat → Prop} {v : Value} {l : List UInt8} {row : Option Nat} (h : ElV w G v l) (hg : w.grownBy w' row) (hr : ∀ x, G x → row ≠ some x) (hG : ∀ x, G x → G' x) : ElV w' G' v l := by
  refine h.keep (Keeps.of_grown hg) (fun x hx hGx => ?_) hG
  cases row with
  | none => simp at hx
  | some r => 
    have : x = r := by simpa using hx
    exact hr x hGx (by rw [this])
theorem RowsOwn.nil (w : World) (W : Nat) : RowsOwn w W (.slice none 0 0) [] := ⟨[], World.ownsRow_nil w W _ 1, fun j h => by simp at h⟩
theorem RowsOwn.keep {S : List Nat} {w w' : World} {W : Nat} {v : Value} {rs : List (List UInt8)} (h : RowsOwn w W v rs) (hk : Keeps S w w') (hS : ∀ x ∈ S, x < W ∨ w.heap.size ≤ x) : RowsOwn w' W v rs := by
  obtain ⟨xs, ho, he⟩ := h
  refine ⟨xs, owned_keep ho hk (fun g hg hm => ?_), fun j hj => ?_⟩
  · have := ho.lt g hg
    have := hS g hm
    omega
  · obtain ⟨x, h1, h2⟩ := he j hj
    refine ⟨x, h1, (h2.lt.keep hk (fun y hy hG => ?_) (fun y hy => hy.1))⟩
    have := hS y hy
    have := hG.1.1
    have := hG.2
    omega
theorem RowsOwn.more {w w' : World} {W : Nat} {v v' : Value} {rs ns : List (List UInt8)} {xs ys : List Value} (ho : w.ownsRow W 62 1 v rs.length xs) (he : ∀ j (h : j < rs.length), ∃ x, xs[j]? = some x ∧ ElV w (fun g => W ≤ g ∧ v.ownBlock ≠ some g) x rs[j])
    (hn : ∀ j (h : j < ns.length), ∃ x, ys[j]? = some x ∧ ElV w (fun g => W ≤ g ∧ v.ownBlock ≠ some g) x ns[j]) (ho' : w'.ownsRow W 62 1 v' (rs.length + ns.length) (xs ++ ys)) (hg : w.grownBy w' v.ownBlock) (hat : v'.ownBlock = v.ownBlock ∨ v'.ownBlock = some w.heap.size) : RowsOwn w' W v' (rs ++ ns) := by
  have hxl : xs.length = rs.length := by simpa using ho.1
  have step : ∀ {x : Value} {l : List UInt8}, ElV w (fun g => W ≤ g ∧ v.ownBlock ≠ some g) x l → ElV w' (fun g => W ≤ g ∧ v'.ownBlock ≠ some g) x l := fun h => by
    refine h.lt.grown hg (fun y hy => hy.1.2) (fun y hy => ⟨hy.1.1, ?_⟩)
    rcases hat with e | e
    · rw [e]; exact hy.1.2
    · rw [e]; intro e2; have : w.heap.size = y := by simpa using e2
      have := hy.2; omega
  refine ⟨xs ++ ys, by rw [List.length_append]; exact ho', fun j hj => ?_⟩
  by_cases hl : j < rs.length
  · obtain ⟨x, h1, h2⟩ := he j hl
    refine ⟨x, by rw [List.getElem?_append_left (by omega)]; exact h1, ?_⟩
    rw [List.getElem_append_left hl]; exact step h2
  · have hj' : j - rs.length < ns.length := by rw [List.length_append] at hj; omega
    obtain ⟨x, h1, h2⟩ := hn (j - rs.length) hj'
    refine ⟨x, by rw [List.getElem?_append_right (by omega), hxl]; exact h1, ?_⟩
    rw [List.getElem_append_right (by omega)]; exact step h2
/-- As a row that comes in. -/
theorem RowsOwn.form {w : World} {W : Nat} {v : Value} {rs : List (List UInt8)} (h : RowsOwn w W v rs) : ∃ A cap, v = .slice A rs.length cap ∧ (A = none → rs = []) ∧ RowsIn w (fun g => W ≤ g) A rs ∧ rs.length ≤ maxLen := by
  obtain ⟨xs, ho, he⟩ := h
  rcases ho.2 with ⟨hv, h0⟩ | ⟨g, cap, cur, hv, hb, hg, hn, hm, _⟩
  · have hr : rs = [] := List.eq_nil_of_length_eq_zero h0
    exact ⟨none, 0, by rw [hv, h0], fun _ => hr, .inl hr, by omega⟩
  · refine ⟨some ⟨g, 0, none⟩, cap, hv, (fun e => by cases e), .inr ⟨g, 0, rfl, hb, fun j hj => ?_⟩, by omega⟩
    obtain ⟨x, h1, h2⟩ := he j hj
    have := ho.cells (g := g) (by rw [hv]; rfl) j x h1
    rw [Addr.add_lit] at this
    exact ⟨x, this, h2.mono (fun y hy => hy.1)⟩
def SplitP (w : World) (R : Option (List (List UInt8))) (e : Ending) (w' : World) : Prop :=
  match R with
  | some rs => ∃ v, e = .returned v ∧ RowsOwn w' w.heap.size v rs ∧ Keeps [] w w'
  | none => e = .panicked stopped ∧ Keeps [] w w'
theorem splitP_none {w w' : World} {R : Option (List (List UInt8))} (h : R = none) (hk : Keeps [] w w') : SplitP w R (.panicked stopped) w' := by subst h; exact ⟨rfl, hk⟩
theorem splitP_some {w w' : World} {R : Option (List (List UInt8))} {rs : List (List UInt8)} {v : Value} (h : R = some rs) (hr : RowsOwn w' w.heap.size v rs) (hk : Keeps [] w w') : SplitP w R (.returned v) w' := by subst h; exact ⟨v, rfl, hr, hk⟩
def sliceLen : Value → Nat
  | .slice _ n _ => n
  | _ => 0
theorem infoSl : (Tryz.prog.info? 62).map (fun i => (i.zero, i.size, i.bytes)) = some (some (.slice none 0 0), 1, 24) := by kernel_rfl
set_option maxRecDepth 100000 in
set_option maxHeartbeats 2000000 in
theorem split_any (w : World) (g cap : Nat) (A : Option Addr) (l : List UInt8) (hr : BytesIn w g A l) (hcap : l.length ≤ cap) (hcm : cap ≤ maxLen) (hl : l.length ≤ 1073741824) :
    Calls Tryz.prog 141 #[.slice A l.length cap] w (SplitP w (L.split l)) := by
  obtain ⟨iS, hS, hS0, hS1, hS2⟩ := info_parts infoSl
  obtain ⟨R, hR⟩ : ∃ R, R = L.split l := ⟨_, rfl⟩
  rw [← hR]
  have HR := Lib.hid hR
  have HB := Lib.hid hr
  unfold maxLen at hcm
  clear hR hr
  go_enter Tryz.func141, Tryz.ntmps141
  go_wp2
  go_loopw [0, 2] (fun bv rv wr => ∃ A' l' cap' done Ar cr, bv = .slice A' l'.length cap' ∧ rv = .slice Ar done.length cr ∧ BytesIn wr g A' l' ∧ l'.length ≤ cap' ∧ cap' ≤ 9223372036854775807 ∧ l'.length ≤ l.length ∧ done.length + l'.length ≤ l.length ∧ RowsOwn wr w.heap.size rv done ∧ Keeps [] w wr ∧ R = (L.split l').map (done ++ ·)) (fun bv _ _ => sliceLen bv)
  case atStart => exact ⟨A, l, cap, [], none, 0, rfl, rfl, HB.out, hcap, by simpa using hcm, Nat.le_refl _, by simp, RowsOwn.nil _ _, Keeps.refl _ _, by rw [HR.out]; simp⟩
  case round =>
    obtain ⟨A', l', cap', done, Ar, cr, rfl, rfl, hb, hc, hm, hll, hdl, ho, hk, hRR⟩ := hrel
    have HBB := Lib.hid hb
    have HO := Lib.hid ho
    have HK := Lib.hid hk
    have HRR := Lib.hid hRR
    clear hb ho hk hRR
    obtain ⟨n', hn'⟩ : ∃ n', n' = l'.length := ⟨_, rfl⟩
    have HN := Lib.hid hn'
    rw [← hn'] at hc hll hdl ⊢
    clear hn'
    by_cases h0 : 0 < n'
    · by_cases h4 : 4 ≤ n'
      · have HD := Lib.hid (L.de32_lt l')
        obtain ⟨n, hn⟩ : ∃ n, n = L.de32 l' := ⟨_, rfl⟩
        have hnl : n < 4294967296 := by rw [hn]; exact HD.out
        have HNUM := Lib.hid (by
          have := number_any wr g cap' A' l' HBB.out (by have := HN.out; omega)
          rw [← hn, ← HN.out] at this
          exact this)
        obtain ⟨A4, hS4, hB4⟩ := slice_low_k (A := A') (n := n') (cap := cap') (k := 4) .i64 h4 hc
        have hS4' : ∀ w, (Instr.slice 62 (.slice A' n' cap') (some (.int .i64 4)) none none).run Tryz.prog w = .ok (.slice A4 (n' - 4) (cap' - 4)) w := hS4
        have HB4 := Lib.hid (hB4 wr g l' HN.out.symm HBB.out)
        have HDN := Lib.hid hn
        have h4i : (4 : Int) ≤ (n' : Int) := by omega
        have d4 : decide (4 ≤ n') = true := by simpa using h4
        clear hS4 hB4 hn
        by_cases hfit : n ≤ n' - 4
        · obtain ⟨A5, hS5, hB5⟩ := slice_high_k (A := A4) (n := n' - 4) (cap := cap' - 4) (k := n) .i64 hfit (by omega)
          obtain ⟨A6, hS6, hB6⟩ := slice_low_k (A := A4) (n := n' - 4) (cap := cap' - 4) (k := n) .i64 hfit (by omega)
          have HL4 := Lib.hid (show (l'.drop 4).length = n' - 4 by rw [List.length_drop, HN.out])
          have HB5 := Lib.hid (hB5 wr g (l'.drop 4) HL4.out HB4.out)
          have HB6 := Lib.hid (fun w' (hk : Keeps [] wr w') => hB6 w' g (l'.drop 4) HL4.out (HB4.out.keep hk (by simp)))
          have HL5 := Lib.hid (show ((l'.drop 4).take n).length = n by rw [List.length_take, HL4.out]; omega)
          have HCL := Lib.hid (clone_any wr g A5 ((l'.drop 4).take n) (cap' - 4) HB5.out (by rw [HL5.out]; omega))
          rw [HL5.out] at HCL
          have HNX := Lib.hid (show R = (L.split ((l'.drop 4).drop n)).map ((done ++ [(l'.drop 4).take n]) ++ ·) by
            rw [HRR.out, L.split_next (by rw [← HN.out]; exact h4) (by rw [← HDN.out, ← HN.out]; omega), ← HDN.out, Option.map_map]
            congr 1
            funext z
            simp)
          have d5 : decide (n ≤ n' - 4) = true := by simpa using hfit
          clear hB5 hB6
          go_wp2_with fail
          refine (need_yes wr).mono ?_
          rintro e w' ⟨rfl, rfl⟩
          go_wp2_with fail
          refine HNUM.out.mono ?_
          rintro e w' ⟨rfl, rfl⟩
          go_wp2_with fail
          refine (need_yes wr).mono ?_
          rintro e w' ⟨rfl, rfl⟩
          go_wp2_with fail
          refine HCL.out.mono ?_
          rintro e w2 ⟨Ac, cc, gc, rfl, hbc, hgc, hcc1, hcc2, _, hkc⟩
          rw [HL5.out] at hcc1 ⊢
          have HBC := Lib.hid hbc
          have HKC := Lib.hid hkc
          have hs2 := hkc.size
          have hs1 := HK.out.size
          have ho2 := HO.out.keep hkc (by simp)
          obtain ⟨xs, hxo, hxe⟩ := ho2
          have HXO := Lib.hid hxo
          have HXE := Lib.hid hxe
          have HEL := Lib.hid (show ElV w2 (fun y => w.heap.size ≤ y ∧ (Value.slice Ar done.length cr).ownBlock ≠ some y) (.slice Ac n cc) ((l'.drop 4).take n) from ⟨Ac, gc, cc, by rw [HL5.out], hbc, by rw [HL5.out]; exact hcc1, hcc2, .inr ⟨by omega, fun e => by
            obtain ⟨xs0, h0o, _⟩ := HO.out
            have := h0o.lt gc e
            omega⟩⟩)
          clear hbc hkc hxo hxe
          go_wp2_with (at_builtin; refine wpList_append_own_at _ rfl _ _ 49 rfl w.heap.size 62 iS (.slice none 0 0) 1 24 Tryz.underlying49 hS hS0 hS1 hS2 rfl (by decide) (.slice Ar done.length cr) done.length xs rfl (HXO.out.alloc _) ⟨w2.heap.size, 0, none⟩ 1 1 [.slice Ac n cc] rfl rfl ?d1 ?d2 ?d3 ?d4 ?d5 ?_)
          case d1 =>
            intro j u hj
            match j, hj with
            | 0, hj => 
              simp at hj
              subst hj
              rw [Addr.add_lit, row_cell (heap_alloc_new w2 _)]; rfl
            | j + 1, hj => simp at hj
          case d2 => intro u hu; simp at hu; rw [hu]; rfl
          case d3 => unfold maxLen; omega
          case d4 => omega
          case d5 => simp; omega
          intro v3 w3 ho3 hg3 _ hat3
          have HO3 := Lib.hid (show RowsOwn w3 w.heap.size v3 (done ++ [(l'.drop 4).take n]) by
            refine RowsOwn.more (w := w2.alloc (.cells #[.slice Ac n cc] 62)) (xs := xs) (ys := [.slice Ac n cc]) (by simpa using HXO.out.alloc _) (fun j hj => ?_) (fun j hj => ?_) (by simpa using ho3) hg3 (by simpa using hat3)
            · obtain ⟨x, q1, q2⟩ := HXE.out j hj
              exact ⟨x, q1, q2.keep ((Keeps.refl [] _).alloc _) (by simp) (fun _ h => h)⟩
            · match j, hj with
              | 0, _ => exact ⟨_, rfl, HEL.out.keep ((Keeps.refl [] _).alloc _) (by simp) (fun _ h => h)⟩)
          have HK3 := Lib.hid (show Keeps [] w w3 from ((HK.out.trans HKC.out (by simp)).alloc _).trans (Keeps.of_grown hg3) (fun i hi hl => by
            have h9 : (Value.slice Ar done.length cr).ownBlock = some i := by
              cases hob : (Value.slice Ar done.length cr).ownBlock with
              | none => rw [hob] at hi; simp at hi
              | some r => rw [hob] at hi; simp at hi; rw [hi]
            have := HXO.out.lt i h9
            omega))
          have hk23 : Keeps [] w2 w2 := Keeps.refl _ _
          have HB63 := Lib.hid (show BytesIn w3 g A6 ((l'.drop 4).drop n) by
            have hk3 : Keeps (Value.slice Ar done.length cr).ownBlock.toList w2 w3 := (((Keeps.refl [] w2).alloc (.cells #[.slice Ac n cc] 62)).mono (T := (Value.slice Ar done.length cr).ownBlock.toList) (by simp)).trans (Keeps.of_grown hg3) (fun _ h _ => h)
            have hb0 := HB6.out w2 HKC.out
            by_cases hl0 : ((l'.drop 4).drop n).length = 0
            · exact .inl (List.eq_nil_of_length_eq_zero hl0)
            · refine hb0.keep hk3 (fun hm => ?_)
              have h9 : (Value.slice Ar done.length cr).ownBlock = some g := by
                cases hob : (Value.slice Ar done.length cr).ownBlock with
                | none => rw [hob] at hm; simp at hm
                | some r => rw [hob] at hm; simp at hm; rw [hm]
              have h8 := HXO.out.lt g h9
              have h7 := HB.out.lt (by omega)
              omega)
          obtain ⟨Ar3, cr3, hv3, _, _, _⟩ := HO3.out.form
          subst hv3
          have HRE := Lib.hid (show n' - 4 - n = ((l'.drop 4).drop n).length by rw [List.length_drop, HL4.out])
          clear ho3 hg3 hat3
          go_wp2_with fail
          go_roundw
          case rel => exact ⟨A6, (l'.drop 4).drop n, cap' - 4 - n, done ++ [(l'.drop 4).take n], Ar3, cr3, by rw [HRE.out], rfl, HB63.out, by have := HRE.out; omega, by omega, by have := HRE.out; omega, by have := HRE.out; simp only [List.length_append, List.length_singleton]; omega, HO3.out, HK3.out, HNX.out⟩
          case measure => have := HRE.out; simp [sliceLen]; omega
        · have HNX := Lib.hid (show R = none by
            rw [HRR.out, L.split_cut (by rw [← HN.out]; exact h4) (by rw [← HDN.out, ← HN.out]; omega)]; rfl)
          have d5 : decide (n ≤ n' - 4) = false := by simpa using hfit
          go_wp2_with fail
          refine (need_yes wr).mono ?_
          rintro e w' ⟨rfl, rfl⟩
          go_wp2_with fail
          refine HNUM.out.mono ?_
          rintro e w' ⟨rfl, rfl⟩
          go_wp2_with fail
          refine (need_no wr).mono ?_
          rintro e w' ⟨rfl, rfl⟩
          go_wp2
          exact ⟨rfl, splitP_none HNX.out HK.out⟩
      · have HNX := Lib.hid (show R = none by
          rw [HRR.out, L.split_short (by intro e; have := HN.out; rw [e] at this; simp at this; omega) (by rw [← HN.out]; omega)]; rfl)
        have d4 : decide (4 ≤ n') = false := by simpa using h4
        have d4i : decide ((4 : Int) ≤ (n' : Int)) = false := by simp; omega
        go_wp2_with fail
        refine (need_no wr).mono ?_
        rintro e w' ⟨rfl, rfl⟩
        go_wp2
        exact ⟨rfl, splitP_none HNX.out HK.out⟩
    · have HNX := Lib.hid (show R = some done by
        have : l' = [] := List.eq_nil_of_length_eq_zero (by have := HN.out; omega)
        rw [HRR.out, this, L.split_nil]; simp)
      go_wp2_with fail
      go_ret
      exact splitP_some HNX.out HO.out HK.out
end Go.Proofs.YtbanpdeganlndaaGreatDoor
namespace Go.Proofs.YtbanpdeganlndaaGreatDoor.RegP
open Go Go.RowKit Reg

/-- What an operation has yielded: a value, a call that hands one back, or one that panics. -/
def GivesP (P : Program) (K : Value → World → Prop) (Qp : List PanicEntry → World → Prop) : Result Next → Prop
  | .ok (.value v) w' => K v w'
  | .ok .skip w' => K undef w'
  | .ok (.enter f args) w' => Calls P f args w' fun e w'' => (∃ v, e = .returned v ∧ K v w'') ∨ ∃ c, e = .panicked c ∧ Qp c w''
  | .ok (.row row args) w' => Rows P row args w' K
  | _ => False
section
variable (P : Program) (K : Value → World → Prop) (Qp : List PanicEntry → World → Prop) (w : World)
theorem gives_value (v : Value) : GivesP P K Qp (.ok (.value v) w) = K v w := rfl
theorem gives_skip : GivesP P K Qp (.ok .skip w) = K undef w := rfl
theorem gives_enter (f : FuncId) (args : Array Value) : GivesP P K Qp (.ok (.enter f args) w) = Calls P f args w fun e w'' => (∃ v, e = .returned v ∧ K v w'') ∨ ∃ c, e = .panicked c ∧ Qp c w'' := rfl
end
theorem fill_defers (vs : Nat → Value) (L : Nat → Bool) : ∀ (l : List Oper) (i : Nat) (a : Act), (fill a l i L vs).defers = a.defers
  | [], _, _ => rfl
  | o :: r, i, a => by
    unfold fill
    rw [fill_defers vs L r]
    split
    · cases o.dst <;> rfl
    · rfl
theorem wp_of_givesP {P : Program} {o : Oper} {a b : Act} {w : World} {K0 : Value → World → Prop} {Qp : List PanicEntry → World → Prop} {K : Act → World → Prop} {Q : Exit → Act → World → Prop} (he : execOp b.eval o = execOp a.eval o)
    (h : GivesP P K0 Qp ((execOp a.eval o).run P w)) (hk : ∀ v w', K0 v w' → K (b.put o.dst v) w') (hq : ∀ c w', Qp c w' → Q (.panic c) b w') : o.wp P b w K Q := by
  unfold Oper.wp
  rw [he]
  generalize (execOp a.eval o).run P w = r at *
  cases r with
  | ok n w' =>
    cases n <;> simp only [GivesP] at h <;> simp only [Oper.upon]
    case value v => exact hk _ _ h
    case skip => exact hk _ _ h
    case enter f args =>
      refine Calls.mono h fun e w'' he => ?_
      rcases he with ⟨v, rfl, hv⟩ | ⟨c, rfl, hc⟩
      · exact hk _ _ hv
      · exact hq _ _ hc
    case row row args => exact Rows.mono h fun v w'' hv => hk _ _ hv
  | halt x w' => cases x <;> simp only [GivesP] at h
section
variable {P : Program} {ops : Array Oper}
/-- What is asked of operation i under an invariant over what has come up (L), its values, the world. -/
def OblI (P : Program) (Qp : List PanicEntry → World → Prop) (Inv : (Nat → Bool) → (Nat → Value) → World → Prop) (fr : Nat → (Nat → Value) → Act) (o : Oper) (i : Nat) : Prop :=
  ∀ (L : Nat → Bool) (vs : Nat → Value) (w : World), Inv L vs w → L i = false → (∀ e ∈ o.after.toList, Region.binds .any e = true → L e.on = true) →
    ∀ K : Value → World → Prop, (∀ v w', Inv (lay L i) (upd vs i v) w' → K v w') →
      if wantedV o vs = true then GivesP P K Qp ((execOp (fr i vs).eval o).run P w) else K undef w
def OblsI (P : Program) (Qp : List PanicEntry → World → Prop) (Inv : (Nat → Bool) → (Nat → Value) → World → Prop) (fr : Nat → (Nat → Value) → Act) : List Oper → Nat → Prop
  | [], _ => True
  | o :: rest, i => OblI P Qp Inv fr o i ∧ OblsI P Qp Inv fr rest (i + 1)
theorem oblI_of {Qp : List PanicEntry → World → Prop} {Inv : (Nat → Bool) → (Nat → Value) → World → Prop} {fr : Nat → (Nat → Value) → Act} : ∀ {l : List Oper} {i : Nat}, OblsI P Qp Inv fr l i → ∀ k o, l[k]? = some o → OblI P Qp Inv fr o (i + k)
  | [], _, _, _, _, h => by simp at h
  | p :: rest, i, h, 0, o, hk => by
    obtain rfl : p = o := by simpa using hk
    exact h.1
  | p :: rest, i, h, k + 1, o, hk => by
    have := oblI_of h.2 k o (by simpa using hk)
    rwa [show i + 1 + k = i + (k + 1) by omega] at this

/-- The invariant holds from operation to operation: whatever order is drawn. -/
theorem any_order {Qp : List PanicEntry → World → Prop} {Inv : (Nat → Bool) → (Nat → Value) → World → Prop} {a0 : Act} {Q : Exit → Act → World → Prop} {fr : Nat → (Nat → Value) → Act} (hQp : ∀ (b : Act) c w, b.defers = a0.defers → Qp c w → Q (.panic c) b w) (ht : tidy a0.tmps.size ops = true) (hfr : Frames ops a0 fr)
    (ho : ∀ i o, ops[i]? = some o → OblI P Qp Inv fr o i)
    (hend : ∀ vs w, Inv (fun _ => true) vs w → Q .normal (fill a0 ops.toList 0 (fun _ => true) vs) w) :
    ∀ (fuel : Nat) (listed : Array Bool) (vs : Nat → Value) (w : World), listed.size = ops.size → left ops listed ≤ fuel →
      (∀ i o, ops[i]? = some o → listed.getD i false = true → ∀ e ∈ o.after, Region.binds .any e = true → listed.getD e.on false = true) → Inv (Reg.seen listed) vs w →
      wpAny P .any ops Q fuel listed (fill a0 ops.toList 0 (fun i => listed.getD i false) vs) w := by
  have hdone : ∀ (listed : Array Bool) (vs : Nat → Value) (w : World), listed.size = ops.size → Inv (Reg.seen listed) vs w →
      (∀ i, i < ops.size → listed.getD i false = true) → Q .normal (fill a0 ops.toList 0 (fun i => listed.getD i false) vs) w := by
    intro listed vs w hs hI hall
    have e := fill_congr vs vs (fun i => listed.getD i false) (fun _ => true) ops.toList 0 a0 fun k hk => ⟨by simpa using hall k (by simpa using hk), fun _ => rfl⟩
    rw [e]
    have e2 : Reg.seen listed = fun _ => true := by
      funext k
      unfold Reg.seen
      by_cases hk : k < ops.size
      · have := hall k hk
        simpa [hs, hk] using this
      · simp [hs, hk]
    rw [e2] at hI
    exact hend vs w hI
  -- the least that is not listed may come up
  have hready : ∀ (listed : Array Bool), listed.size = ops.size → Region.ready .any ops listed = [] → ∀ i, i < ops.size → listed.getD i false = true := by
    intro listed hs h0 i
    induction i using Nat.strongRecOn with
    | _ i ih =>
      intro hi
      rcases hb : listed.getD i false with _ | _
      · exfalso
        have hm : i ∈ Region.ready .any ops listed := by
          refine mem_ready.2 ⟨by rw [← hb]; simp [hs, hi], ops[i], Array.getElem?_eq_getElem hi, fun e he hbd => ?_⟩
          have := (tidy_spec ht (Array.getElem?_eq_getElem hi)).2.2.1 e he hbd
          exact ih e.on this (by omega)
        rw [h0] at hm
        cases hm
      · rfl
  intro fuel
  induction fuel with
  | zero =>
    intro listed vs w hs hn _ hI
    have hall : ∀ i, i < ops.size → listed.getD i false = true := by
      intro i hi
      have h0 : (List.range ops.size).filter (fun i => !listed.getD i false) = [] := List.eq_nil_of_length_eq_zero (by unfold left at hn; omega)
      have := List.filter_eq_nil_iff.1 h0 i (List.mem_range.2 hi)
      simpa using this
    refine ⟨?_, hdone listed vs w hs hI hall⟩
    refine List.eq_nil_iff_forall_not_mem.2 fun i hi => ?_
    obtain ⟨h1, o, h2, _⟩ := mem_ready.1 hi
    have hlt := (Array.getElem?_eq_some_iff.1 h2).1
    have h3 := hall i hlt
    simp [hs, hlt] at h1 h3
    rw [h1] at h3
    cases h3
  | succ fuel ih =>
    intro listed vs w hs hn hcl hI
    refine ⟨fun h0 => hdone listed vs w hs hI (hready listed hs h0), fun i hi => ?_⟩
    obtain ⟨hun, o, hoi, hall⟩ := mem_ready.1 hi
    obtain ⟨-, tg, t2, t3⟩ := tidy_spec ht hoi
    have hlt := (Array.getElem?_eq_some_iff.1 hoi).1
    have hun' : listed.getD i false = false := by simpa [hs, hlt] using hun
    have hli : ops.toList[i]? = some o := by simpa using hoi
    -- the two frames
    have hag0 := fill_agree vs (fun k => listed.getD k false) (fun k => !lateFor ops o k) (fun t => t ∉ o.looksAt ops) ops.toList 0 a0 a0 (Agree.refl _ _)
      (fun k p hk hne t hd hm => by
        rw [Nat.zero_add] at hne
        have hkp : ops[k]? = some p := by simpa using hk
        by_cases haw : awaits o k = true
        · obtain ⟨e, he, hb, rfl⟩ := awaits_spec haw
          refine hne ?_
          rw [hall e he hb]
          simp [lateFor, hkp, hd, haw]
        · have hlate : lateFor ops o k = true := by simp [lateFor, hkp, hd, haw, hm]
          have h2 := (t3 k p hkp).2 hlate
          obtain ⟨e, he, hb, hei⟩ := awaits_spec h2
          refine hne ?_
          rw [hlate]
          rcases hl : listed.getD k false with _ | _
          · rfl
          · have := hcl k p hkp hl e he hb
            rw [hei, hun'] at this
            cases this)
    have hag1 := hfr i o hoi vs
    have hag : Agree (fun t => t ∉ o.looksAt ops) (fill a0 ops.toList 0 (fun k => listed.getD k false) vs) (fr i vs) :=
      ⟨hag0.1.trans hag1.1, hag0.2.1.trans hag1.2.1, fun t ht => (hag0.2.2 t ht).trans (hag1.2.2 t ht)⟩
    have hlook : ∀ t, t ∈ o.looksAt ops → ¬ t ∉ o.looksAt ops := fun t h hn => hn h
    have hex := hag.exec (Region.noSelect_spec (noSelect_of ht) i o · · hoi) hlook
    -- what is asked of it
    have hob := ho i o hoi (Reg.seen listed) vs w hI hun (fun e he hb => by
      have h1 := hall e (by simpa using he) hb
      have h2 := t2 e (by simpa using he) hb
      unfold Reg.seen
      have : e.on < ops.size := by omega
      simpa [hs, this] using h1)
    have hnext : ∀ v' w', Inv (lay (Reg.seen listed) i) (upd vs i v') w' →
        wpAny P .any ops Q fuel (listed.setIfInBounds i true) ((fill a0 ops.toList 0 (fun k => listed.getD k false) vs).put o.dst v') w' := by
      intro v' w' hI'
      have e2 := fill_next vs (fun k => listed.getD k false) ops.toList 0 a0 i o v' hli (by simpa using hun') (fun k p hk hne t ht' => by
        have := (t3 k p (by simpa using hk)).1 hne t ht'
        exact this)
      rw [e2]
      have e3 := fill_congr (fun k => if k = 0 + i then v' else vs k) (upd vs i v') (fun k => listed.getD k false || k == 0 + i) (fun k => (listed.setIfInBounds i true).getD k false) ops.toList 0 a0 fun k hk => ⟨by
        simp only [Nat.zero_add]
        by_cases hki : k = i
        · subst hki; simp [hs, hlt]
        · rw [getD_set_ne false (fun e => hki e.symm)]; simp [hki], fun _ => by simp only [Nat.zero_add]; rfl⟩
      rw [e3]
      have e4 : Reg.seen (listed.setIfInBounds i true) = lay (Reg.seen listed) i := by
        funext k
        unfold Reg.seen lay
        by_cases hki : k = i
        · subst hki; simp [hs, hlt]
        · rw [getD_set_ne true (fun e => hki e.symm)]; simp [hki]
      refine ih _ _ w' (by simpa using hs) ?_ (fun k p hk hkl e he hb => ?_) (by rw [e4]; exact hI')
      · have hlt2 := Go.Proofs.YtbanpdeganlndaaGreatDoor.Reg.filter_lt (p := fun k => !listed.getD k false) (q := fun k => !(listed.setIfInBounds i true).getD k false) (i := i) (fun k hk => by
          by_cases hki : i = k
          · subst hki; simp [hs, hlt] at hk
          · rw [getD_set_ne false hki] at hk; exact hk) (by simp [hun']) (by simp [hs, hlt]) (List.mem_range.2 hlt)
        unfold left at hn ⊢
        omega
      · by_cases hki : k = i
        · subst hki
          obtain rfl : p = o := by rw [hoi] at hk; exact (Option.some.inj hk).symm
          exact getD_set_true (hall e he hb)
        · rw [getD_set_ne false (fun h => hki h.symm)] at hkl
          exact getD_set_true (hcl k p hk hkl e he hb)
    -- the guard
    unfold wpOp
    simp only [hoi]
    have hwv : Region.wanted o (yielded ops (fill a0 ops.toList 0 (fun k => listed.getD k false) vs).tmps) = wantedV o vs := by
      unfold Region.wanted wantedV
      cases hg : o.guard with
      | none => rfl
      | some gb =>
        obtain ⟨g, b⟩ := gb
        obtain ⟨p, d, hp, hpd, haw⟩ := tg g b hg
        obtain ⟨e, he, hb, hei⟩ := awaits_spec haw
        obtain ⟨p1, -, -, p3⟩ := tidy_spec ht hp
        have hget := fill_get vs (fun k => listed.getD k false) ops.toList 0 a0 g p d (by simpa using hp) hpd (p1 d hpd) (by have := hall e he hb; rw [hei] at this; simpa using this) (fun k q hk hne => by
          have := (p3 k q (by simpa using hk)).1 hne d hpd
          exact this)
        rw [Nat.zero_add] at hget
        simp only [yielded, hp, hpd, Option.bind_some, hget]
        cases vs g <;> rfl
    have h1 := hob (fun v' w' => Inv (lay (Reg.seen listed) i) (upd vs i v') w') (fun v w' h => h)
    by_cases hw : wantedV o vs = true
    · rw [if_pos (by rw [hwv]; exact hw)]
      refine .inl ?_
      rw [if_pos hw] at h1
      exact wp_of_givesP hex h1 (fun v w' hk => hnext v w' hk) (fun c w' hc => hQp _ c w' (fill_defers vs _ ops.toList 0 a0) hc)
    · rw [if_neg (by rw [hwv]; exact hw)]
      rw [if_neg hw] at h1
      exact hnext undef w h1

/-- The region, from the world behind the draw, under an invariant. -/
theorem wp_region_inv (Qp : List PanicEntry → World → Prop) {id : Nat} {a0 : Act} {w0 : World} {l : List Oper} {Q : Exit → Act → World → Prop} (Inv : (Nat → Bool) → (Nat → Value) → World → Prop) {A : (Nat → Value) → Act} {fr : Nat → (Nat → Value) → Act} (hQp : ∀ (b : Act) c w, b.defers = a0.defers → Qp c w → Q (.panic c) b w) (hm : P.follows .mixedOrders = true)
    (ht : tidy a0.tmps.size l.toArray = true) (hA : ∀ vs, fill a0 l 0 (fun _ => true) vs = A vs) (hfr : Frames l.toArray a0 fr)
    (hI : ∀ vs, Inv (fun k => decide (l.length ≤ k)) vs w0.drew)
    (ho : OblsI P Qp Inv fr l 0) (hend : ∀ vs w, Inv (fun _ => true) vs w → Q .normal (A vs) w) : (Code.region id l.toArray true).wp P Q a0 w0 := by
  have hA' : (fun vs => fill a0 l 0 (fun _ => true) vs) = A := funext hA
  subst hA'
  refine wp_region_any hm ?_
  have e : a0 = fill a0 l 0 (fun i => (Array.replicate l.toArray.size false).getD i false) (fun _ => undef) := by
    have h1 : ∀ (l : List Oper) (i : Nat) (a : Act) (vs : Nat → Value), fill a l i (fun _ => false) vs = a := by
      intro l
      induction l with
      | nil => intro i a vs; rfl
      | cons o r ih => intro i a vs; unfold fill; rw [if_neg (by simp)]; exact ih _ _ _
    have h2 : (fun i => (Array.replicate l.toArray.size false).getD i false) = fun _ => false := by
      funext i
      simp only [Array.getD_eq_getD_getElem?, Array.getElem?_replicate]; split <;> rfl
    rw [h2, h1]
  rw [e]
  refine any_order (Qp := Qp) (Inv := Inv) hQp ht hfr (fun i o hi => by have := oblI_of ho i o (by simpa using hi); rwa [Nat.zero_add] at this) (by simpa using hend) _ _ _ _ (by simp) ?_ ?_ ?_
  · unfold left
    exact Nat.le_trans (List.length_filter_le _ _) (by simp)
  · intro k p _ hkl
    simp only [Array.getD_eq_getD_getElem?, Array.getElem?_replicate] at hkl
    split at hkl <;> simp at hkl
  · have e2 : Reg.seen (Array.replicate l.toArray.size false) = fun k => decide (l.length ≤ k) := by
      funext k
      unfold Reg.seen
      simp only [Array.getD_eq_getD_getElem?, Array.getElem?_replicate, List.size_toArray]
      by_cases hk : k < l.length
      · rw [if_pos hk]; simp; omega
      · rw [if_neg hk]; simp; omega
    rw [e2]
    exact hI _

/-- What is asked of operation i where C speaks of the values too. -/
def OblF (P : Program) (Qp : List PanicEntry → World → Prop) (C : (Nat → Bool) → (Nat → Value) → World → Prop) (G : World → World → Prop) (Fs : List Fact) (A : (Nat → Value) → Act) (o : Oper) (i : Nat) : Prop :=
  ∀ (L : Nat → Bool) (vs : Nat → Value) (w : World), C L vs w → L i = false → Deps Fs vs w o.after.toList → Aw L o.after.toList →
    ∀ K : Value → World → Prop, (∀ v w', C (lay L i) (upd vs i v) w' → G w w' → at_ Fs i v w' → K v w') →
      if wantedV o vs = true then GivesP P K Qp ((execOp (A vs).eval o).run P w) else K undef w
def OblsL (P : Program) (Qp : List PanicEntry → World → Prop) (C : (Nat → Bool) → (Nat → Value) → World → Prop) (G : World → World → Prop) (Fs : List Fact) (fr : Nat → (Nat → Value) → Act) : List Oper → Nat → Prop
  | [], _ => True
  | o :: rest, i => OblF P Qp C G Fs (fr i) o i ∧ OblsL P Qp C G Fs fr rest (i + 1)
theorem wp_region_gen (Qp : List PanicEntry → World → Prop) {id : Nat} {a0 : Act} {w0 : World} {l : List Oper} {Q : Exit → Act → World → Prop} (C : (Nat → Bool) → (Nat → Value) → World → Prop) (G : World → World → Prop) (Fs : List Fact) {A : (Nat → Value) → Act} {fr : Nat → (Nat → Value) → Act} (hQp : ∀ (b : Act) c w, b.defers = a0.defers → Qp c w → Q (.panic c) b w) (hm : P.follows .mixedOrders = true)
    (ht : tidy a0.tmps.size l.toArray = true) (hfr : Frames l.toArray a0 fr) (hlen : Fs.length = l.length) (hA : ∀ vs, fill a0 l 0 (fun _ => true) vs = A vs)
    (hC : ∀ vs, C (fun k => decide (l.length ≤ k)) vs w0.drew) (ho : OblsL P Qp C G Fs fr l 0) (hlast : LastG G Fs)
    (hend : ∀ vs w, C (fun _ => true) vs w → All vs w Fs 0 → Q .normal (A vs) w) : (Code.region id l.toArray true).wp P Q a0 w0 := by
  refine wp_region_inv Qp (fun L vs w => C L vs w ∧ ∀ i, i < l.length → L i = true → at_ Fs i (vs i) w) hQp hm ht hA hfr (fun vs => ⟨hC vs, fun i hi h => ?_⟩) ?_ (fun vs w h => hend vs w h.1 (all_of fun k hk => by simpa using h.2 k (by omega) rfl))
  · simp at h; omega
  · have key : ∀ (r : List Oper) (i : Nat), i + r.length ≤ l.length → (∀ (k : Nat) (o : Oper), r[k]? = some o → ∀ e ∈ o.after, Region.binds .any e = true → e.on < l.length) → OblsL P Qp C G Fs fr r i → OblsI P Qp (fun L vs w => C L vs w ∧ ∀ i, i < l.length → L i = true → at_ Fs i (vs i) w) fr r i := by
      intro r
      induction r with
      | nil => intro i _ _ _; exact trivial
      | cons o r ih =>
        intro i hi he h
        refine ⟨?_, ih (i + 1) (by simp at hi; omega) (fun k o' hk => he (k + 1) o' (by simpa using hk)) h.2⟩
        intro L vs w hI hLi hall K hK
        have h1 := h.1 L vs w hI.1 hLi (deps_of fun e hm hb => hI.2 e.on (he 0 o (by simp) e (by simpa using hm) hb) (hall e hm hb)) (aw_of fun e hm hb => hall e hm hb) K
        refine h1 fun v w' hC' hb hF => hK v w' ⟨hC', fun k hk hL => ?_⟩
        unfold upd
        by_cases hki : k = i
        · subst hki; simpa using hF
        · rw [if_neg hki]
          have hLk : L k = true := by simpa [lay, hki] using hL
          exact at_lastG hlast k _ _ _ (hI.2 k hk hLk) hb
    refine key l 0 (by omega) (fun k o hk e he hb => ?_) ho
    have hko : l.toArray[k]? = some o := by simpa using hk
    have := (tidy_spec ht hko).2.2.1 e he hb
    have h2 := (Array.getElem?_eq_some_iff.1 hko).1
    simp at h2
    omega
/-- No operation looks at a slot that a later one writes. -/
theorem wp_region_free (Qp : List PanicEntry → World → Prop) {id : Nat} {a0 : Act} {w0 : World} {l : List Oper} {Q : Exit → Act → World → Prop} (C : (Nat → Bool) → (Nat → Value) → World → Prop) (G : World → World → Prop) (Fs : List Fact) {A : (Nat → Value) → Act} (hQp : ∀ (b : Act) c w, b.defers = a0.defers → Qp c w → Q (.panic c) b w) (hm : P.follows .mixedOrders = true)
    (ht : (tidy a0.tmps.size l.toArray && noLate l.toArray) = true) (hlen : Fs.length = l.length) (hA : ∀ vs, fill a0 l 0 (fun _ => true) vs = A vs)
    (hC : ∀ vs, C (fun k => decide (l.length ≤ k)) vs w0.drew) (ho : OblsL P Qp C G Fs (fun _ => A) l 0) (hlast : LastG G Fs)
    (hend : ∀ vs w, C (fun _ => true) vs w → All vs w Fs 0 → Q .normal (A vs) w) : (Code.region id l.toArray true).wp P Q a0 w0 := by
  rw [Bool.and_eq_true] at ht
  exact wp_region_gen Qp C G Fs hQp hm ht.1 (frames_plain ht.2 hA) hlen hA hC ho hlast hend
def OblT (P : Program) (Qp : List PanicEntry → World → Prop) (last : Nat) (anc : List Nat) (C0 C1 : World → Prop) (G : World → World → Prop) (Fs : List Fact) (A : (Nat → Value) → Act) (o : Oper) (i : Nat) : Prop :=
  ∀ (b : Bool) (vs : Nat → Value) (w : World), CB C0 C1 b w → ((anc.contains i || i == last) = true → b = false) → Deps Fs vs w o.after.toList →
    ∀ K : Value → World → Prop, (∀ v w', CB C0 C1 (b || i == last) w' → G w w' → at_ Fs i v w' → K v w') →
      if wantedV o vs = true then GivesP P K Qp ((execOp (A vs).eval o).run P w) else K undef w
def OblsT (P : Program) (Qp : List PanicEntry → World → Prop) (last : Nat) (anc : List Nat) (C0 C1 : World → Prop) (G : World → World → Prop) (Fs : List Fact) (A : (Nat → Value) → Act) : List Oper → Nat → Prop
  | [], _ => True
  | o :: rest, i => OblT P Qp last anc C0 C1 G Fs A o i ∧ OblsT P Qp last anc C0 C1 G Fs A rest (i + 1)
theorem wp_region_last (Qp : List PanicEntry → World → Prop) {P : Program} {id : Nat} {a0 : Act} {w0 : World} {l : List Oper} {Q : Exit → Act → World → Prop} (last : Nat) (anc : List Nat) (C0 C1 : World → Prop) (G : World → World → Prop) (Fs : List Fact) {A : (Nat → Value) → Act} (hQp : ∀ (b : Act) c w, b.defers = a0.defers → Qp c w → Q (.panic c) b w) (hm : P.follows .mixedOrders = true)
    (ht : (tidy a0.tmps.size l.toArray && noLate l.toArray) = true) (hanc : (decide (last < l.length) && anc.all fun i => (ancs l l.length [last]).contains i) = true) (hlen : Fs.length = l.length) (hA : ∀ vs, fill a0 l 0 (fun _ => true) vs = A vs)
    (hC : C0 w0.drew) (ho : OblsT P Qp last anc C0 C1 G Fs A l 0) (hlast : LastG G Fs)
    (hend : ∀ vs w, C1 w → All vs w Fs 0 → Q .normal (A vs) w) : (Code.region id l.toArray true).wp P Q a0 w0 := by
  rw [Bool.and_eq_true, decide_eq_true_eq] at hanc
  refine wp_region_free Qp (fun L vs w => Closed l L ∧ CB C0 C1 (L last) w) G Fs hQp hm ht hlen hA (fun vs => ⟨fun i o hi h => ?_, fun _ => hC, fun e => ?_⟩) ?_ hlast (fun vs w h => hend vs w (h.2.2 rfl))
  · have := (List.getElem?_eq_some_iff.1 hi).1
    simp at h; omega
  · have := hanc.1
    simp at e; omega
  · have key : ∀ (r : List Oper) (i : Nat), (∀ k o, r[k]? = some o → l[i + k]? = some o) → OblsT P Qp last anc C0 C1 G Fs A r i → OblsL P Qp (fun L vs w => Closed l L ∧ CB C0 C1 (L last) w) G Fs (fun _ => A) r i := by
      intro r
      induction r with
      | nil => intro i _ _; exact trivial
      | cons o r ih =>
        intro i hi h
        refine ⟨?_, ih (i + 1) (fun k o' hk => by have := hi (k + 1) o' (by simpa using hk); rwa [show i + 1 + k = i + (k + 1) by omega]) h.2⟩
        intro L vs w hC hL hd ha K hK
        refine h.1 (L last) vs w hC.2 (fun hai => ?_) hd K (fun v w' hC' hG hF => hK v w' ⟨?_, ?_⟩ hG hF)
        · cases e : L last with
          | false => rfl
          | true =>
            exfalso
            rw [Bool.or_eq_true] at hai
            rcases hai with hai | hai
            · have h1 := List.all_eq_true.1 hanc.2 i (by simpa using hai)
              have h2 := ancs_up hC.1 l.length (S := [last]) (fun s hs => by simp at hs; rw [hs]; exact e) i (by simpa using h1)
              rw [hL] at h2; cases h2
            · have : i = last := by simpa using hai
              rw [this, e] at hL; cases hL
        · intro j o' hj hLj
          have hmono : ∀ k, L k = true → lay L i k = true := fun k hk => by simp [lay, hk]
          by_cases hji : j = i
          · subst hji
            have := hi 0 o (by simp)
            rw [Nat.add_zero, hj] at this
            obtain rfl := Option.some.inj this
            exact aw_mono hmono ha
          · have : L j = true := by simpa [lay, hji] using hLj
            exact aw_mono hmono (hC.1 j o' hj this)
        · have : lay L i last = (L last || i == last) := by
            unfold lay
            congr 1
            exact Bool.eq_iff_iff.2 ⟨fun h => by rw [beq_iff_eq] at *; exact h.symm, fun h => by rw [beq_iff_eq] at *; exact h.symm⟩
          rw [this]
          exact hC'
    exact key l 0 (fun k o hk => by rw [Nat.zero_add]; exact hk) ho
end
end Go.Proofs.YtbanpdeganlndaaGreatDoor.RegP
namespace Go.Proofs.YtbanpdeganlndaaGreatDoor
open Go.RowKit

def LeftIn (w : World) (W : Nat) (A : Option Addr) (l : List UInt8) (cap : Nat) : Prop :=
  (A = none ∧ l = [] ∧ cap = 0) ∨ ∃ g off cs, A = some ⟨g, off, none⟩ ∧ w.heap[g]? = some (.cells cs 5 (0, 0)) ∧ W ≤ g ∧ off + cap ≤ cs.size ∧ l.length ≤ cap ∧ cap ≤ maxLen ∧ ∀ k (h : k < l.length), cs[off + k]? = some (.int .u8 ((l[k].toNat : Nat) : Int))
def blocks (A : Option Addr) : List Nat := match A with | some a => [a.block] | none => []
/-- All but what lies in A's block from A on stays. -/
def Sp (S : List Nat) (A : Option Addr) (w w' : World) : Prop := Keeps (S ++ blocks A) w w' ∧ ∀ a, A = some a → ∀ j, j < a.off → w'.cell? ⟨a.block, j, none⟩ = w.cell? ⟨a.block, j, none⟩
theorem LeftIn.keep {S : List Nat} {w w' : World} {W : Nat} {A : Option Addr} {l : List UInt8} {cap : Nat} (h : LeftIn w W A l cap) (hk : Keeps S w w') (hS : ∀ x ∈ S, x < W ∨ w.heap.size ≤ x) : LeftIn w' W A l cap := by
  rcases h with h | ⟨g, off, cs, h1, h2, h3, h4⟩
  · exact .inl h
  · refine .inr ⟨g, off, cs, h1, block_keep h2 hk (fun hm => ?_), h3, h4⟩
    have := hS g hm
    have := block_lt h2
    omega
theorem LeftIn.lt {w : World} {W : Nat} {A : Option Addr} {l : List UInt8} {cap : Nat} (h : LeftIn w W A l cap) : ∀ a, A = some a → W ≤ a.block ∧ a.block < w.heap.size := by
  intro a ha
  rcases h with ⟨h, _⟩ | ⟨g, off, cs, h1, h2, h3, _⟩
  · rw [h] at ha; cases ha
  · rw [h1] at ha; cases ha; exact ⟨h3, block_lt h2⟩
theorem LeftIn.bytes {w : World} {W : Nat} {A : Option Addr} {l : List UInt8} {cap : Nat} (h : LeftIn w W A l cap) : (∃ g, BytesIn w g A l ∧ (∀ a, A = some a → g = a.block)) ∧ l.length ≤ cap ∧ cap ≤ maxLen := by
  rcases h with ⟨h, rfl, rfl⟩ | ⟨g, off, cs, rfl, h2, h3, h4, h5, h6, h7⟩
  · exact ⟨⟨0, .inl rfl, fun a e => by rw [h] at e; cases e⟩, by simp, by simp⟩
  · exact ⟨⟨g, .inr ⟨off, rfl, fun k hk => by rw [row_cell h2]; exact h7 k hk⟩, fun a e => by cases e; rfl⟩, h5, h6⟩
theorem setCells_row : ∀ (vs : List Value) (o : Nat) (w : World) (g : Nat) (cs : Array Value) (t : TypeId), w.heap[g]? = some (.cells cs t (0, 0)) → o + vs.length ≤ cs.size →
    ∃ cs', (w.setCells g o vs).heap[g]? = some (.cells cs' t (0, 0)) ∧ cs'.size = cs.size ∧ (∀ k (h : k < vs.length), cs'[o + k]? = some vs[k]) ∧ (∀ i, i < o ∨ o + vs.length ≤ i → cs'[i]? = cs[i]?) ∧ Keeps [g] w (w.setCells g o vs)
  | [], o, w, g, cs, t, h, _ => ⟨cs, h, rfl, fun k hk => by simp at hk, fun _ _ => rfl, Keeps.refl _ _⟩
  | v :: vs, o, w, g, cs, t, h, hl => by
    have hk0 : Keeps [g] w (w.setCell ⟨g, o, none⟩ v) := (Keeps.refl _ _).setCell (by simp) _
    obtain ⟨cs', h1, h2, h3, h4, h5⟩ := setCells_row vs (o + 1) (w.setCell ⟨g, o, none⟩ v) g (cs.setIfInBounds o v) t (row_set h o v) (by simp at hl ⊢; omega)
    refine ⟨cs', h1, by simpa using h2, fun k hk => ?_, fun i hi => ?_, hk0.trans h5 (fun _ h _ => h)⟩
    · rcases k with _ | k
      · rw [Nat.add_zero, h4 o (.inl (by omega))]
        have : o < cs.size := by simp at hl; omega
        simp [this]
      · have := h3 k (by simpa using hk)
        rw [show o + (k + 1) = o + 1 + k by omega]
        exact this
    · rw [h4 i (by simp at hi; omega), Array.getElem?_setIfInBounds_ne (by simp at hi; omega)]
def IsSm (A : Option Addr) : Prop := ∃ a, A = some a
def FromA (W : Nat) (A A' : Option Addr) : Prop := A' = A ∨ ∃ a, A' = some a ∧ W ≤ a.block
/-- append onto what is left. -/
theorem run_append_left {w : World} {W : Nat} {A As : Option Addr} {l b : List UInt8} {cap gs cs : Nat} (ty : TypeId) (h : LeftIn w W A l cap) (hW : W ≤ w.heap.size) (hb : BytesIn w gs As b) (hb0 : 0 < b.length) (hsz : l.length + b.length ≤ 1099511627776) :
    ∃ A' cap' w', (Builtin.append_ #[62, 62] ty #[.slice A l.length cap, .slice As b.length cs]).run Tryz.prog w = .ok (.slice A' (l ++ b).length cap') w' ∧ LeftIn w' W A' (l ++ b) cap' ∧ Sp [] A w w' ∧ (A' = A ∨ ∃ a, A' = some a ∧ w.heap.size ≤ a.block) ∧ (∃ a, A' = some a) := by
  obtain ⟨iU, hU, hU0, hU1, hU2⟩ := info_parts infoU8
  rcases hb with hb | ⟨offs, rfl, hcell⟩
  · subst hb; simp at hb0
  have hnews : ∀ j u, (u8s b)[j]? = some u → w.cell? ((⟨gs, offs, none⟩ : Addr).add j) = some u := fun j u hj => by
    have hjl : j < b.length := by have := (List.getElem?_eq_some_iff.1 hj).1; simpa [u8s] using this
    rw [u8s_get hjl] at hj
    cases hj
    rw [Addr.add_lit]
    exact hcell j hjl
  have fresh : ∀ {olds : List Value} {v' : Value} {w' : World}, olds = u8s l → w'.ownsRow w.heap.size 5 1 v' (l.length + b.length) (olds ++ u8s b) → ∃ A' cap', v' = .slice A' (l ++ b).length cap' ∧ LeftIn w' W A' (l ++ b) cap' ∧ (∃ a, A' = some a ∧ w.heap.size ≤ a.block) := by
    intro olds v' w' ho h
    subst ho
    rcases h.2 with ⟨_, h0⟩ | ⟨g, c, cur, hv, hgb, hg, hn, hm, hcs, ht⟩
    · omega
    · refine ⟨some ⟨g, 0, none⟩, c, by rw [hv, List.length_append], .inr ⟨g, 0, cur, rfl, hg, by omega, by omega, by rw [List.length_append]; exact hn, hm, fun k hk => ?_⟩, ⟨_, rfl, hgb⟩⟩
      have hk' : k < l.length + b.length := by rw [List.length_append] at hk; exact hk
      have e1 : cur.toList[k]? = (u8s (l ++ b))[k]? := by rw [u8s_append, ← ht, List.getElem?_take, if_pos (by omega)]
      rw [u8s_get hk] at e1
      rw [Nat.zero_add, ← Array.getElem?_toList]; exact e1
  rcases h with ⟨rfl, rfl, rfl⟩ | ⟨g, off, cur, rfl, hg, hgW, hoff, hlen, hcm, hcs⟩
  · obtain ⟨v', w', hrun, r1, r2, _⟩ := run_append_own (P := Tryz.prog) w w.heap.size 62 ty 5 iU (.int .u8 0) 1 1 Tryz.underlying62 hU hU0 hU1 hU2 rfl (by decide) (.slice none 0 0) 0 [] (World.ownsRow_nil w _ _ 1) ⟨gs, offs, none⟩ b.length cs (u8s b) (by simp [u8s]) hnews (u8s_one b) (by unfold maxLen; simp at hsz; omega) (by simp at hsz; omega) (Nat.le_refl _)
    obtain ⟨A', cap', rfl, q1, a, q2, q3⟩ := fresh (olds := []) rfl (by simpa using r1)
    exact ⟨A', cap', w', hrun, q1, ⟨(Keeps.of_grown r2).mono (by simp [Value.ownBlock]), fun a e => by cases e⟩, .inr ⟨a, q2, q3⟩, a, q2⟩
  · have holds : ∀ j u, (u8s l)[j]? = some u → w.cell? ((⟨g, off, none⟩ : Addr).add j) = some u := fun j u hj => by
      have hjl : j < l.length := by have := (List.getElem?_eq_some_iff.1 hj).1; simpa [u8s] using this
      rw [u8s_get hjl] at hj
      cases hj
      rw [Addr.add_lit, row_cell hg]
      exact hcs j hjl
    by_cases hroom : l.length + b.length ≤ cap
    · have hrun := run_append_room_cells (P := Tryz.prog) w 62 ty 5 iU Tryz.underlying62 hU g off l.length cap ⟨gs, offs, none⟩ b.length cs (u8s b) (by simp [u8s, hU1]) hnews (u8s_one b) hroom
        (fun j hj => by rw [hU1, row_cell hg]; simp [u8s] at hj; have : off + l.length * 1 + j < cur.size := by omega
                        simp; omega) (fun j _ => row_free hg _)
      rw [hU1, Nat.mul_one] at hrun
      obtain ⟨cs', r1, r2, r3, r4, r5⟩ := setCells_row (u8s b) (off + l.length) w g cur 5 hg (by simp [u8s]; omega)
      refine ⟨some ⟨g, off, none⟩, cap, _, by rw [List.length_append]; exact hrun, .inr ⟨g, off, cs', rfl, r1, hgW, by omega, by rw [List.length_append]; exact hroom, hcm, fun k hk => ?_⟩, ⟨by simpa [blocks] using r5, fun a e j hj => ?_⟩, .inl rfl, ⟨_, rfl⟩⟩
      · by_cases hkl : k < l.length
        · rw [r4 (off + k) (.inl (by omega)), List.getElem_append_left hkl]; exact hcs k hkl
        · have hk' : k - l.length < b.length := by rw [List.length_append] at hk; omega
          have := r3 (k - l.length) (by simpa [u8s] using hk')
          rw [show off + l.length + (k - l.length) = off + k by omega] at this
          rw [this, List.getElem_append_right (by omega)]
          simp [u8s]
      · cases e
        simp only [] at hj
        rw [row_cell r1, row_cell hg]
        exact r4 j (.inl (by omega))
    · obtain ⟨v', w', hrun, r1, r2⟩ := run_append_arg_grows (P := Tryz.prog) w 62 ty 5 iU (.int .u8 0) 1 1 Tryz.underlying62 hU hU0 hU1 hU2 rfl (by decide) ⟨g, off, none⟩ l.length cap (u8s l) (by simp [u8s]) holds ⟨gs, offs, none⟩ b.length cs (u8s b) (by simp [u8s]) hnews (by omega) (by unfold maxLen; omega) (by omega)
      obtain ⟨A', cap', rfl, q1, a, q2, q3⟩ := fresh (olds := u8s l) rfl r1
      refine ⟨A', cap', w', hrun, q1, ⟨(Keeps.of_grown r2).mono (by simp), fun a' e j hj => ?_⟩, .inr ⟨a, q2, q3⟩, a, q2⟩
      cases e
      exact ((Keeps.of_grown r2).cell (p := ⟨g, j, none⟩) (block_lt hg) (by simp))
section
variable {ops : Array Oper} {rest : List Oper} {o : Oper} {a : Act} {Q : Exit → Act → World → Prop} {w : World}
theorem wpList_append_left (hgd : o.guard = none) (s x : Operand) (ho : o.op = .call { callee := .builtin .append, args := #[s, x], argTypes := #[62, 62] }) (W : Nat) (A As : Option Addr) (l b : List UInt8) (cap gs cs : Nat)
    (hs : a.eval s = .slice A l.length cap) (hx : a.eval x = .slice As b.length cs) (h : LeftIn w W A l cap) (hW : W ≤ w.heap.size) (hb : BytesIn w gs As b) (hb0 : 0 < b.length) (hsz : l.length + b.length ≤ 1099511627776)
    (hK : ∀ A' cap' w', LeftIn w' W A' (l ++ b) cap' → Sp [] A w w' → FromA w.heap.size A A' → IsSm A' → wpList Tryz.prog ops Q rest (a.put o.dst (.slice A' (l ++ b).length cap')) w') : wpList Tryz.prog ops Q (o :: rest) a w := by
  obtain ⟨A', cap', w', hr, h1, h2, h3, h4⟩ := run_append_left (cs := cs) o.type h hW hb hb0 hsz
  refine wpList_plain hgd fun K hK' => ?_
  unfold Oper.wp execOp
  simp only [ho, resolve, invoke, builtin, Sem.run_bind, Sem.run_pure, Result.andThen_ok, List.map_toArray, List.map_cons, List.map_nil, hs, hx, hr]
  exact hK' _ _ (hK A' cap' w' h1 h2 h3 h4)
end
end Go.Proofs.YtbanpdeganlndaaGreatDoor
