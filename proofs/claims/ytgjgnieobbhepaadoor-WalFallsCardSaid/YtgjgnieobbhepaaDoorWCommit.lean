/- Commit. -/
import Derived.Test.YtgjgnieobbhepaaDoorWChange
import Derived.Test.YtgjgnieobbhepaaDoorRegLast
namespace Go.Proofs.YtgjgnieobbhepaaDoor
open Go.RowKit
open Reg (Is Fact CB)

attribute [local go_sem] Reg.lateFr Reg.wantedV Reg.gives_value Reg.gives_skip Reg.gives_enter
/-- A copy of bytes, whose block is known. -/
def CloneAt (w : World) (l : List UInt8) (e : Ending) (w' : World) : Prop :=
  ∃ g cap cur, e = .returned (.slice (some ⟨g, 0, none⟩) l.length cap) ∧ w'.heap[g]? = some (.cells cur 5 (0, 0)) ∧ (∀ k (h : k < l.length), cur[k]? = some (.int .u8 ((l[k].toNat : Nat) : Int))) ∧ w.heap.size ≤ g ∧ l.length ≤ cap ∧ cap ≤ maxLen ∧ Keeps [] w w'
set_option maxHeartbeats 400000 in
theorem clone_whole (w : World) (g off : Nat) (l : List UInt8) (cap : Nat) (hr : BytesIn w g (some ⟨g, off, none⟩) l) (hl : l.length ≤ 140737488355328) :
    Calls Tryd.prog 40 #[.slice (some ⟨g, off, none⟩) l.length cap] w (CloneAt w l) := by
  have q22 : ∀ (w : World) (a : Option Addr) (n c n' c' : Nat), (binOp .eql 34 (.slice a n c) (.slice none n' c')).run Tryd.prog w = .ok (.bool a.isNone) w := fun w a n c n' c' => Lib.run_eql_slice_nil w _ _ a n c n' c' Tryd.underlying34
  obtain ⟨i0, hi, hz0, hz1, hz2⟩ := info_parts infoU8
  have HR := Lib.hid hr
  clear hr
  go_enter Tryd.func40, Tryd.ntmps40
  go_wp2_with (at_builtin; refine wpList_append_own _ rfl _ _ 34 rfl w.heap.size 5 i0 (.int .u8 0) 1 1 Tryd.underlying34 hi hz0 hz1 hz2 rfl (by decide) _ _ _ rfl (World.ownsRow_made w #[] 0 (Nat.le_refl _) (Nat.zero_le _) rfl) ⟨g, off, none⟩ l.length cap (u8s l) rfl ?qc1 ?qc2 ?qc3 ?qc4 ?qc5 ?qc6 ?_)
  case qc1 => simp [u8s]
  case qc2 =>
    intro j u hj
    have hjl : j < l.length := by
      have := (List.getElem?_eq_some_iff.1 hj).1
      simpa [u8s] using this
    rcases HR.out with h | ⟨off', h, hc⟩
    · subst h; simp at hjl
    · obtain rfl : off = off' := by simpa using h
      have h1 := hc j hjl
      rw [u8s_get hjl] at hj
      obtain rfl := Option.some.inj hj
      rw [Addr.add_lit]
      exact ((Keeps.refl [] w).alloc _).cell_some h1 (by simp)
  case qc3 => exact u8s_one l
  case qc4 => unfold maxLen; omega
  case qc5 => omega
  case qc6 => simp
  intro v' w' h1 h2 h3
  obtain ⟨g', cap', cur, hv, hg', hh, hc', hm', htk⟩ : ∃ g' cap' cur, v' = .slice (some ⟨g', 0, none⟩) l.length cap' ∧ w.heap.size ≤ g' ∧ w'.heap[g']? = some (.cells cur 5 (0, 0)) ∧ l.length ≤ cap' ∧ cap' ≤ maxLen ∧ cur.toList.take l.length = u8s l := by
    rcases h1.2 with ⟨h, h0⟩ | ⟨g2, c2, cu2, hv, hb, hh, hn, hm, hcs, ht⟩
    · exact (h3 h).elim
    · exact ⟨g2, c2, cu2, by simpa using hv, hb, hh, by simpa using hn, hm, by simpa using ht⟩
  have HK := Lib.hid (show Keeps [] w w' from ((Keeps.refl [] w).alloc _).trans (Keeps.of_grown h2) (fun i hi hl => by
      have : i = w.heap.size := by simpa [Value.ownBlock] using hi
      omega))
  have HH := Lib.hid hh
  have HTK := Lib.hid (show ∀ k (h : k < l.length), cur[k]? = some (.int .u8 ((l[k].toNat : Nat) : Int)) from fun k hk => by
    have e1 : cur.toList[k]? = (u8s l)[k]? := by rw [← htk, List.getElem?_take, if_pos hk]
    rw [u8s_get hk] at e1
    rw [← Array.getElem?_toList]; exact e1)
  clear h1 h2 h3 hh htk
  subst hv
  go_wp2
  go_ret
  exact ⟨g', cap', cur, rfl, HH.out, HTK.out, hg', hc', hm', HK.out⟩

/-- What Commit makes of disk and log. -/
def commitD (d : Dk) (g : Lg) (ls : List (List UInt8)) : Nat × Dk × Lg :=
  if fitErr (L.cap d.dur.length - g.used) d.size ls ≠ 0 then (fitErr (L.cap d.dur.length - g.used) d.size ls, d, g)
  else if ls = [] then chg d { g with settled := false } g []
  else chg d g { area := g.area, used := g.used + L.nsec ls d.size, count := g.count + ls.length, settled := false } (L.commitSteps d.dur.length d.size g.area g.used ls)
set_option maxRecDepth 100000 in
set_option maxHeartbeats 2000000 in
theorem commit_err (w : World) (h : DH) (B : Nat → Prop) (d : Dk) (lp : Nat) (g : Lg) (G : Nat → Prop) (A : Option Addr) (cap : Nat) (ls : List (List UInt8)) (x : DskAt w h B d) (y : LogAt w lp h.p g)
    (hr : RowsIn w G A ls) (hb : (L.body ls).length ≤ 1099511627776) (hN : 16 ≤ d.dur.length) (hu : g.used ≤ L.cap d.dur.length) (he : fitErr (L.cap d.dur.length - g.used) d.size ls ≠ 0) :
    Calls Tryd.prog 19 #[.pointer (some ⟨lp, 0, none⟩), .slice A ls.length cap] w (ChangeP w h B lp (commitD d g ls)) := by
  have hcap := sp_le x.ok
  have hc2 := L.cap_room hN
  have HC := Lib.hid (show commitD d g ls = (fitErr (L.cap d.dur.length - g.used) d.size ls, d, g) from if_pos he)
  obtain ⟨fr, hfr⟩ : ∃ fr, fr = L.cap d.dur.length - g.used := ⟨_, rfl⟩
  rw [← hfr] at he HC
  have HFREE := Lib.hid (free_any w h B d lp g x y hN hu)
  rw [← hfr] at HFREE
  have HFIT := Lib.hid (fun w' (hk : Keeps [] w w') => fit_any w' h B d lp g G A ls cap fr (x.keep0 hk) (y.keep hk (by simp)) (hr.keep0 hk) hb (by omega))
  have HX := Lib.hid x
  have HY := Lib.hid y
  obtain ⟨er, her⟩ : ∃ er, er = fitErr fr d.size ls := ⟨_, rfl⟩
  rw [← her] at he HC HFIT
  have hz : ((er : Int) != 0) = true := by rw [bne_iff_ne]; omega
  clear x y hr hfr her
  go_enter Tryd.func19, Tryd.ntmps19
  go_wp2_with fail
  refine HFREE.out.mono ?_
  intro e w1 hq
  obtain ⟨rfl, hk1⟩ := hq.keeps
  have HK1 := Lib.hid hk1
  clear hq hk1
  go_wp2_with fail
  refine (HFIT.out w1 HK1.out).mono ?_
  rintro e w' ⟨rfl, rfl⟩
  go_wp2_with fail
  go_ret
  rw [HC.out]
  exact ⟨rfl, HK1.out.mono (by simp), HY.out.keep HK1.out (by simp), B, HX.out.keep0 HK1.out, fun _ h => h, fun _ h => .inl h⟩
set_option maxRecDepth 100000 in
set_option maxHeartbeats 2000000 in
theorem commit_none (w : World) (h : DH) (B : Nat → Prop) (d : Dk) (lp : Nat) (g : Lg) (A : Option Addr) (cap : Nat) (x : DskAt w h B d) (y : LogAt w lp h.p g) (hlB : ¬ B lp)
    (hN : 16 ≤ d.dur.length) (ha : g.area ≤ 1) (hu : g.used ≤ L.cap d.dur.length) :
    Calls Tryd.prog 19 #[.pointer (some ⟨lp, 0, none⟩), .slice A 0 cap] w (ChangeP w h B lp (commitD d g [])) := by
  have hcap := sp_le x.ok
  have hc2 := L.cap_room hN
  have hfit0 : ∀ f s, fitErr f s [] = 0 := fun f s => by unfold fitErr; rw [if_neg (by simp), if_neg (by rw [L.nsec_nil]; omega)]
  have HC := Lib.hid (show commitD d g [] = chg d { g with settled := false } g [] by unfold commitD; rw [if_neg (by rw [hfit0]; simp), if_pos rfl])
  have HFREE := Lib.hid (free_any w h B d lp g x y hN hu)
  have HFIT := Lib.hid (fun w' (hk : Keeps [] w w') => by
    have := fit_any w' h B d lp g (fun _ => False) A [] cap (L.cap d.dur.length - g.used) (x.keep0 hk) (y.keep hk (by simp)) (.inl rfl) (by simp [L.body]) (by omega)
    rw [hfit0] at this
    exact this)
  obtain ⟨_, c1, c2, c3, c4⟩ := y.cells
  have hne := y.ne x
  have f4 := y.free 4
  have HX := Lib.hid x
  have HY := Lib.hid y
  have HNE := Lib.hid hne
  have HLB := Lib.hid hlB
  clear x y hne hlB
  go_enter Tryd.func19, Tryd.ntmps19
  go_wp2_with fail
  refine HFREE.out.mono ?_
  intro e w1 hq
  obtain ⟨rfl, hk1⟩ := hq.keeps
  have HK1 := Lib.hid hk1
  have k1 := hk1.cell_some c1 (by simp)
  have k2 := hk1.cell_some c2 (by simp)
  have k3 := hk1.cell_some c3 (by simp)
  have k4 := hk1.cell_some c4 (by simp)
  have z4 := (HY.out.keep hk1 (by simp)).free 4
  clear hq hk1
  go_wp2_with fail
  refine (HFIT.out w1 HK1.out).mono ?_
  rintro e w' ⟨rfl, rfl⟩
  have hk2 : Keeps [lp] w1 (w1.setCell ⟨lp, 4, none⟩ (.bool false)) := (Keeps.refl _ _).setCell (by simp) _
  have HCH := Lib.hid (change_any (w1.setCell ⟨lp, 4, none⟩ (.bool false)) h B d lp { g with settled := false } g (fun _ => False) none 0 []
    ((HX.out.keep0 HK1.out).keep hk2 (fun z hz => ⟨by simp at hz; rw [hz]; exact HNE.out.2.2.2, by simp at hz; rw [hz]; exact HLB.out⟩))
    (by unfold LogAt; rw [row_set (HY.out.keep HK1.out (by simp)) 4 _]; rfl) HLB.out (.inl ⟨rfl, rfl⟩) (fun _ h => h.elim) (by simp) (by simp) ha (by simp only []; omega))
  have HK2 := Lib.hid hk2
  clear hk2
  go_wp2_with fail
  refine HCH.out.mono ?_
  rintro e w3 ⟨rfl, q1, q2, B', q3, q4, q5⟩
  have HW := Lib.hid (show ChangeP w h B lp (commitD d g []) (.returned (.int .i64 ((chg d { g with settled := false } g []).1 : Int))) w3 by
    rw [HC.out]
    refine ⟨rfl, ((HK1.out.mono (T := lp :: h.l) (by simp)).trans (HK2.out.mono (T := lp :: h.l) (by simp)) (fun _ h _ => h)).trans q1 (fun _ h _ => h), q2, B', q3, q4, fun z hz => (q5 z hz).imp id (fun e => ?_)⟩
    have h8 := HK1.out.size
    have h9 := HK2.out.size
    omega)
  clear q1 q2 q3 q4 q5
  go_wp2_with fail
  go_ret
  exact HW.out

theorem fit_ok {fr s : Nat} {ls : List (List UInt8)} (h : fitErr fr s ls = 0) : (∀ r ∈ ls, r.length ≤ 1048576) ∧ L.nsec ls s ≤ fr := by
  unfold fitErr at h
  split at h
  · cases h
  · rename_i h1
    split at h
    · cases h
    · rename_i h2
      refine ⟨fun r hr => ?_, by omega⟩
      by_cases hl : r.length ≤ 1048576
      · exact hl
      · exact absurd ⟨r, hr, by omega⟩ h1
theorem first_bytes {ls : List (List UInt8)} {s : Nat} (h0 : ls ≠ []) (hs : 0 < s) : ((L.frame 0 ls s).take s).set 0 1 = (L.frame 1 ls s).take s := by
  obtain ⟨X, hX⟩ := L.frame_marks (s := s) h0
  obtain ⟨n, rfl⟩ : ∃ n, s = n + 1 := ⟨s - 1, by omega⟩
  rw [hX 0, hX 1]; rfl
/-- A row of n things in new memory, apart from S. -/
def NewM (S : List Nat) (W n : Nat) (t : TypeId) (cs : Array Value) : Fact := fun v w => ∃ x, v = .slice (some ⟨x, 0, none⟩) n n ∧ w.heap[x]? = some (.cells cs t (0, 0)) ∧ x ∉ S ∧ W ≤ x
theorem NewM.keep {S : List Nat} {W n : Nat} {t : TypeId} {cs : Array Value} : ∀ v w w', NewM S W n t cs v w → Keeps S w w' → NewM S W n t cs v w' := by
  rintro v w w' ⟨x, h1, h2, h3, h4⟩ hk
  exact ⟨x, h1, block_keep h2 hk h3, h3, h4⟩
theorem StepsIn.two {w : World} {G : Nat → Prop} {x i j n1 n2 c1 c2 : Nat} {A1 A2 : Option Addr} {l1 l2 : List UInt8} (hx : w.heap[x]? = some (.cells #[.int .i64 (i : Int), .slice A1 n1 c1, .int .i64 (j : Int), .slice A2 n2 c2] 77 (0, 0))) (hG : G x)
    (h1 : ElV w G (.slice A1 n1 c1) l1) (h2 : ElV w G (.slice A2 n2 c2) l2) : StepsIn w G (some ⟨x, 0, none⟩) [(i, l1), (j, l2)] := by
  refine .inr ⟨x, 0, [.int .i64 (i : Int), .slice A1 n1 c1, .int .i64 (j : Int), .slice A2 n2 c2], rfl, hG, fun k u hk => ?_, rfl, fun k hk => ?_⟩
  · rw [row_cell hx, Nat.zero_add]
    simpa using hk
  · match k, hk with
    | 0, _ => exact ⟨rfl, _, rfl, h1⟩
    | 1, _ => exact ⟨rfl, _, rfl, h2⟩
def Chgd (w : World) (h : DH) (B : Nat → Prop) (lp : Nat) (r : Nat × Dk × Lg) (w' : World) : Prop := Keeps (lp :: h.l) w w' ∧ LogAt w' lp h.p r.2.2 ∧ ∃ B', DskAt w' h B' r.2.1 ∧ (∀ x, B x → B' x) ∧ (∀ x, B' x → B x ∨ w.heap.size ≤ x)
theorem Chgd.then0 {w w1 w2 : World} {h : DH} {B : Nat → Prop} {lp : Nat} {r : Nat × Dk × Lg} (y : Chgd w h B lp r w1) (hk : Keeps [] w1 w2) : Chgd w h B lp r w2 := by
  obtain ⟨q1, q2, B2, z, z1, z2⟩ := y
  exact ⟨q1.trans hk (by simp), q2.keep hk (by simp), B2, z.keep0 hk, z1, z2⟩
theorem Chgd.first {w w1 w2 : World} {h : DH} {B : Nat → Prop} {lp : Nat} {r : Nat × Dk × Lg} (hk : Keeps [] w w1) (y : Chgd w1 h B lp r w2) : Chgd w h B lp r w2 := by
  obtain ⟨q1, q2, B2, z, z1, z2⟩ := y
  exact ⟨(hk.mono (T := lp :: h.l) (by simp)).trans q1 (fun _ h _ => h), q2, B2, z, z1, fun x hx => (z2 x hx).imp id (fun e => Nat.le_trans hk.size e)⟩
set_option maxRecDepth 100000 in
set_option maxHeartbeats 4000000 in
theorem commit_some (w : World) (h : DH) (B : Nat → Prop) (d : Dk) (lp : Nat) (g : Lg) (G : Nat → Prop) (A : Option Addr) (cap : Nat) (ls : List (List UInt8)) (x : DskAt w h B d) (y : LogAt w lp h.p g) (hlB : ¬ B lp) (ht : TabAt w)
    (hr : RowsIn w G A ls) (hG : ∀ x, G x → x < w.heap.size) (hN : 16 ≤ d.dur.length) (ha : g.area ≤ 1) (hu : g.used ≤ L.cap d.dur.length) (hc : g.count ≤ 1099511627776) (he : fitErr (L.cap d.dur.length - g.used) d.size ls = 0) (h0 : ls ≠ []) :
    Calls Tryd.prog 19 #[.pointer (some ⟨lp, 0, none⟩), .slice A ls.length cap] w (ChangeP w h B lp (commitD d g ls)) := by
  have hcap := sp_le x.ok
  have hc2 := L.cap_room hN
  have hsz := x.ok.size
  obtain ⟨hlens, hfits⟩ := fit_ok he
  have hroom := L.nsec_room h0 (s := d.size) (by omega)
  have hprod : L.nsec ls d.size * d.size ≤ 2048 * 4096 := Nat.mul_le_mul (by omega) hsz.2
  have hbody : (L.body ls).length ≤ 8388608 := by omega
  have hcount := body_count ls
  have HC := Lib.hid (show commitD d g ls = chg d g { area := g.area, used := g.used + L.nsec ls d.size, count := g.count + ls.length, settled := false } (L.commitSteps d.dur.length d.size g.area g.used ls) by unfold commitD; rw [if_neg (by rw [he]; simp), if_neg h0])
  have HFREE := Lib.hid (free_any w h B d lp g x y hN hu)
  have HFIT := Lib.hid (fun w' (hk : Keeps [] w w') => by
    have := fit_any w' h B d lp g G A ls cap (L.cap d.dur.length - g.used) (x.keep0 hk) (y.keep hk (by simp)) (hr.keep0 hk) (by omega) (by omega)
    rw [he] at this
    exact this)
  have HSEC := Lib.hid (fun w' (hk : Keeps [] w w') => sectors_of w' G A ls cap d.size (hr.keep0 hk) (by omega) (by omega))
  have HFRM := Lib.hid (fun w' (hk : Keeps [] w w') => frame_any w' G A ls cap d.size 0 (ht.keep hk (by simp)) (hr.keep0 hk) (fun z hz => Nat.lt_of_lt_of_le (hG z hz) hk.size) (by omega) (by omega))
  have HEND := Lib.hid (fun w' (hk : Keeps [] w w') => (end_any w' h B d lp g (x.keep0 hk) (y.keep hk (by simp)) ha (by omega)).mono fun _ _ hq => hq.keeps)
  obtain ⟨c0, c1, c2, c3, c4⟩ := y.cells
  have hne := y.ne x
  have hlt := x.lt
  have hll := y.lt
  have hpos : 0 < ls.length := List.length_pos_iff.2 h0
  have hz0 : ((ls.length : Int) == 0) = false := by rw [beq_eq_false_iff_ne]; omega
  have HFL := Lib.hid (L.frame_length 0 ls (s := d.size) (by omega))
  have HFB := Lib.hid (first_bytes (s := d.size) h0 (by omega))
  have HX := Lib.hid x
  have HY := Lib.hid y
  have HNE := Lib.hid hne
  have HLB := Lib.hid hlB
  obtain ⟨en, hen⟩ : ∃ en, en = L.st d.dur.length g.area + g.used := ⟨_, rfl⟩
  have hstf := L.st_fits (N := d.dur.length) (a := g.area) (by omega) ha
  have hsecs := x.ok.secs
  have henb : en ≤ 8192 := by omega
  rw [← hen] at HEND
  have HEN := Lib.hid hen
  obtain ⟨ns, hns⟩ : ∃ ns, ns = L.nsec ls d.size := ⟨_, rfl⟩
  rw [← hns] at HSEC hfits HC hroom hprod HFL
  obtain ⟨T, hT⟩ : ∃ T, T = (ns + 1) * d.size := ⟨_, rfl⟩
  rw [← hT] at HFL
  have hTs : d.size ≤ T ∧ T ≤ 8396800 := by rw [hT, Nat.add_mul]; omega
  obtain ⟨a, hae⟩ : ∃ a, a = g.area := ⟨_, rfl⟩
  obtain ⟨u, hue⟩ : ∃ u, u = g.used := ⟨_, rfl⟩
  obtain ⟨c, hce⟩ : ∃ c, c = g.count := ⟨_, rfl⟩
  have HAE := Lib.hid hae
  have HUE := Lib.hid hue
  have HCE := Lib.hid hce
  rw [← hae] at c1
  rw [← hue] at c2 hu hfits
  rw [← hce] at c3 hc
  clear x y hr ht hne hlB he h0 hen hns hT hae hue hce hG
  go_enter Tryd.func19, Tryd.ntmps19
  go_wp2_with fail
  refine HFREE.out.mono ?_
  intro e w1 hq
  obtain ⟨rfl, hk1⟩ := hq.keeps
  have HK1 := Lib.hid hk1
  have k0 := hk1.cell_some c0 (by simp)
  clear hq hk1
  go_wp2_with fail
  refine (HFIT.out w1 HK1.out).mono ?_
  rintro e w' ⟨rfl, rfl⟩
  go_wp2_with fail
  refine (size_any w1 h B d (HX.out.keep0 HK1.out)).mono ?_
  rintro e w' ⟨rfl, rfl⟩
  go_wp2_with fail
  refine (HFRM.out w1 HK1.out).mono ?_
  rintro e w2 ⟨gf, rfl, hgf, hgf1, hk2⟩
  rw [HFL.out]
  have hk12 := HK1.out.trans hk2 (by simp)
  have HGF := Lib.hid hgf
  have HK2 := Lib.hid hk12
  have k1 := hk12.cell_some c1 (by simp)
  have k2 := hk12.cell_some c2 (by simp)
  have k3 := hk12.cell_some c3 (by simp)
  have hgf2 := block_lt hgf
  have hw1 := HK1.out.size
  clear hgf hk2 hk12 k0
  have hsT : (d.size : Int) ≤ (T : Int) := by omega
  have HTL := Lib.hid (show ((L.frame 0 ls d.size).take d.size).length = d.size by rw [List.length_take, HFL.out]; omega)
  have HCLN := Lib.hid (clone_whole w2 gf 0 ((L.frame 0 ls d.size).take d.size) T (by
    have := HGF.out.part 0 d.size (by rw [HFL.out]; omega)
    simpa using this) (by rw [HTL.out]; omega))
  rw [HTL.out] at HCLN
  go_wp2_with fail
  refine HCLN.out.mono ?_
  rintro e w3 ⟨gc, cc, cur, rfl, hcur, hcb, hgc, hcc, hcm, hk3⟩
  rw [HTL.out] at hcc ⊢
  have hk23 := HK2.out.trans hk3 (by simp)
  have HGF3 := Lib.hid (HGF.out.keep hk3 (by simp))
  have m1 := hk3.cell_some k1 (by simp)
  have m2 := hk3.cell_some k2 (by simp)
  have m3 := hk3.cell_some k3 (by simp)
  have hw2 := HK2.out.size
  have hw3 := hk3.size
  have hgc3 := block_lt hcur
  obtain ⟨y0, hy0⟩ : ∃ y0 : Value, w3.cell? ⟨gc, 0, none⟩ = some y0 := ⟨_, by rw [row_cell hcur]; exact hcb 0 (by rw [HTL.out]; omega)⟩
  have fy0 := row_free hcur 0
  have HFIRST := Lib.hid (show BytesIn (w3.setCell ⟨gc, 0, none⟩ (.int .u8 1)) gc (some ⟨gc, 0, none⟩) ((L.frame 1 ls d.size).take d.size) from by
    rw [← HFB.out]
    refine .inr ⟨0, rfl, fun k hk => ?_⟩
    rw [row_cell (row_set hcur 0 _), Nat.zero_add]
    rw [List.length_set] at hk
    have hcs := hcb k hk
    have hlt9 := (Array.getElem?_eq_some_iff.1 hcs).1
    by_cases hk0 : k = 0
    · subst hk0
      rw [Array.getElem?_setIfInBounds_self_of_lt hlt9, List.getElem_set_self]; rfl
    · rw [Array.getElem?_setIfInBounds_ne (Ne.symm hk0), List.getElem_set_ne (Ne.symm hk0)]
      exact hcs)
  have HFT := Lib.hid (show ((L.frame 1 ls d.size).take d.size).length = d.size by rw [← HFB.out, List.length_set]; exact HTL.out)
  have HGF4 := Lib.hid (show U8At (w3.setCell ⟨gc, 0, none⟩ (.int .u8 1)) gf (L.frame 0 ls d.size) from HGF3.out.keep (S := [gc]) ((Keeps.refl _ _).setCell (by simp) _) (by simp; omega))
  have HK4 := Lib.hid (show Keeps [] w (w3.setCell ⟨gc, 0, none⟩ (.int .u8 1)) from ((hk23.mono (T := [gc]) (by simp)).setCell (by simp) _).mono (fun i hi hl => by simp at hi; omega))
  have p1 : (w3.setCell ⟨gc, 0, none⟩ (.int .u8 1)).cell? ⟨lp, 1, none⟩ = some (.int .i64 (a : Int)) := HK4.out.cell_some c1 (by simp)
  have p2 : (w3.setCell ⟨gc, 0, none⟩ (.int .u8 1)).cell? ⟨lp, 2, none⟩ = some (.int .i64 (u : Int)) := HK4.out.cell_some c2 (by simp)
  have p3 : (w3.setCell ⟨gc, 0, none⟩ (.int .u8 1)).cell? ⟨lp, 3, none⟩ = some (.int .i64 (c : Int)) := HK4.out.cell_some c3 (by simp)
  clear hcur hcb hk3 hk23 k1 k2 k3
  go_wp2_with fail
  obtain ⟨nb, hnb⟩ : ∃ nb, nb = w3.heap.size := ⟨_, rfl⟩
  obtain ⟨w5, hw5⟩ : ∃ w5, w5 = (w3.setCell ⟨gc, 0, none⟩ (.int .u8 1)).alloc (.cells #[.int .i64 (a : Int), .int .i64 (u : Int), .int .i64 (c : Int)] 66) := ⟨_, rfl⟩
  have hk5 : Keeps [] (w3.setCell ⟨gc, 0, none⟩ (.int .u8 1)) w5 := by rw [hw5]; exact (Keeps.refl _ _).alloc _
  have hbx : w5.heap[nb]? = some (.cells #[.int .i64 (a : Int), .int .i64 (u : Int), .int .i64 (c : Int)] 66 (0, 0)) := by
    have h9 := heap_alloc_new (w3.setCell ⟨gc, 0, none⟩ (.int .u8 1)) (.cells #[.int .i64 (a : Int), .int .i64 (u : Int), .int .i64 (c : Int)] 66)
    rw [hw5, hnb]
    simpa [World.setCell] using h9
  rw [← hw5, ← hnb]
  have HBX := Lib.hid hbx
  have HK5 := Lib.hid (HK4.out.trans hk5 (by simp))
  have HGF5 := Lib.hid (HGF4.out.keep hk5 (by simp))
  have HFI5 := Lib.hid (HFIRST.out.keep hk5 (by simp))
  have HNB := Lib.hid (show w.heap.size ≤ nb ∧ gf < nb ∧ gc < nb ∧ w.heap.size ≤ gf ∧ w.heap.size ≤ gc from ⟨by omega, by omega, by omega, by omega, by omega⟩)
  have hnb5 := block_lt hbx
  clear hw5 hnb hk5 hbx p1 p2 p3 m1 m2 m3 hy0 fy0 hw2 hw3 hgc3 hgf2 hw1 HFIRST HGF4 HK4 HGF3 HK2 HGF
  have e1 : IntKind.i64.wrap ((u : Int) + (ns : Int)) = ((u + ns : Nat) : Int) := by
    rw [show ((u + ns : Nat) : Int) = (u : Int) + (ns : Int) by push_cast; rfl]; exact IntWalk.i64_in _ ⟨by omega, by omega⟩
  refine Reg.wp_region_last 7 [0, 1, 2, 3, 4, 5, 6] (fun w' => Keeps [] w5 w') (fun w' => Keeps [nb] w5 w' ∧ w'.heap[nb]? = some (.cells #[.int .i64 (a : Int), .int .i64 ((u + ns : Nat) : Int), .int .i64 (c : Int)] 66 (0, 0))) (fun _ _ => True) (A := ?A)
    [Is (.pointer (some ⟨nb, 1, none⟩)), Is (.int .i64 (u : Int)), Is (.slice A ls.length cap), Is (.int .i64 (d.size : Int)), Is (.int .i64 (ns : Int)), Is (.int .i64 ((u + ns : Nat) : Int)), Is (.pointer (some ⟨nb, 1, none⟩)), AnyF]
    (by kernel_rfl) (by kernel_rfl) (by kernel_rfl) rfl ?hA ?hC ?ho ?hlast ?hend
  case hA => intro vs; simp only [Reg.fill, if_true, Nat.zero_add, Nat.reduceAdd, Act.put, List.setIfInBounds_toArray, List.set_cons_succ, List.set_cons_zero]; exact rfl
  case hC => exact (Keeps.refl _ _).drew
  case hlast => repeat (first | exact trivial | refine ⟨fun _ _ _ h _ => h, ?_⟩)
  case ho =>
    repeat' apply And.intro
    all_goals
      first
        | exact trivial
        | (intro b vs w' hC hb hd K hK
           have hbb : b = false := by apply hb; decide
           subst hbb
           have hC0 := hC.1 rfl
           try simp only [Reg.Deps, Reg.at_, List.getD_cons_zero, List.getD_cons_succ, Region.binds, true_implies, Is, and_true] at hd
           have hb9 := block_keep HBX.out hC0 (by simp)
           have q1 : w'.cell? ⟨nb, 1, none⟩ = some (.int .i64 (u : Int)) := row_cell hb9 1
           have q2 := row_free hb9 1
           go_simp
           first
             | exact hK _ _ (CB.pre hC0 rfl) trivial rfl
             | skip)
    · refine (HSEC.out w' (HK5.out.trans hC0 (by simp))).mono ?_
      rintro e w'' ⟨rfl, rfl⟩
      exact ⟨_, rfl, hK _ _ (CB.pre hC0 rfl) trivial rfl⟩
    · refine hK _ _ (CB.post ⟨(hC0.mono (by simp)).setCell (by simp) _, ?_⟩) trivial trivial
      rw [row_set hb9 1 _]; rfl
  case hend =>
    intro vs w6 hC hall
    obtain ⟨hk6, hbx6⟩ := hC
    have HBX6 := Lib.hid hbx6
    have HK6 := Lib.hid hk6
    have q2 : w6.cell? ⟨nb, 2, none⟩ = some (.int .i64 (c : Int)) := row_cell hbx6 2
    have f2 := row_free hbx6 2
    clear hall hk6 hbx6 e1
    go_wp2_with fail
    obtain ⟨w7, hw7⟩ : ∃ w7, w7 = w6.setCell ⟨nb, 2, none⟩ (.int .i64 ((c : Int) + (ls.length : Int))) := ⟨_, rfl⟩
    have hk7 : Keeps [nb] w6 w7 := by rw [hw7]; exact (Keeps.refl _ _).setCell (by simp) _
    have hbx7 : w7.heap[nb]? = some (.cells #[.int .i64 (a : Int), .int .i64 ((u + ns : Nat) : Int), .int .i64 ((c : Int) + (ls.length : Int))] 66 (0, 0)) := by rw [hw7, row_set HBX6.out 2 _]; rfl
    rw [← hw7]
    have hk57 : Keeps [nb] w5 w7 := HK6.out.trans hk7 (fun _ h _ => h)
    have HK7 := Lib.hid (show Keeps [] w w7 from ((HK5.out.mono (T := [nb]) (by simp)).trans hk57 (fun _ h _ => h)).mono (fun i hi hl => by simp at hi; have := HNB.out; omega))
    have HGF7 := Lib.hid (HGF5.out.keep hk57 (by have := HNB.out; simp; omega))
    have HFI7 := Lib.hid (HFI5.out.keep hk57 (by have := HNB.out; simp; omega))
    have HBX7 := Lib.hid hbx7
    have HFL7 := Lib.hid (block_lt HGF7.out)
    have HFC7 := Lib.hid (HFI7.out.lt (by rw [HFT.out]; omega))
    have HX7 := Lib.hid (HX.out.keep0 HK7.out)
    have HY7 := Lib.hid (HY.out.keep HK7.out (by simp))
    obtain ⟨r, hr⟩ : ∃ r, r = commitD d g ls := ⟨_, rfl⟩
    have HR := Lib.hid (show r = chg d g ⟨a, u + ns, c + ls.length, false⟩ [(en, L.frame 0 ls d.size), (en, (L.frame 1 ls d.size).take d.size)] by rw [hr, HC.out, HAE.out, HUE.out, HCE.out, HEN.out]; rfl)
    have HRR := Lib.hid hr
    have HENS := Lib.hid (fun w' (hk : Keeps [] w7 w') => HEND.out w' (HK7.out.trans hk (by simp)))
    clear hw7 hk7 hbx7 hk57 hr q2 f2 HC
    refine Reg.wp_region_last 11 [0, 1, 2, 3, 4, 5, 6, 7, 8, 9, 10] (fun w' => Keeps [] w7 w') (fun w' => Chgd w7 h B lp r w') (Keeps (lp :: h.l)) (A := ?A2)
      [Is (.pointer (some ⟨lp, 0, none⟩)), Is (.agg #[.int .i64 (a : Int), .int .i64 ((u + ns : Nat) : Int), .int .i64 ((c : Int) + (ls.length : Int))]), Is (.pointer (some ⟨lp, 0, none⟩)), Is (.int .i64 (en : Int)), Is (.slice (some ⟨gf, 0, none⟩) T T), Is (.agg #[.int .i64 (en : Int), .slice (some ⟨gf, 0, none⟩) T T]),
       Is (.pointer (some ⟨lp, 0, none⟩)), Is (.int .i64 (en : Int)), Is (.slice (some ⟨gc, 0, none⟩) d.size cc), Is (.agg #[.int .i64 (en : Int), .slice (some ⟨gc, 0, none⟩) d.size cc]),
       NewM (lp :: h.l) w7.heap.size 2 77 #[.int .i64 (en : Int), .slice (some ⟨gf, 0, none⟩) T T, .int .i64 (en : Int), .slice (some ⟨gc, 0, none⟩) d.size cc], Is (.int .i64 (r.1 : Int)), Is (.int .i64 (r.1 : Int))]
      (by kernel_rfl) (by kernel_rfl) (by kernel_rfl) rfl ?hA2 ?hC2 ?ho2 ?hlast2 ?hend2
    case hA2 => intro vs; simp only [Reg.fill, if_true, Nat.zero_add, Nat.reduceAdd, Act.put, List.setIfInBounds_toArray, List.set_cons_succ, List.set_cons_zero]; exact rfl
    case hC2 => exact (Keeps.refl _ _).drew
    case hlast2 => repeat (first | exact trivial | refine ⟨Is.keepS, ?_⟩ | refine ⟨NewM.keep, ?_⟩)
    case ho2 =>
      repeat' apply And.intro
      all_goals
        first
          | exact trivial
          | (intro b vs2 w' hC hb hd K hK
             have hbb : b = false := by apply hb; decide
             subst hbb
             have hC0 := hC.1 rfl
             try simp only [Reg.Deps, Reg.at_, List.getD_cons_zero, List.getD_cons_succ, Region.binds, true_implies, Is, and_true] at hd
             have hb9 := block_keep HBX7.out hC0 (by simp)
             have q1 : w'.cell? ⟨nb, 0, none⟩ = some (.int .i64 (a : Int)) := row_cell hb9 0
             have q2 : w'.cell? ⟨nb, 1, none⟩ = some (.int .i64 ((u + ns : Nat) : Int)) := row_cell hb9 1
             have q3 : w'.cell? ⟨nb, 2, none⟩ = some (.int .i64 ((c : Int) + (ls.length : Int))) := row_cell hb9 2
             go_simp
             first
               | exact hK _ _ (CB.pre hC0 rfl) (Keeps.refl _ _) rfl
               | skip)
          | (intro b vs2 w' hC hb hd K hK
             try simp only [Reg.Deps, Reg.at_, List.getD_cons_zero, List.getD_cons_succ, Region.binds, true_implies, Is, and_true] at hd
             go_simp
             exact hK _ _ (hC.same rfl id id) (Keeps.refl _ _) (by first | rfl | exact hd | exact hd.1))
      · refine (HENS.out w' hC0).mono ?_
        rintro e w'' ⟨rfl, hk⟩
        exact ⟨_, rfl, hK _ _ (CB.pre (hC0.trans hk (by simp)) rfl) (hk.mono (by simp)) rfl⟩
      · refine (HENS.out w' hC0).mono ?_
        rintro e w'' ⟨rfl, hk⟩
        exact ⟨_, rfl, hK _ _ (CB.pre (hC0.trans hk (by simp)) rfl) (hk.mono (by simp)) rfl⟩
      · have hs9 := hC0.size
        have hs8 := HK7.out.size
        exact hK _ _ (CB.pre (hC0.alloc _) rfl) ((Keeps.refl _ _).alloc _) ⟨w'.heap.size, rfl, heap_alloc_new _ _, by simp [DH.l]; omega, hs9⟩
      · have hN9 : NewM (lp :: h.l) w7.heap.size 2 77 #[.int .i64 (en : Int), .slice (some ⟨gf, 0, none⟩) T T, .int .i64 (en : Int), .slice (some ⟨gc, 0, none⟩) d.size cc] (vs2 10) w' := by first | exact hd.1 | exact hd.2.1 | exact hd.2.2.1 | exact hd.2.2.2.1 | exact hd.2.2.2.2.1 | exact hd.2.2.2.2.2.1 | exact hd
        obtain ⟨x, hx, hxb, hxn, hxw⟩ := hN9
        rw [hx]
        have hs8 := HK7.out.size
        have hs9 := hC0.size
        have hx9 := block_lt hxb
        have hst9 : StepsIn w' (fun z => w.heap.size ≤ z ∧ z < w'.heap.size) (some ⟨x, 0, none⟩) [(en, L.frame 0 ls d.size), (en, (L.frame 1 ls d.size).take d.size)] := by
          have h7a := HFL7.out
          have h7b := HFC7.out
          have h7c := HNB.out
          refine StepsIn.two hxb ⟨by omega, hx9⟩ ⟨some ⟨gf, 0, none⟩, gf, T, by rw [HFL.out], (HGF7.out.keep hC0 (by simp)).bytes, by rw [HFL.out]; exact Nat.le_refl _, by unfold maxLen; omega, .inr ⟨by omega, by omega⟩⟩
            ⟨some ⟨gc, 0, none⟩, gc, cc, by rw [HFT.out], HFI7.out.keep hC0 (by simp), by rw [HFT.out]; exact hcc, hcm, .inr ⟨by omega, by omega⟩⟩
        have hst8 : ∀ t ∈ [(en, L.frame 0 ls d.size), (en, (L.frame 1 ls d.size).take d.size)], t.1 ≤ 65536 ∧ t.2.length ≤ 17179869184 := fun t ht => by
          simp only [List.mem_cons, List.not_mem_nil, or_false] at ht
          rcases ht with rfl | rfl
          · refine ⟨by simp only []; omega, ?_⟩
            show (L.frame 0 ls d.size).length ≤ _
            rw [HFL.out]; omega
          · refine ⟨by simp only []; omega, ?_⟩
            show ((L.frame 1 ls d.size).take d.size).length ≤ _
            rw [HFT.out]; omega
        have hch := change_any w' h B d lp g ⟨a, u + ns, c + ls.length, false⟩ (fun z => w.heap.size ≤ z ∧ z < w'.heap.size) (some ⟨x, 0, none⟩) 2 _ (HX7.out.keep0 hC0) (HY7.out.keep hC0 (by simp)) HLB.out hst9
          (fun z hz => ⟨by simp [DH.l]; omega, by omega, hz.2⟩) hst8 (by simp) ha (by have := HUE.out; omega)
        rw [← HR.out] at hch
        refine hch.mono ?_
        rintro e w'' ⟨rfl, q⟩
        have hq : Chgd w7 h B lp r w'' := Chgd.first hC0 q
        exact ⟨_, rfl, hK _ _ (CB.post hq) q.1 rfl⟩
    case hend2 =>
      intro vs2 w8 hC hall
      have hv12 : vs2 12 = .int .i64 (r.1 : Int) := by
        have := hall.2.2.2.2.2.2.2.2.2.2.2.2.1
        exact this
      have HW := Lib.hid (Chgd.first HK7.out hC)
      clear hall hC
      go_wp2_with fail
      go_ret
      rw [← HRR.out]
      exact ⟨congrArg Ending.returned hv12, HW.out⟩
theorem commit_any (w : World) (h : DH) (B : Nat → Prop) (d : Dk) (lp : Nat) (g : Lg) (G : Nat → Prop) (A : Option Addr) (cap : Nat) (ls : List (List UInt8)) (x : DskAt w h B d) (y : LogAt w lp h.p g) (hlB : ¬ B lp) (ht : TabAt w)
    (hr : RowsIn w G A ls) (hG : ∀ x, G x → x < w.heap.size) (hb : (L.body ls).length ≤ 1099511627776) (hN : 16 ≤ d.dur.length) (ha : g.area ≤ 1) (hu : g.used ≤ L.cap d.dur.length) (hc : g.count ≤ 1099511627776) :
    Calls Tryd.prog 19 #[.pointer (some ⟨lp, 0, none⟩), .slice A ls.length cap] w (ChangeP w h B lp (commitD d g ls)) := by
  by_cases he : fitErr (L.cap d.dur.length - g.used) d.size ls = 0
  · by_cases h0 : ls = []
    · subst h0; exact commit_none w h B d lp g A cap x y hlB hN ha hu
    · exact commit_some w h B d lp g G A cap ls x y hlB ht hr hG hN ha hu hc he h0
  · exact commit_err w h B d lp g G A cap ls x y hr hb hN hu he
end Go.Proofs.YtgjgnieobbhepaaDoor
