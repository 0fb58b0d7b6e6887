/- Merged: WLawC WPair WTogether WApp WActs WKeeps WTwice WFallA -/
import Derived.Test.YtbanpdeganlndaaGreatDoorQ7
import Derived.Test.YtbanpdeganlndaaGreatDoorQ3
namespace Go.Proofs.YtbanpdeganlndaaGreatDoor
open Go.RowKit
open Reg (Is Fact CB)

theorem body_small {rs : List (List UInt8)} {m : Nat} (h : ∀ r ∈ rs, List.length r ≤ m) : (L.body rs).length ≤ (4 + m) * rs.length := by
  induction rs with
  | nil => simp [L.body]
  | cons r rs ih =>
    have h1 := h r (by simp)
    have h2 := ih (fun x hx => h x (by simp [hx]))
    rw [L.body_cons_len, List.length_cons, Nat.mul_add]
    omega
theorem fit_small {rs : List (List UInt8)} {s free k : Nat} (hs : 0 < s) (h : ∀ r ∈ rs, List.length r ≤ 255) (hk : rs.length ≤ k) (hf : 9 + 259 * k + s - 1 < (free + 1) * s) : fitErr free s rs = 0 := by
  have hb := body_small h
  have hb' : (L.body rs).length ≤ 259 * k := Nat.le_trans hb (Nat.mul_le_mul_left _ hk)
  unfold fitErr
  rw [if_neg, if_neg]
  · have h1 := L.nsec_bound (rs := rs) hs
    intro hlt
    have h2 : (free + 1) * s ≤ L.nsec rs s * s := Nat.mul_le_mul_right _ hlt
    omega
  · rintro ⟨r, hr, hl⟩
    have := h r hr
    omega
theorem fit_full {rs : List (List UInt8)} {s free : Nat} (hs : 0 < s) (h0 : rs ≠ []) (h : ∀ r ∈ rs, List.length r ≤ 1048576) (hb : free * s < 9 + (L.body rs).length) : fitErr free s rs = 40 := by
  unfold fitErr
  rw [if_neg, if_pos]
  · have h1 := L.nsec_room (rs := rs) h0 hs
    by_cases hlt : free < L.nsec rs s
    · exact hlt
    · have h2 : L.nsec rs s * s ≤ free * s := Nat.mul_le_mul_right _ (by omega)
      omega
  · rintro ⟨r, hr, hl⟩
    have := h r hr
    omega
theorem fit_long {rs : List (List UInt8)} {s free : Nat} (h : ∃ r ∈ rs, 1048576 < List.length r) : fitErr free s rs = 42 := by
  unfold fitErr; rw [if_pos h]
/-- A row of records goes into a call. -/
theorem RowsOwn.fits {w : World} {W : Nat} {v : Value} {rs : List (List UInt8)} (h : RowsOwn w W v rs) : ∃ A cap, v = .slice A rs.length cap ∧ RowsIn w (fun g => W ≤ g) A rs := by
  obtain ⟨A, cap, h1, _, h2, _⟩ := h.form
  exact ⟨A, cap, h1, h2⟩
theorem commit_a_big {w w2 : World} {h : DH} {B : Nat → Prop} {lp : Nat} {d : Dk} {g : Lg} {rs : List (List UInt8)} {l : List UInt8} {gb n : Nat} {t1 : TypeId} (x : Live w h B lp d g rs) (hd : Lit_ d) (ht : TabAt w) (hc : rs.length ≤ 1000) (c : Nat) (t : TypeId) (hl : l.length = n) (hn : n ≤ 4000000)
    (hk2 : Keeps [] (w.alloc (.cells #[.int .u8 97] t1 (1, 2))) w2) (hu : U8At w2 gb l) :
    Calls Tryz.prog 60 #[.pointer (some ⟨lp, 0, none⟩), .slice (some ⟨w2.heap.size, 0, none⟩) 2 c] (w2.alloc (.cells #[.slice (some ⟨w.heap.size, 0, none⟩) 1 1, .slice (some ⟨gb, 0, none⟩) n n] t))
      (CommitP (w2.alloc (.cells #[.slice (some ⟨w.heap.size, 0, none⟩) 1 1, .slice (some ⟨gb, 0, none⟩) n n] t)) h B lp d g rs [[97], l]) := by
  have hk : Keeps [] w2 (w2.alloc (.cells #[.slice (some ⟨w.heap.size, 0, none⟩) 1 1, .slice (some ⟨gb, 0, none⟩) n n] t)) := (Keeps.refl _ _).alloc _
  have hk0 := (((Keeps.refl [] w).alloc (.cells #[.int .u8 97] t1 (1, 2))).trans hk2 (by simp)).trans hk (by simp)
  have hm : n ≤ maxLen := by unfold maxLen; omega
  have b1 : BytesIn (w.alloc (.cells #[.int .u8 97] t1 (1, 2))) w.heap.size (some ⟨w.heap.size, 0, none⟩) [97] := .inr ⟨0, rfl, fun k hk => by
    rw [cell_of_row _ _ _ _ _ _ (heap_alloc_new w _)]
    match k, hk with
    | 0, _ => rfl⟩
  have h1 : 1 ≤ maxLen := by simp [maxLen]
  refine commit_go (ls := [[97], l]) (G := fun _ => True) c (x.keep0 hk0) hd (ht.keep hk0 (by simp)) (.inr ⟨w2.heap.size, 0, rfl, trivial, fun j hj => ?_⟩) (by rw [L.body_cons_len, L.body_cons_len]; simp [L.body]; omega) (by omega)
  rw [row_cell (heap_alloc_new w2 _)]
  match j, hj with
  | 0, _ => exact ⟨_, rfl, _, w.heap.size, 1, rfl, b1.keep (hk2.trans hk (by simp)) (by simp), Nat.le_refl _, h1, .inr trivial⟩
  | 1, _ =>
    refine ⟨_, rfl, ?_⟩
    subst hl
    exact row_elem (hu.keep hk (by simp)) hm
theorem reset_big {w : World} {h : DH} {B : Nat → Prop} {lp : Nat} {d : Dk} {g : Lg} {rs : List (List UInt8)} {l : List UInt8} {gb n : Nat} (x : Live w h B lp d g rs) (hd : Lit_ d) (ht : TabAt w) (c : Nat) (t : TypeId) (hl : l.length = n) (hn : n ≤ 4000000) (hu : U8At w gb l) :
    Calls Tryz.prog 53 #[.pointer (some ⟨lp, 0, none⟩), .slice (some ⟨w.heap.size, 0, none⟩) 1 c] (w.alloc (.cells #[.slice (some ⟨gb, 0, none⟩) n n] t))
      (ResetP (w.alloc (.cells #[.slice (some ⟨gb, 0, none⟩) n n] t)) h B lp d g rs [l]) := by
  have hk : Keeps [] w (w.alloc (.cells #[.slice (some ⟨gb, 0, none⟩) n n] t)) := (Keeps.refl _ _).alloc _
  have hm : n ≤ maxLen := by unfold maxLen; omega
  refine reset_go (ls := [l]) (G := fun _ => True) c (x.keep0 hk) hd (ht.keep hk (by simp)) (.inr ⟨w.heap.size, 0, rfl, trivial, fun j hj => ?_⟩) (by rw [L.body_cons_len]; simp [L.body]; omega)
  match j, hj with
  | 0, _ =>
    rw [row_cell (heap_alloc_new w _)]
    refine ⟨_, rfl, ?_⟩
    subst hl
    exact row_elem (hu.keep hk (by simp)) hm
/-- A law's walk has come to w with a log on a lit disk, all of it made since w0. -/
structure Run (w0 w : World) (h : DH) (B : Nat → Prop) (lp : Nat) (d : Dk) (g : Lg) (rs : List (List UInt8)) : Prop where
  live : Live w h B lp d g rs
  lit : Lit_ d
  keeps : Keeps [] w0 w
  new : w0.heap.size ≤ lp ∧ ∀ x ∈ h.l, w0.heap.size ≤ x
  tab0 : TabAt w0
  pos : 1 < w0.heap.size
namespace Run
variable {w0 w w1 w' : World} {h : DH} {B : Nat → Prop} {lp : Nat} {d : Dk} {g : Lg} {rs ls : List (List UInt8)} {e : Ending}
theorem tab (r : Run w0 w h B lp d g rs) : TabAt w := r.tab0.keep r.keeps (by simp)
theorem zero (r : Run w0 w h B lp d g rs) : 1 ∉ h.l := fun hm => by have := r.new.2 1 hm; have := r.pos; omega
theorem low (r : Run w0 w h B lp d g rs) : ∀ x ∈ lp :: h.l, x < w.heap.size := fun x hx => by
  rcases List.mem_cons.1 hx with rfl | hx
  · exact r.live.log.lt
  · have := r.live.disk.lt
    simp [DH.l] at hx
    omega
theorem step (r : Run w0 w h B lp d g rs) (hk : Keeps [] w w') : Run w0 w' h B lp d g rs := ⟨r.live.keep0 hk, r.lit, r.keeps.trans hk (by simp), r.new, r.tab0, r.pos⟩
theorem on (r : Run w0 w h B lp d g rs) (hk : Keeps (lp :: h.l) w w') : Keeps [] w0 w' :=
  ((r.keeps.mono (T := lp :: h.l) (by simp)).trans hk (fun _ hi _ => hi)).mono (fun i hi hlt => by
    rcases List.mem_cons.1 hi with rfl | hi
    · have := r.new.1; omega
    · have := r.new.2 i hi; omega)
/-- A refused call. -/
theorem cno (r : Run w0 w h B lp d g rs) (x : CommitP w h B lp d g rs ls e w') {n : Nat} (hf : fitErr (L.cap d.dur.length - g.used) d.size ls = n) (hn : n ≠ 0) :
    ∃ B', e = .returned (.int .i64 (n : Int)) ∧ Keeps (lp :: h.l) w w' ∧ Run w0 w' h B' lp d g rs := by
  obtain ⟨m, B', h1, h2, _, h4⟩ := x
  rcases h4 with ⟨_, h5, h6⟩ | ⟨h5, _⟩
  · exact ⟨B', by rw [h1, h5, hf], h2, h6, r.lit, r.on h2, r.new, r.tab0, r.pos⟩
  · omega
theorem cyes (r : Run w0 w h B lp d g rs) (x : CommitP w h B lp d g rs ls e w') (hf : fitErr (L.cap d.dur.length - g.used) d.size ls = 0) :
    ∃ B' d', e = .returned (.int .i64 0) ∧ Keeps (lp :: h.l) w w' ∧ d'.dur.length = d.dur.length ∧ d'.size = d.size ∧ Run w0 w' h B' lp d' ⟨g.area, g.used + L.nsec ls d.size, (rs ++ ls).length, true⟩ (rs ++ ls) := by
  obtain ⟨m, B', h1, h2, _, h4⟩ := x
  rcases h4 with ⟨h5, _⟩ | ⟨_, h5, d', h6, h7, h8⟩
  · exact absurd hf h5
  · exact ⟨B', d', by rw [h1, h5]; rfl, h2, h6.len, h6.size, h8, h7, r.on h2, r.new, r.tab0, r.pos⟩
theorem rno (r : Run w0 w h B lp d g rs) (x : ResetP w h B lp d g rs ls e w') {n : Nat} (hf : fitErr (L.cap d.dur.length) d.size ls = n) (hn : n ≠ 0) :
    ∃ B', e = .returned (.int .i64 (n : Int)) ∧ Keeps (lp :: h.l) w w' ∧ Run w0 w' h B' lp d g rs := by
  obtain ⟨m, B', h1, h2, _, h4⟩ := x
  rcases h4 with ⟨_, h5, h6⟩ | ⟨h5, _⟩
  · exact ⟨B', by rw [h1, h5, hf], h2, h6, r.lit, r.on h2, r.new, r.tab0, r.pos⟩
  · omega
theorem ryes (r : Run w0 w h B lp d g rs) (x : ResetP w h B lp d g rs ls e w') (hf : fitErr (L.cap d.dur.length) d.size ls = 0) :
    ∃ B' d', e = .returned (.int .i64 0) ∧ Keeps (lp :: h.l) w w' ∧ d'.dur.length = d.dur.length ∧ d'.size = d.size ∧ Run w0 w' h B' lp d' ⟨1 - g.area, L.nsec ls d.size, ls.length, true⟩ ls := by
  obtain ⟨m, B', h1, h2, _, h4⟩ := x
  rcases h4 with ⟨h5, _⟩ | ⟨_, h5, d', h6, h7, h8⟩
  · exact absurd hf h5
  · exact ⟨B', d', by rw [h1, h5]; rfl, h2, h6.len, h6.size, h8, h7, r.on h2, r.new, r.tab0, r.pos⟩
/-- Opened once more: the records, the log as it was, and another one. -/
theorem opens (r : Run w0 w h B lp d g rs) : Calls Tryz.prog 28 #[.pointer (some ⟨h.p, 0, none⟩)] w fun e w' =>
    ∃ lp' A c d', e = .returned (.tuple #[.pointer (some ⟨lp', 0, none⟩), .slice A rs.length c, .int .i64 0]) ∧ RowsIn w' (fun x => w.heap.size ≤ x) A rs ∧ Keeps (lp :: h.l) w w' ∧ d'.dur.length = d.dur.length ∧ d'.size = d.size ∧
      Run w0 w' h B lp d' g rs ∧ Run w0 w' h B lp' d' ⟨g.area, g.used, rs.length, false⟩ rs ∧ w.heap.size ≤ lp' := by
  refine (open_live r.live r.lit r.tab r.zero).mono ?_
  rintro e w' ⟨lp', v, d', rfl, hF, hd, hl, hL, hR, hlp, hk⟩
  obtain ⟨A, c, rfl, hrow⟩ := hR.fits
  have hk' : Keeps (lp :: h.l) w w' := hk.mono (fun i hi _ => by simp [hi])
  have hlit : Lit_ d' := ⟨hd, by rw [hF.cut]; exact r.lit.2⟩
  exact ⟨lp', A, c, d', rfl, hrow, hk', hF.len, hF.size, ⟨r.live.again hk hL.disk hF hl, hlit, r.on hk', r.new, r.tab0, r.pos⟩, ⟨hL, hlit, r.on hk', ⟨by have := r.keeps.size; omega, r.new.2⟩, r.tab0, r.pos⟩, hlp⟩
end Run
/-- A new disk and its log. -/
theorem run_new {w0 w : World} {n s : Nat} {e : Ending} {w' : World} (hk : Keeps [] w0 w) (ht : TabAt w0) (hp : 1 < w0.heap.size) (x : NewP w (newD n s) e w') (hn : 16 ≤ n ∧ n ≤ 4096) (hs : 128 ≤ s ∧ s ≤ 4096) :
    ∃ h B, e = .returned (.pointer (some ⟨h.p, 0, none⟩)) ∧ Calls Tryz.prog 28 #[.pointer (some ⟨h.p, 0, none⟩)] w' fun e w2 =>
      ∃ lp A c d, e = .returned (.tuple #[.pointer (some ⟨lp, 0, none⟩), .slice A 0 c, .int .i64 0]) ∧ d.dur.length = n ∧ d.size = s ∧ Run w0 w2 h B lp d ⟨0, 0, 0, false⟩ [] := by
  obtain ⟨h, B, rfl, hx, hh, hB, hk1⟩ := x
  have hk01 := hk.trans hk1 (by simp)
  have hs0 := hk.size
  refine ⟨h, B, rfl, ?_⟩
  refine (open_first hx (ht.keep hk01 (by simp)) (fun hm => by have := hh 1 hm; omega) hn hs).mono ?_
  rintro e w2 ⟨lp, A, c, d, rfl, h1, h2, h3, h4, h5, h6⟩
  have hs1 := hk01.size
  exact ⟨lp, A, c, d, rfl, h1, h2, h4, h3, ((hk01.mono (T := h.l) (by simp)).trans h6 (fun _ hi _ => hi)).mono (fun i hi hlt => by have := hh i hi; omega), ⟨by omega, fun x hx => by have := hh x hx; omega⟩, ht, hp⟩
end Go.Proofs.YtbanpdeganlndaaGreatDoor
namespace Go.Proofs.YtbanpdeganlndaaGreatDoor
open Go.RowKit

/-- None of S is the log's. -/
def Off (S : List Nat) (h : DH) (B : Nat → Prop) (lp : Nat) : Prop := ∀ y ∈ S, y ∉ h.l ∧ ¬ B y ∧ y ≠ lp
theorem Off.grow {S : List Nat} {h : DH} {B B' : Nat → Prop} {lp : Nat} {w : World} (x : Off S h B lp) (hB : ∀ y, B' y → B y ∨ w.heap.size ≤ y) (hS : ∀ y ∈ S, y < w.heap.size) : Off S h B' lp := fun y hy =>
  ⟨(x y hy).1, fun hb => by
    rcases hB y hb with h1 | h1
    · exact (x y hy).2.1 h1
    · have := hS y hy; omega, (x y hy).2.2⟩
theorem Run.other {w0 w w' : World} {h : DH} {B : Nat → Prop} {lp : Nat} {d : Dk} {g : Lg} {rs : List (List UInt8)} {S : List Nat} (r : Run w0 w h B lp d g rs) (hk : Keeps S w w') (hS : Off S h B lp) (hw : Keeps [] w0 w') : Run w0 w' h B lp d g rs := ⟨r.live.keep hk hS, r.lit, hw, r.new, r.tab0, r.pos⟩
theorem Run.cyes' {w0 w w' : World} {h : DH} {B : Nat → Prop} {lp : Nat} {d : Dk} {g : Lg} {rs ls : List (List UInt8)} {e : Ending} (r : Run w0 w h B lp d g rs) (x : CommitP w h B lp d g rs ls e w') (hf : fitErr (L.cap d.dur.length - g.used) d.size ls = 0) :
    ∃ B' d', e = .returned (.int .i64 0) ∧ Keeps (lp :: h.l) w w' ∧ d'.dur.length = d.dur.length ∧ d'.size = d.size ∧ Run w0 w' h B' lp d' ⟨g.area, g.used + L.nsec ls d.size, (rs ++ ls).length, true⟩ (rs ++ ls) ∧ (∀ y, B' y → B y ∨ w.heap.size ≤ y) := by
  obtain ⟨m, B', h1, h2, h3, h4⟩ := x
  rcases h4 with ⟨h5, _⟩ | ⟨_, h5, d', h6, h7, h8⟩
  · exact absurd hf h5
  · exact ⟨B', d', by rw [h1, h5]; rfl, h2, h6.len, h6.size, ⟨h8, h7, r.on h2, r.new, r.tab0, r.pos⟩, h3⟩
theorem fit_nil (free s : Nat) : fitErr free s [] = 0 := by unfold fitErr; rw [if_neg (by simp), L.nsec_nil, if_neg (by omega)]
/-- Two new disks, the first one opened, and then the second one. -/
theorem two_start {w0 w wA wB : World} {n s : Nat} {h1 h2 : DH} {B1 B2 : Nat → Prop} (hk : Keeps [] w0 w) (ht : TabAt w0) (hp : 1 < w0.heap.size)
    (x1 : DskAt wA h1 B1 (newD n s)) (l1 : ∀ y ∈ h1.l, w.heap.size ≤ y) (b1 : ∀ y, B1 y → w.heap.size ≤ y) (k1 : Keeps [] w wA)
    (x2 : DskAt wB h2 B2 (newD n s)) (l2 : ∀ y ∈ h2.l, wA.heap.size ≤ y) (b2 : ∀ y, B2 y → wA.heap.size ≤ y) (k2 : Keeps [] wA wB) (hn : 16 ≤ n ∧ n ≤ 4096) (hs : 128 ≤ s ∧ s ≤ 4096) :
    Calls Tryz.prog 28 #[.pointer (some ⟨h1.p, 0, none⟩)] wB fun e wC =>
      ∃ lp1 A1 c1, e = .returned (.tuple #[.pointer (some ⟨lp1, 0, none⟩), .slice A1 0 c1, .int .i64 0]) ∧ Calls Tryz.prog 28 #[.pointer (some ⟨h2.p, 0, none⟩)] wC fun e wD =>
        ∃ lp2 A2 c2 d1 d2, e = .returned (.tuple #[.pointer (some ⟨lp2, 0, none⟩), .slice A2 0 c2, .int .i64 0]) ∧ d1.dur.length = n ∧ d1.size = s ∧ d2.dur.length = n ∧ d2.size = s ∧
          Run w0 wD h1 B1 lp1 d1 ⟨0, 0, 0, false⟩ [] ∧ Run w0 wD h2 B2 lp2 d2 ⟨0, 0, 0, false⟩ [] ∧ Off (lp1 :: h1.l) h2 B2 lp2 ∧ Off (lp2 :: h2.l) h1 B1 lp1 := by
  have s0 := hk.size
  have s1 := k1.size
  have s2 := k2.size
  have k0B : Keeps [] w0 wB := (hk.trans k1 (by simp)).trans k2 (by simp)
  have hh1 : ∀ y ∈ h1.l, y < wA.heap.size := fun y hy => by
    have := x1.lt
    simp [DH.l] at hy
    omega
  have hh2 : ∀ y ∈ h2.l, y < wB.heap.size := fun y hy => by
    have := x2.lt
    simp [DH.l] at hy
    omega
  refine (open_first (x1.keep0 k2) (ht.keep k0B (by simp)) (fun hm => by have := l1 1 hm; omega) hn hs).mono ?_
  rintro e wC ⟨lp1, A1, c1, d1, rfl, e1, e2, e3, L1, q1, k3⟩
  refine ⟨lp1, A1, c1, rfl, ?_⟩
  have k0C : Keeps [] w0 wC := ((k0B.mono (T := h1.l) (by simp)).trans k3 (fun _ hi _ => hi)).mono (fun i hi _ => by have := l1 i hi; omega)
  have s3 := k3.size
  have x2C : DskAt wC h2 B2 (newD n s) := x2.keep k3 (fun y hy => by
    have := hh1 y hy
    exact ⟨fun hm => by have := l2 y hm; omega, fun hb => by have := b2 y hb; omega⟩)
  refine (open_first x2C (ht.keep k0C (by simp)) (fun hm => by have := l2 1 hm; omega) hn hs).mono ?_
  rintro e wD ⟨lp2, A2, c2, d2, rfl, f1, f2, f3, L2, q2, k4⟩
  have k0D : Keeps [] w0 wD := ((k0C.mono (T := h2.l) (by simp)).trans k4 (fun _ hi _ => hi)).mono (fun i hi _ => by have := l2 i hi; omega)
  have lpl := L1.log.lt
  have low1 : ∀ y, B1 y → y < wA.heap.size := x1.low
  have low2 : ∀ y, B2 y → y < wB.heap.size := x2.low
  have o1 : Off (lp1 :: h1.l) h2 B2 lp2 := fun y hy => by
    rcases List.mem_cons.1 hy with rfl | hy
    · exact ⟨fun hm => by have := hh2 _ hm; omega, fun hb => by have := low2 _ hb; omega, by omega⟩
    · have := hh1 y hy
      exact ⟨fun hm => by have := l2 y hm; omega, fun hb => by have := b2 y hb; omega, by omega⟩
  have o2 : Off (lp2 :: h2.l) h1 B1 lp1 := fun y hy => by
    rcases List.mem_cons.1 hy with rfl | hy
    · exact ⟨fun hm => by have := hh1 _ hm; omega, fun hb => by have := low1 _ hb; omega, by omega⟩
    · have := l2 y hy
      have := hh2 y hy
      exact ⟨fun hm => by have := hh1 y hm; omega, fun hb => by have := low1 y hb; omega, by omega⟩
  have L1D : Live wD h1 B1 lp1 d1 ⟨0, 0, 0, false⟩ [] := L1.keep k4 (fun y hy => o2 y (List.mem_cons_of_mem _ hy))
  exact ⟨lp2, A2, c2, d1, d2, rfl, e1, e2, f1, f2, ⟨L1D, e3, k0D, ⟨by omega, fun y hy => by have := l1 y hy; omega⟩, ht, hp⟩, ⟨L2, f3, k0D, ⟨by omega, fun y hy => by have := l2 y hy; omega⟩, ht, hp⟩, o1, o2⟩
end Go.Proofs.YtbanpdeganlndaaGreatDoor
namespace Go.Proofs.YtbanpdeganlndaaGreatDoor
open Go.RowKit
open Reg (Is Fact CB)

theorem RowsOwn.fits2 {w : World} {W : Nat} {v : Value} {rs : List (List UInt8)} (h : RowsOwn w W v rs) : ∃ A cap, v = .slice A rs.length cap ∧ RowsIn w (fun g => W ≤ g) A rs ∧ rs.length ≤ cap := by
  obtain ⟨A, cap, hv, h2⟩ := h.fits
  refine ⟨A, cap, hv, h2, ?_⟩
  obtain ⟨xs, ho, _⟩ := h
  rcases ho.2 with ⟨_, h0⟩ | ⟨g, cap', cur, hv', _, _, hn, _⟩
  · omega
  · rw [hv] at hv'
    injection hv' with _ _ hc
    rw [hc]; exact hn
theorem rows_part {b off len cap i n : Nat} (h1 : i + n ≤ cap) (h0 : i < cap) (w : World) : (Instr.slice 49 (.slice (some ⟨b, off, none⟩) len cap) (some (.int .i64 (i : Int))) (some (.int .i64 ((i : Int) + (n : Int)))) none).run Tryz.prog w = .ok (.slice (some ⟨b, off + i, none⟩) n (cap - i)) w := by
  have := run_slice_lh (P := Tryz.prog) w 49 (some ⟨b, off, none⟩) len cap elemRows .i64 .i64 (i : Int) ((i : Int) + (n : Int)) (by omega) (by omega) (by omega)
  rw [this]
  have hs : (sizeOf (Tryz.prog.elem 49)).run Tryz.prog w = .ok 1 w := by kernel_rfl
  rw [hs]
  have hne : ¬ cap = i := by omega
  have e1 : ((i : Int) + (n : Int) - (i : Int)).toNat = n := by omega
  simp [Result.andThen, sliced, hne, Addr.add_lit]
  omega
theorem RowsIn.part {w : World} {G : Nat → Prop} {b off : Nat} {ls : List (List UInt8)} (h : RowsIn w G (some ⟨b, off, none⟩) ls) (i n : Nat) : RowsIn w G (some ⟨b, off + i, none⟩) ((ls.drop i).take n) := by
  rcases h with h | ⟨b', off', hA, hb, hc⟩
  · subst h; exact .inl (by simp)
  · cases hA
    refine .inr ⟨b, off + i, rfl, hb, fun j hj => ?_⟩
    have hj' : i + j < ls.length := by simp at hj; omega
    obtain ⟨v, h1, h2⟩ := hc (i + j) hj'
    refine ⟨v, by rw [Nat.add_assoc]; exact h1, ?_⟩
    have e : ((ls.drop i).take n)[j] = ls[i + j] := by simp
    rw [e]; exact h2
theorem take_part {rs : List (List UInt8)} {i n : Nat} : rs.take i ++ (rs.drop i).take n = rs.take (i + n) := by
  rw [List.take_add]
theorem cap200 (u k : Nat) (h : u ≤ 48) (hk : k ≤ 12) : 9 + 259 * k + 256 - 1 < (L.cap 200 - u + 1) * 256 := by
  have : L.cap 200 = 98 := by decide
  have : 50 * 256 ≤ (L.cap 200 - u + 1) * 256 := Nat.mul_le_mul_right _ (by omega)
  omega
theorem nsec_few {rs : List (List UInt8)} (h : ∀ r ∈ rs, List.length r ≤ 255) (hk : rs.length ≤ 3) : L.nsec rs 256 ≤ 4 := by
  have hb := body_small h
  have h1 := L.nsec_bound (rs := rs) (s := 256) (by omega)
  omega
end Go.Proofs.YtbanpdeganlndaaGreatDoor
namespace Go.Proofs.YtbanpdeganlndaaGreatDoor
open Go.RowKit

/-- The cells of a row of records. -/
theorem RowsIn.news {w : World} {G : Nat → Prop} {b off : Nat} {ls : List (List UInt8)} (h : RowsIn w G (some ⟨b, off, none⟩) ls) : ∃ news : List Value, news.length = ls.length ∧ (∀ j u, news[j]? = some u → w.cell? ((⟨b, off, none⟩ : Addr).add j) = some u) ∧ ∀ j (hj : j < ls.length), ∃ x, news[j]? = some x ∧ ElV w G x ls[j] := by
  rcases h with h | ⟨b', off', hA, hb, hc⟩
  · subst h; exact ⟨[], rfl, fun j u hj => by simp at hj, fun j hj => by simp at hj⟩
  · cases hA
    refine ⟨(List.range ls.length).map fun j => (w.cell? ⟨b, off + j, none⟩).getD (Value.slice none 0 0), by simp, fun j u hj => ?_, fun j hj => ?_⟩
    · have hjl : j < ls.length := by
        have := (List.getElem?_eq_some_iff.1 hj).1
        simpa using this
      obtain ⟨v, h1, _⟩ := hc j hjl
      rw [List.getElem?_map, List.getElem?_range hjl] at hj
      rw [Addr.add_lit, h1]
      simpa [h1] using hj
    · obtain ⟨v, h1, h2⟩ := hc j hj
      exact ⟨v, by rw [List.getElem?_map, List.getElem?_range hj]; simp [h1], h2⟩
theorem append_rows (w : World) (W : Nat) (v : Value) (rs ls : List (List UInt8)) (A : Option Addr) (c : Nat) (G : Nat → Prop) (h : RowsOwn w W v rs) (hx : RowsIn w G A ls) (hG : ∀ y, G y → W ≤ y ∧ v.ownBlock ≠ some y) (hA : A = none → ls = []) (hlen : rs.length + ls.length ≤ 1000000) (hW : W ≤ w.heap.size) :
    ∃ v' w', (Builtin.append_ #[49, 49] 49 #[v, .slice A ls.length c]).run Tryz.prog w = .ok v' w' ∧ RowsOwn w' W v' (rs ++ ls) ∧ w.grownBy w' v.ownBlock ∧ (v'.ownBlock = v.ownBlock ∨ v'.ownBlock = some w.heap.size) := by
  obtain ⟨iS, hS, hS0, hS1, hS2⟩ := info_parts infoSl
  obtain ⟨xs, ho, he⟩ := h
  by_cases hl0 : ls = []
  · subst hl0
    refine ⟨v, w, ?_, by rw [List.append_nil]; exact ⟨xs, ho, he⟩, World.grownBy.refl _ _, .inl rfl⟩
    rcases ho.2 with ⟨rfl, h0⟩ | ⟨g, cap, cur, rfl, _, _, hn, _⟩
    · cases A <;> simp [Builtin.append_, run_underlying Tryz.underlying49, sizeOf, typeInfo, hS, Builtin.lenOf, Builtin.firstCells, loadCells, loadCellsFrom]
    · cases A <;> simp [Builtin.append_, run_underlying Tryz.underlying49, sizeOf, typeInfo, hS, Builtin.lenOf, Builtin.firstCells, loadCells, loadCellsFrom, hn, storeCells, Result.andThen]
  · obtain ⟨b, off, rfl⟩ : ∃ b off, A = some ⟨b, off, none⟩ := by
      rcases hx with h | ⟨b, off, h, _⟩
      · exact absurd h hl0
      · exact ⟨b, off, h⟩
    obtain ⟨news, n1, n2, n3⟩ := hx.news
    have hone : ∀ u ∈ news, u.oneCell' = true := fun u hu => by
      obtain ⟨j, hj, hju⟩ := List.getElem_of_mem hu
      obtain ⟨x, h1, h2⟩ := n3 j (by omega)
      obtain ⟨A', g', cap', hv', _⟩ := h2
      have : u = x := by
        have h3 : news[j]? = some u := by rw [List.getElem?_eq_getElem hj, hju]
        rw [h3] at h1; exact Option.some.inj h1
      rw [this, hv']; rfl
    obtain ⟨v', w', hr, h2, h3, _, h5⟩ := run_append_own_at (P := Tryz.prog) w W 49 49 62 iS (.slice none 0 0) 1 24 Tryz.underlying49 hS hS0 hS1 hS2 rfl (by decide) v rs.length xs ho ⟨b, off, none⟩ ls.length c news (by omega) n2 hone (by unfold maxLen; omega) (by omega) hW
    refine ⟨v', w', hr, ?_, h3, h5⟩
    exact RowsOwn.more ho he (fun j hj => by
      obtain ⟨x, q1, q2⟩ := n3 j hj
      exact ⟨x, q1, q2.mono hG⟩) h2 h3 h5
theorem wpList_append_rows {w : World} {ops : Array Oper} {rest : List Oper} {o : Oper} {a : Act} {Q : Exit → Act → World → Prop} (hgd : o.guard = none) (s x : Operand)
    (ho : o.op = .call { callee := .builtin .append, args := #[s, x], argTypes := #[49, 49] }) (hty : o.type = 49)
    (W : Nat) (v : Value) (rs ls : List (List UInt8)) (A : Option Addr) (c : Nat) (G : Nat → Prop) (hs : a.eval s = v) (hx0 : a.eval x = .slice A ls.length c)
    (h : RowsOwn w W v rs) (hx : RowsIn w G A ls) (hG : ∀ y, G y → W ≤ y ∧ v.ownBlock ≠ some y) (hA : A = none → ls = []) (hlen : rs.length + ls.length ≤ 1000000) (hW : W ≤ w.heap.size)
    (hK : ∀ v' w', RowsOwn w' W v' (rs ++ ls) → w.grownBy w' v.ownBlock → (v'.ownBlock = v.ownBlock ∨ v'.ownBlock = some w.heap.size) → wpList Tryz.prog ops Q rest (a.put o.dst v') w') :
    wpList Tryz.prog ops Q (o :: rest) a w := by
  refine wpList_plain hgd fun K hK' => ?_
  obtain ⟨v', w', hr, h2, h3, h4⟩ := append_rows w W v rs ls A c G h hx hG hA hlen hW
  unfold Oper.wp execOp
  simp only [ho, hty, resolve, invoke, builtin, Sem.run_bind, Sem.run_pure, Result.andThen_ok, List.map_toArray, List.map_cons, List.map_nil, hs, hx0, hr]
  exact hK' _ _ (hK v' w' h2 h3 h4)

/-! ### A crash -/
theorem crash_facts {d : Dk} (ok : d.Ok) (keep : Nat) : (d.crash keep).Ok ∧ (d.crash keep).dur.length = d.dur.length ∧ (d.crash keep).size = d.size ∧ (∀ i, (d.crash keep).fr i = none) ∧ Lit_ (d.crash keep) :=
  ⟨Dk.ok_crash ok keep, by simp [Dk.crash, Dk.settle, Dk.lose], rfl, fun _ => rfl, rfl, rfl⟩
theorem crash_flat {d : Dk} (ok : d.Ok) (hf : ∀ i, d.fr i = none) (keep : Nat) : (d.crash keep).last = d.last := by
  funext i
  rcases L.mix_crash ok keep i with h | h | ⟨k, b, h, _⟩
  · rw [h, L.last_none (hf i)]
  · rw [hf i] at h; cases h
  · rw [hf i] at h; cases h
theorem cutIn_facts {d : Dk} (ok : d.Ok) (n : Nat) (hn : n ≤ 1000) : (d.cutIn n).Ok ∧ (d.cutIn n).last = d.last ∧ (d.cutIn n).dur = d.dur ∧ (d.cutIn n).size = d.size ∧ (d.cutIn n).fr = d.fr := by
  refine ⟨⟨ok.size, ok.secs, ok.len, ok.fr, ?_⟩, rfl, rfl, rfl, rfl⟩
  show (max (n : Int) 0).toNat ≤ _
  omega
theorem flush_facts {d : Dk} (ok : d.Ok) (hf : ∀ i, d.fr i = none) : d.flush.Ok ∧ d.flush.last = d.last ∧ d.flush.dur.length = d.dur.length ∧ d.flush.size = d.size ∧ (∀ i, d.flush.fr i = none) := by
  cases hp : d.power with
  | true =>
    obtain ⟨_, h1, h2, h3, h4, _, _, h5⟩ := L.flush_flat ok hp
    exact ⟨h1, funext h5, h3, h2, h4⟩
  | false =>
    have e : d.flush = d.drawn := by unfold Dk.flush; rw [if_neg (by rw [hp]; simp)]
    obtain ⟨s1, s2, s3⟩ := Dk.drawn_same d
    refine ⟨Dk.ok_flush ok, ?_, by rw [e, s2], by rw [e, s1], fun i => by rw [e, s3]; exact hf i⟩
    funext i
    rw [e]; unfold Dk.last; rw [s2, s3]
end Go.Proofs.YtbanpdeganlndaaGreatDoor
namespace Go.Proofs.YtbanpdeganlndaaGreatDoor
open Go.RowKit
open Reg (Is Fact CB)

/-- A script in memory: each act's number and lengths. -/
def ActsIn (w : World) (A : Option Addr) (l : List (Int × List UInt8)) : Prop := l = [] ∨ ∃ b off, A = some ⟨b, off, none⟩ ∧ ∀ k (h : k < l.length), ∃ B cap g, w.cell? ⟨b, off + k * 2, none⟩ = some (.int .i64 l[k].1) ∧ w.cell? ⟨b, off + k * 2 + 1, none⟩ = some (.slice B l[k].2.length cap) ∧ BytesIn w g B l[k].2
theorem ActsIn.keep0 {w w' : World} {A : Option Addr} {l : List (Int × List UInt8)} (h : ActsIn w A l) (hk : Keeps [] w w') : ActsIn w' A l := by
  rcases h with h | ⟨b, off, hA, hc⟩
  · exact .inl h
  · refine .inr ⟨b, off, hA, fun k hk' => ?_⟩
    obtain ⟨B, cap, g, h1, h2, h3⟩ := hc k hk'
    exact ⟨B, cap, g, hk.cell_some h1 (by simp), hk.cell_some h2 (by simp), h3.keep hk (by simp)⟩
def Light (l : List (Int × List UInt8)) : Prop := l.length ≤ 30 ∧ ∀ a ∈ l, List.length a.2 ≤ 6
instance (l : List (Int × List UInt8)) : Decidable (Light l) := by unfold Light; exact inferInstance
/-- The sum that size reckons. -/
def sz (rs : List (List UInt8)) : Nat := (rs.map fun r => List.length r + 16).sum
theorem sz_take {rs : List (List UInt8)} {k : Nat} (h : k < rs.length) : sz (rs.take (k + 1)) = sz (rs.take k) + (rs[k].length + 16) := by
  unfold sz
  rw [List.take_succ_eq_append_getElem h, List.map_append, List.sum_append]
  simp
theorem sz_body (rs : List (List UInt8)) : (L.body rs).length ≤ sz rs ∧ 12 * rs.length + (L.body rs).length ≤ sz rs := by
  induction rs with
  | nil => simp [L.body, sz]
  | cons r rs ih =>
    have e : sz (r :: rs) = r.length + 16 + sz rs := by simp [sz]
    rw [e, L.body_cons_len, List.length_cons]
    omega
theorem sz_le {rs : List (List UInt8)} {m : Nat} (h : ∀ r ∈ rs, List.length r ≤ m) : sz rs ≤ (m + 16) * rs.length := by
  induction rs with
  | nil => simp [sz]
  | cons r rs ih =>
    have h1 := h r (by simp)
    have h2 := ih (fun x hx => h x (by simp [hx]))
    have e : sz (r :: rs) = r.length + 16 + sz rs := by simp [sz]
    rw [e, List.length_cons, Nat.mul_add]
    omega
/-- A row of records whose own blocks keep G. -/
def RowsBy (w : World) (G : Nat → Prop) (v : Value) (rs : List (List UInt8)) : Prop :=
  ∃ xs, w.ownsRow 0 62 1 v rs.length xs ∧ ∀ j (h : j < rs.length), ∃ x, xs[j]? = some x ∧ ElV w G x rs[j]
theorem RowsBy.nil (w : World) (G : Nat → Prop) : RowsBy w G (.slice none 0 0) [] := ⟨[], World.ownsRow_nil w 0 _ 1, fun j h => by simp at h⟩
theorem RowsBy.form {w : World} {G : Nat → Prop} {v : Value} {rs : List (List UInt8)} (h : RowsBy w G v rs) : ∃ A cap, v = .slice A rs.length cap ∧ (A = none → rs = []) ∧ RowsIn w (fun y => G y ∨ v.ownBlock = some y) A rs := by
  obtain ⟨xs, ho, he⟩ := h
  rcases ho.2 with ⟨hv, h0⟩ | ⟨g, cap, cur, hv, hb, hg, hn, hm, _⟩
  · have hr : rs = [] := List.eq_nil_of_length_eq_zero h0
    exact ⟨none, 0, by rw [hv, h0], fun _ => hr, .inl hr⟩
  · refine ⟨some ⟨g, 0, none⟩, cap, hv, (fun e => by cases e), .inr ⟨g, 0, rfl, .inr (by rw [hv]; rfl), fun j hj => ?_⟩⟩
    obtain ⟨x, h1, h2⟩ := he j hj
    have := ho.cells (g := g) (by rw [hv]; rfl) j x h1
    rw [Addr.add_lit] at this
    exact ⟨x, this, h2.mono (fun y hy => .inl hy)⟩
theorem RowsBy.own_lt {w : World} {G : Nat → Prop} {v : Value} {rs : List (List UInt8)} (h : RowsBy w G v rs) {g : Nat} (hg : v.ownBlock = some g) : g < w.heap.size := by
  obtain ⟨xs, ho, _⟩ := h
  rcases ho.2 with ⟨hv, h0⟩ | ⟨g', cap, cur, hv, hb, hgg, hn, hm, _⟩
  · rw [hv] at hg; simp [Value.ownBlock] at hg
  · rw [hv] at hg
    have : g' = g := by simpa [Value.ownBlock] using hg
    subst this
    exact block_lt hgg
theorem append_by (w : World) (v : Value) (rs ls : List (List UInt8)) (A : Option Addr) (c : Nat) (G : Nat → Prop) (h : RowsBy w G v rs) (hx : RowsIn w G A ls) (hG : ∀ y, G y → v.ownBlock ≠ some y) (hlen : rs.length + ls.length ≤ 1000000) :
    ∃ v' w', (Builtin.append_ #[49, 49] 49 #[v, .slice A ls.length c]).run Tryz.prog w = .ok v' w' ∧ RowsBy w' G v' (rs ++ ls) ∧ w.grownBy w' v.ownBlock ∧ (v'.ownBlock = v.ownBlock ∨ v'.ownBlock = some w.heap.size) := by
  obtain ⟨iS, hS, hS0, hS1, hS2⟩ := info_parts infoSl
  obtain ⟨xs, ho, he⟩ := h
  have hxl : xs.length = rs.length := by simpa using ho.1
  by_cases hl0 : ls = []
  · subst hl0
    refine ⟨v, w, ?_, by rw [List.append_nil]; exact ⟨xs, ho, he⟩, World.grownBy.refl _ _, .inl rfl⟩
    rcases ho.2 with ⟨rfl, h0⟩ | ⟨g, cap, cur, rfl, _, _, hn, _⟩
    · cases A <;> simp [Builtin.append_, run_underlying Tryz.underlying49, sizeOf, typeInfo, hS, Builtin.lenOf, Builtin.firstCells, loadCells, loadCellsFrom]
    · cases A <;> simp [Builtin.append_, run_underlying Tryz.underlying49, sizeOf, typeInfo, hS, Builtin.lenOf, Builtin.firstCells, loadCells, loadCellsFrom, hn, storeCells, Result.andThen]
  · obtain ⟨b, off, rfl⟩ : ∃ b off, A = some ⟨b, off, none⟩ := by
      rcases hx with h | ⟨b, off, h, _⟩
      · exact absurd h hl0
      · exact ⟨b, off, h⟩
    obtain ⟨news, n1, n2, n3⟩ := hx.news
    have hone : ∀ u ∈ news, u.oneCell' = true := fun u hu => by
      obtain ⟨j, hj, hju⟩ := List.getElem_of_mem hu
      obtain ⟨x, h1, h2⟩ := n3 j (by omega)
      obtain ⟨A', g', cap', hv', _⟩ := h2
      have : u = x := by
        have h3 : news[j]? = some u := by rw [List.getElem?_eq_getElem hj, hju]
        rw [h3] at h1; exact Option.some.inj h1
      rw [this, hv']; rfl
    obtain ⟨v', w', hr, h2, h3, _, h5⟩ := run_append_own_at (P := Tryz.prog) w 0 49 49 62 iS (.slice none 0 0) 1 24 Tryz.underlying49 hS hS0 hS1 hS2 rfl (by decide) v rs.length xs ho ⟨b, off, none⟩ ls.length c news (by omega) n2 hone (by unfold maxLen; omega) (by omega) (Nat.zero_le _)
    refine ⟨v', w', hr, ⟨xs ++ news, by rw [List.length_append]; exact h2, fun j hj => ?_⟩, h3, h5⟩
    have step : ∀ {x : Value} {l : List UInt8}, ElV w G x l → ElV w' G x l := fun h => h.grown h3 (fun y hy => hG y hy) (fun _ hy => hy)
    by_cases hl : j < rs.length
    · obtain ⟨x, q1, q2⟩ := he j hl
      refine ⟨x, by rw [List.getElem?_append_left (by omega)]; exact q1, ?_⟩
      rw [List.getElem_append_left hl]; exact step q2
    · have hj' : j - rs.length < ls.length := by rw [List.length_append] at hj; omega
      obtain ⟨x, q1, q2⟩ := n3 (j - rs.length) hj'
      refine ⟨x, by rw [List.getElem?_append_right (by omega), hxl]; exact q1, ?_⟩
      rw [List.getElem_append_right (by omega)]; exact step q2
theorem wpList_append_by {w : World} {ops : Array Oper} {rest : List Oper} {o : Oper} {a : Act} {Q : Exit → Act → World → Prop} (hgd : o.guard = none) (s x : Operand)
    (ho : o.op = .call { callee := .builtin .append, args := #[s, x], argTypes := #[49, 49] }) (hty : o.type = 49)
    (v : Value) (rs ls : List (List UInt8)) (A : Option Addr) (c : Nat) (G : Nat → Prop) (hs : a.eval s = v) (hx0 : a.eval x = .slice A ls.length c)
    (h : RowsBy w G v rs) (hx : RowsIn w G A ls) (hG : ∀ y, G y → v.ownBlock ≠ some y) (hlen : rs.length + ls.length ≤ 1000000)
    (hK : ∀ v' w', RowsBy w' G v' (rs ++ ls) → w.grownBy w' v.ownBlock → (v'.ownBlock = v.ownBlock ∨ v'.ownBlock = some w.heap.size) → wpList Tryz.prog ops Q rest (a.put o.dst v') w') :
    wpList Tryz.prog ops Q (o :: rest) a w := by
  refine wpList_plain hgd fun K hK' => ?_
  obtain ⟨v', w', hr, h2, h3, h4⟩ := append_by w v rs ls A c G h hx hG hlen
  unfold Oper.wp execOp
  simp only [ho, hty, resolve, invoke, builtin, Sem.run_bind, Sem.run_pure, Result.andThen_ok, List.map_toArray, List.map_cons, List.map_nil, hs, hx0, hr]
  exact hK' _ _ (hK v' w' h2 h3 h4)
end Go.Proofs.YtbanpdeganlndaaGreatDoor
namespace Go.Proofs.YtbanpdeganlndaaGreatDoor
open Go.RowKit
open Reg (Is Fact CB)

theorem cap_half (N : Nat) : N ≤ 2 * L.cap N + 4 ∧ L.cap N ≤ N := by unfold L.cap L.sp; omega
theorem fit_no {rs : List (List UInt8)} {free : Nat} (h : ∀ r ∈ rs, List.length r ≤ 255) (hf : fitErr free 256 rs ≠ 0) : fitErr free 256 rs = 40 ∧ free * 256 ≤ sz rs + 8 := by
  have hb := (sz_body rs).1
  unfold fitErr at hf ⊢
  have hn : ¬ ∃ r ∈ rs, 1048576 < List.length r := by
    rintro ⟨r, hr, hl⟩
    have := h r hr
    omega
  rw [if_neg hn] at hf ⊢
  split at hf
  · rename_i hlt
    rw [if_pos hlt]
    have h1 := L.nsec_bound (rs := rs) (s := 256) (by omega)
    have h2 : (free + 1) * 256 ≤ L.nsec rs 256 * 256 := Nat.mul_le_mul_right _ hlt
    omega
  · exact absurd rfl hf
theorem fit_yes {rs : List (List UInt8)} {free : Nat} (hf : fitErr free 256 rs = 0) : L.nsec rs 256 ≤ free ∧ L.nsec rs 256 * 256 ≤ sz rs + 264 := by
  have hb := (sz_body rs).1
  have h1 := L.nsec_bound (rs := rs) (s := 256) (by omega)
  exact ⟨(fitErr_zero hf).2, by omega⟩
theorem RowsIn.mono {w : World} {G G' : Nat → Prop} {A : Option Addr} {ls : List (List UInt8)} (h : RowsIn w G A ls) (hG : ∀ x, G x → G' x) : RowsIn w G' A ls := h.keep (Keeps.refl [] w) (by simp) hG
end Go.Proofs.YtbanpdeganlndaaGreatDoor
namespace Go.Proofs.YtbanpdeganlndaaGreatDoor
open Go.RowKit
open Reg (Is Fact CB)

theorem cap120 : L.cap 120 = 58 := by decide
theorem loads_eq {N s a u : Nat} {v v' : Nat → List UInt8} {rs : List (List UInt8)} (h : L.Loads N s v a u rs) (e : v' = v) : L.Loads N s v' a u rs := by rw [e]; exact h
/-- Good goes on under a scheduled failure. -/
theorem Good.cut {d : Dk} {g : Lg} {rs : List (List UInt8)} (h : Good d g rs) (n : Nat) (hn : n ≤ 1000) : Good (d.cutIn n) g rs := by
  obtain ⟨h1, h2, h3, h4, h5⟩ := cutIn_facts h.ok n hn
  exact ⟨h1, by rw [h3]; exact h.secs, by rw [h4]; exact h.size, fun i => by rw [h5]; exact h.flat i, by rw [h2, h3, h4]; exact h.loads, fun e => by rw [h2, h3, h4]; exact h.sure e, h.count⟩
/-- What a change of a log may have left, before a crash. -/
def Mid (d : Dk) (N s : Nat) (P : (Nat → List UInt8) → Prop) : Prop := d.Ok ∧ d.dur.length = N ∧ d.size = s ∧ ∀ v, L.Mix d v → P v
theorem Mid.crash {d : Dk} {N s : Nat} {P : (Nat → List UInt8) → Prop} (h : Mid d N s P) (keep : Nat) : P (d.crash keep).last := h.2.2.2 _ (L.mix_crash h.1 keep)
theorem mid_flat {d : Dk} {N s : Nat} {P : (Nat → List UInt8) → Prop} (ok : d.Ok) (hN : d.dur.length = N) (hs : d.size = s) (hf : ∀ i, d.fr i = none) (hp : P d.last) : Mid d N s P := ⟨ok, hN, hs, fun v hv => by
  have e : v = d.last := by
    funext i
    rcases hv i with h | h | ⟨k, b, h, _⟩
    · rw [h, L.last_none (hf i)]
    · rw [hf i] at h; cases h
    · rw [hf i] at h; cases h
  rw [e]; exact hp⟩
/-- A commit that fits, whatever the power: it is done, or power went and all or none of it is there. -/
theorem commit_mid {d : Dk} {g : Lg} {rs ls : List (List UInt8)} (h : Good d g rs) (hb : (L.body ls).length < 4294967296) (hf : fitErr (L.cap d.dur.length - g.used) d.size ls = 0) :
    ((commitD d g ls).1 = 0 ∧ Mid (commitD d g ls).2.1 d.dur.length d.size (fun v => ∃ a u, L.Loads d.dur.length d.size v a u (rs ++ ls))) ∨
    ((commitD d g ls).1 = 32 ∧ Mid (commitD d g ls).2.1 d.dur.length d.size (fun v => (∃ a u, L.Loads d.dur.length d.size v a u rs) ∨ ∃ a u, L.Loads d.dur.length d.size v a u (rs ++ ls))) := by
  rcases commit_did h hb (ls := ls) with ⟨e1, _⟩ | ⟨_, e2⟩
  · exact absurd hf e1
  · rcases e2 with ⟨n0, F, _, _, G⟩ | ⟨n0, G⟩
    · exact .inl ⟨n0, mid_flat F.ok F.len F.size F.fr ⟨_, _, by have := G.loads; rw [F.len, F.size] at this; exact this⟩⟩
    · exact .inr ⟨n0, G.ok, G.len, G.size, fun v hv => by
        rcases G.safe v hv with h | h
        · exact .inl ⟨_, _, h⟩
        · exact .inr ⟨_, _, h⟩⟩
/-- Open, whatever the power. -/
theorem open_some {w : World} {h : DH} {B : Nat → Prop} {d : Dk} (x : DskAt w h B d) (ht : TabAt w) (hh0 : 1 ∉ h.l) (hN : 16 ≤ d.dur.length) (hs : 128 ≤ d.size) :
    Calls Tryz.prog 28 #[.pointer (some ⟨h.p, 0, none⟩)] w fun e w' => ∃ p v n, e = .returned (.tuple #[p, v, .int .i64 n]) ∧ DskAt w' h B d.flush ∧ Keeps h.l w w' := by
  refine (open_any w h B d x ht x.low hh0).mono ?_
  intro e w' ho
  unfold OpenP at ho
  rw [if_neg (by omega)] at ho
  split at ho
  · obtain ⟨rfl, h1, h2⟩ := ho
    exact ⟨_, _, _, rfl, h1, h2⟩
  · obtain ⟨lp, a, u, rs, v, rfl, h1, _, _, _, _, h2⟩ := ho
    exact ⟨_, _, _, rfl, h1, h2⟩
end Go.Proofs.YtbanpdeganlndaaGreatDoor
namespace Go.Proofs.YtbanpdeganlndaaGreatDoor
open Go.RowKit

/-- A log on a disk that has power, which may be scheduled to go. -/
structure RunC (w0 w : World) (h : DH) (B : Nat → Prop) (lp : Nat) (d : Dk) (g : Lg) (rs : List (List UInt8)) (N : Nat) : Prop where
  live : Live w h B lp d g rs
  alive : d.dead = false
  secs : d.dur.length = N
  size : d.size = 256
  keeps : Keeps [] w0 w
  new : w0.heap.size ≤ lp ∧ ∀ x ∈ h.l, w0.heap.size ≤ x
  tab0 : TabAt w0
  pos : 1 < w0.heap.size
/-- What is left where power went: a dead disk, and what a crash may make of it. -/
structure Dead (w0 w : World) (h : DH) (B : Nat → Prop) (d : Dk) (rs next : List (List UInt8)) (N : Nat) : Prop where
  disk : DskAt w h B d
  mid : Mid d N 256 (fun v => (∃ a u, L.Loads N 256 v a u rs) ∨ ∃ a u, L.Loads N 256 v a u next)
  keeps : Keeps [] w0 w
  new : ∀ x ∈ h.l, w0.heap.size ≤ x
  tab0 : TabAt w0
  pos : 1 < w0.heap.size
/-- A disk behind a crash. -/
structure Fell (w0 w : World) (h : DH) (B : Nat → Prop) (d : Dk) (rec : List (List UInt8)) (N : Nat) : Prop where
  disk : DskAt w h B d
  lit : Lit_ d
  secs : d.dur.length = N
  size : d.size = 256
  loads : ∃ a u, L.Loads N 256 d.last a u rec
  keeps : Keeps [] w0 w
  new : ∀ x ∈ h.l, w0.heap.size ≤ x
  tab0 : TabAt w0
  pos : 1 < w0.heap.size
/-- The three ends of a change. -/
def OutC (w0 w' : World) (h : DH) (lp : Nat) (rs next : List (List UInt8)) (N n : Nat) : Prop :=
  (n = 40) ∨ (n = 0 ∧ ∃ B' d' g', RunC w0 w' h B' lp d' g' next N) ∨ (n = 32 ∧ ∃ B' d', d'.dead = true ∧ Dead w0 w' h B' d' rs next N)
section
variable {w0 w w' : World} {h : DH} {B : Nat → Prop} {lp : Nat} {d : Dk} {g : Lg} {rs next rec ls : List (List UInt8)} {N : Nat}
theorem RunC.tab (r : RunC w0 w h B lp d g rs N) : TabAt w := r.tab0.keep r.keeps (by simp)
theorem RunC.low (r : RunC w0 w h B lp d g rs N) : ∀ x ∈ lp :: h.l, x < w.heap.size := fun x hx => by
  rcases List.mem_cons.1 hx with rfl | hx
  · exact r.live.log.lt
  · have := r.live.disk.lt
    simp [DH.l] at hx
    omega
theorem RunC.step (r : RunC w0 w h B lp d g rs N) (hk : Keeps [] w w') : RunC w0 w' h B lp d g rs N := ⟨r.live.keep0 hk, r.alive, r.secs, r.size, r.keeps.trans hk (by simp), r.new, r.tab0, r.pos⟩
theorem RunC.on (r : RunC w0 w h B lp d g rs N) (hk : Keeps (lp :: h.l) w w') : Keeps [] w0 w' :=
  ((r.keeps.mono (T := lp :: h.l) (by simp)).trans hk (fun _ hi _ => hi)).mono (fun i hi hlt => by
    rcases List.mem_cons.1 hi with rfl | hi
    · have := r.new.1; omega
    · have := r.new.2 i hi; omega)
theorem Run.c (r : Run w0 w h B lp d g rs) (hN : d.dur.length = N) (hs : d.size = 256) : RunC w0 w h B lp d g rs N := ⟨r.live, r.lit.1, hN, hs, r.keeps, r.new, r.tab0, r.pos⟩
theorem RunC.cut (r : RunC w0 w h B lp d g rs N) (n : Nat) (hn : n ≤ 1000) : Calls Tryz.prog 18 #[.pointer (some ⟨h.p, 3, none⟩), .int .i64 (n : Int)] w fun e w' => e = .returned (.tuple #[]) ∧ Keeps [h.p] w w' ∧ RunC w0 w' h B lp (d.cutIn n) g rs N := by
  refine (cut_any w h B d r.live.disk (n : Int) (by unfold Wide; omega)).mono ?_
  rintro e w' ⟨rfl, hx, hk⟩
  have hne := r.live.log.ne r.live.disk
  exact ⟨rfl, hk, ⟨hx, r.live.log.keep hk (by simpa using hne.1), r.live.sep, r.live.good.cut n hn⟩, r.alive, r.secs, r.size, r.on (hk.mono (fun y hy _ => by
    have : y = h.p := by simpa using hy
    simp [this, DH.l])), r.new, r.tab0, r.pos⟩
theorem out_of {r : Nat × Dk × Lg} {a u n : Nat} {B' : Nat → Prop} (x : RunC w0 w h B lp d g rs N) (hd : Did d g rs a u next r) (hk : Keeps (lp :: h.l) w w') (hlog : LogAt w' lp h.p r.2.2) (hx : DskAt w' h B' r.2.1) (hB : ∀ y, B' y → B y ∨ w.heap.size ≤ y) (hn : n = r.1) : OutC w0 w' h lp rs next N n := by
  have hsep : ¬ B' lp := fun hq => by rcases hB lp hq with h1 | h1; exact x.live.sep h1; have := x.live.log.lt; omega
  rcases hd with ⟨n0, F, hdead, hg, hgood⟩ | ⟨n0, G⟩
  · exact .inr (.inl ⟨hn.trans n0, B', _, _, ⟨hx, hlog, hsep, hgood⟩, hdead, F.len.trans x.secs, F.size.trans x.size, x.on hk, x.new, x.tab0, x.pos⟩)
  · refine .inr (.inr ⟨hn.trans n0, B', _, G.dead, hx, ⟨G.ok, G.len.trans x.secs, G.size.trans x.size, fun v hv => ?_⟩, x.on hk, x.new.2, x.tab0, x.pos⟩)
    have := G.safe v hv
    rw [x.secs, x.size] at this
    exact this.imp (fun q => ⟨_, _, q⟩) (fun q => ⟨_, _, q⟩)
theorem RunC.commit {G : Nat → Prop} {A : Option Addr} (cap : Nat) (x : RunC w0 w h B lp d g rs N) (hr : RowsIn w G A ls) (h255 : ∀ r ∈ ls, List.length r ≤ 255) (hl : ls.length ≤ 6) (hc : rs.length ≤ 1000) :
    Calls Tryz.prog 60 #[.pointer (some ⟨lp, 0, none⟩), .slice A ls.length cap] w fun e w' => ∃ n : Nat, e = .returned (.int .i64 (n : Int)) ∧ Keeps (lp :: h.l) w w' ∧ OutC w0 w' h lp rs (rs ++ ls) N n := by
  have hb := body_small h255
  refine (commit_live x.live x.tab hr (by omega) (by omega)).mono ?_
  rintro e w' ⟨he, hk, hlog, B', hx, _, hB⟩
  refine ⟨_, he, hk, ?_⟩
  rcases commit_did x.live.good (ls := ls) (by omega) with ⟨e1, e2⟩ | ⟨_, e2⟩
  · rw [x.size] at e1 e2
    exact .inl (by rw [e2]; exact (fit_no h255 e1).1)
  · exact out_of x e2 hk hlog hx hB rfl
theorem RunC.reset {G : Nat → Prop} {A : Option Addr} (cap : Nat) (x : RunC w0 w h B lp d g rs N) (hr : RowsIn w G A ls) (h255 : ∀ r ∈ ls, List.length r ≤ 255) (hl : ls.length ≤ 6) :
    Calls Tryz.prog 53 #[.pointer (some ⟨lp, 0, none⟩), .slice A ls.length cap] w fun e w' => ∃ n : Nat, e = .returned (.int .i64 (n : Int)) ∧ Keeps (lp :: h.l) w w' ∧ OutC w0 w' h lp rs ls N n := by
  have hb := body_small h255
  refine (reset_live x.live x.tab hr (by omega)).mono ?_
  rintro e w' ⟨he, hk, hlog, B', hx, _, hB⟩
  refine ⟨_, he, hk, ?_⟩
  rcases reset_did x.live.good (ls := ls) (by omega) with ⟨e1, e2⟩ | ⟨_, e2⟩
  · rw [x.size] at e1 e2
    exact .inl (by rw [e2]; exact (fit_no h255 e1).1)
  · exact out_of x e2 hk hlog hx hB rfl
theorem Dead.crash (x : Dead w0 w h B d rs next N) (keep : Nat) (hkeep : keep < 18446744073709551616) :
    Calls Tryz.prog 20 #[.pointer (some ⟨h.p, 0, none⟩), .int .u64 (keep : Int), .int .i64 (-1), .int .i64 0] w fun e w' => e = .returned (.tuple #[]) ∧ Keeps h.l w w' ∧ ∃ rec, (rec = rs ∨ rec = next) ∧ Fell w0 w' h B (d.crash keep) rec N := by
  refine (crash_any w h B d x.disk keep hkeep (-1) (by omega)).mono ?_
  rintro e w' ⟨rfl, hx, hk⟩
  obtain ⟨_, h2, h3, _, h5⟩ := crash_facts x.disk.ok keep
  have hk0 : Keeps [] w0 w' := ((x.keeps.mono (T := h.l) (by simp)).trans hk (fun _ hi _ => hi)).mono (fun i hi hlt => by have := x.new i hi; omega)
  refine ⟨rfl, hk, ?_⟩
  rcases x.mid.crash keep with q | q
  · exact ⟨rs, .inl rfl, hx, h5, h2.trans x.mid.2.1, h3.trans x.mid.2.2.1, q, hk0, x.new, x.tab0, x.pos⟩
  · exact ⟨next, .inr rfl, hx, h5, h2.trans x.mid.2.1, h3.trans x.mid.2.2.1, q, hk0, x.new, x.tab0, x.pos⟩
theorem RunC.dead (x : RunC w0 w h B lp d g rs N) : Dead w0 w h B d rs rs N :=
  ⟨x.live.disk, mid_flat x.live.disk.ok x.secs x.size x.live.good.flat (.inl ⟨_, _, by have := x.live.good.loads; rw [x.secs, x.size] at this; exact this⟩), x.keeps, x.new.2, x.tab0, x.pos⟩
theorem Fell.opens (x : Fell w0 w h B d rec N) (hN : 16 ≤ N) :
    Calls Tryz.prog 28 #[.pointer (some ⟨h.p, 0, none⟩)] w fun e w' => ∃ lp A c d' g, e = .returned (.tuple #[.pointer (some ⟨lp, 0, none⟩), .slice A rec.length c, .int .i64 0]) ∧ RowsIn w' (fun y => w.heap.size ≤ y) A rec ∧ Keeps h.l w w' ∧ w.heap.size ≤ lp ∧ RunC w0 w' h B lp d' g rec N := by
  obtain ⟨a, u, hl⟩ := x.loads
  refine (open_go x.disk (x.tab0.keep x.keeps (by simp)) (fun hm => by have := x.new 1 hm; have := x.pos; omega) x.lit.power (by rw [x.secs]; exact hN) (by rw [x.size]; omega) (by rw [x.secs, x.size]; exact hl)).mono ?_
  rintro e w' ⟨lp, v, d', rfl, F, hd, _, hL, hro, hlp, hk⟩
  obtain ⟨A, c, rfl, hrow⟩ := hro.fits
  exact ⟨lp, A, c, d', _, rfl, hrow, hk, hlp, hL, hd, F.len.trans x.secs, F.size.trans x.size, ((x.keeps.mono (T := h.l) (by simp)).trans hk (fun _ hi _ => hi)).mono (fun i hi hlt => by have := x.new i hi; omega), ⟨by have := x.keeps.size; omega, x.new⟩, x.tab0, x.pos⟩
end
end Go.Proofs.YtbanpdeganlndaaGreatDoor
