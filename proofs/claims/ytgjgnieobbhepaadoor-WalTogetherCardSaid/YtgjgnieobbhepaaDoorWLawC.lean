/- What the walks over the laws hand on. -/
import Derived.Test.YtgjgnieobbhepaaDoorWKnown
namespace Go.Proofs.YtgjgnieobbhepaaDoor
open Go.RowKit
open Reg (Is Fact CB)

theorem body_small {rs : List (List UInt8)} {m : Nat} (h : ∀ r ∈ rs, List.length r ≤ m) : (L.body rs).length ≤ (4 + m) * rs.length := by
  induction rs with
  | nil => simp [L.body]
  | cons r rs ih =>
    have h1 := h r (by simp)
    have h2 := ih (fun x hx => h x (by simp [hx]))
    rw [L.body_cons_len, List.length_cons, Nat.mul_add]
    omega
theorem fit_small {rs : List (List UInt8)} {s free k : Nat} (hs : 0 < s) (h : ∀ r ∈ rs, List.length r ≤ 255) (hk : rs.length ≤ k) (hf : 9 + 259 * k + s - 1 < (free + 1) * s) : fitErr free s rs = 0 := by
  have hb := body_small h
  have hb' : (L.body rs).length ≤ 259 * k := Nat.le_trans hb (Nat.mul_le_mul_left _ hk)
  unfold fitErr
  rw [if_neg, if_neg]
  · have h1 := L.nsec_bound (rs := rs) hs
    intro hlt
    have h2 : (free + 1) * s ≤ L.nsec rs s * s := Nat.mul_le_mul_right _ hlt
    omega
  · rintro ⟨r, hr, hl⟩
    have := h r hr
    omega
theorem fit_full {rs : List (List UInt8)} {s free : Nat} (hs : 0 < s) (h0 : rs ≠ []) (h : ∀ r ∈ rs, List.length r ≤ 1048576) (hb : free * s < 9 + (L.body rs).length) : fitErr free s rs = 40 := by
  unfold fitErr
  rw [if_neg, if_pos]
  · have h1 := L.nsec_room (rs := rs) h0 hs
    by_cases hlt : free < L.nsec rs s
    · exact hlt
    · have h2 : L.nsec rs s * s ≤ free * s := Nat.mul_le_mul_right _ (by omega)
      omega
  · rintro ⟨r, hr, hl⟩
    have := h r hr
    omega
theorem fit_long {rs : List (List UInt8)} {s free : Nat} (h : ∃ r ∈ rs, 1048576 < List.length r) : fitErr free s rs = 42 := by
  unfold fitErr; rw [if_pos h]
/-- A row of records goes into a call. -/
theorem RowsOwn.fits {w : World} {W : Nat} {v : Value} {rs : List (List UInt8)} (h : RowsOwn w W v rs) : ∃ A cap, v = .slice A rs.length cap ∧ RowsIn w (fun g => W ≤ g) A rs := by
  obtain ⟨A, cap, h1, _, h2, _⟩ := h.form
  exact ⟨A, cap, h1, h2⟩
theorem commit_a_big {w w2 : World} {h : DH} {B : Nat → Prop} {lp : Nat} {d : Dk} {g : Lg} {rs : List (List UInt8)} {l : List UInt8} {gb n : Nat} {t1 : TypeId} (x : Live w h B lp d g rs) (hd : Lit_ d) (ht : TabAt w) (hc : rs.length ≤ 1000) (c : Nat) (t : TypeId) (hl : l.length = n) (hn : n ≤ 4000000)
    (hk2 : Keeps [] (w.alloc (.cells #[.int .u8 97] t1 (1, 2))) w2) (hu : U8At w2 gb l) :
    Calls Tryd.prog 19 #[.pointer (some ⟨lp, 0, none⟩), .slice (some ⟨w2.heap.size, 0, none⟩) 2 c] (w2.alloc (.cells #[.slice (some ⟨w.heap.size, 0, none⟩) 1 1, .slice (some ⟨gb, 0, none⟩) n n] t))
      (CommitP (w2.alloc (.cells #[.slice (some ⟨w.heap.size, 0, none⟩) 1 1, .slice (some ⟨gb, 0, none⟩) n n] t)) h B lp d g rs [[97], l]) := by
  have hk : Keeps [] w2 (w2.alloc (.cells #[.slice (some ⟨w.heap.size, 0, none⟩) 1 1, .slice (some ⟨gb, 0, none⟩) n n] t)) := (Keeps.refl _ _).alloc _
  have hk0 := (((Keeps.refl [] w).alloc (.cells #[.int .u8 97] t1 (1, 2))).trans hk2 (by simp)).trans hk (by simp)
  have hm : n ≤ maxLen := by unfold maxLen; omega
  have b1 : BytesIn (w.alloc (.cells #[.int .u8 97] t1 (1, 2))) w.heap.size (some ⟨w.heap.size, 0, none⟩) [97] := .inr ⟨0, rfl, fun k hk => by
    rw [cell_of_row _ _ _ _ _ _ (heap_alloc_new w _)]
    match k, hk with
    | 0, _ => rfl⟩
  have h1 : 1 ≤ maxLen := by simp [maxLen]
  refine commit_go (ls := [[97], l]) (G := fun _ => True) c (x.keep0 hk0) hd (ht.keep hk0 (by simp)) (.inr ⟨w2.heap.size, 0, rfl, trivial, fun j hj => ?_⟩) (by rw [L.body_cons_len, L.body_cons_len]; simp [L.body]; omega) (by omega)
  rw [row_cell (heap_alloc_new w2 _)]
  match j, hj with
  | 0, _ => exact ⟨_, rfl, _, w.heap.size, 1, rfl, b1.keep (hk2.trans hk (by simp)) (by simp), Nat.le_refl _, h1, .inr trivial⟩
  | 1, _ =>
    refine ⟨_, rfl, ?_⟩
    subst hl
    exact row_elem (hu.keep hk (by simp)) hm
theorem reset_big {w : World} {h : DH} {B : Nat → Prop} {lp : Nat} {d : Dk} {g : Lg} {rs : List (List UInt8)} {l : List UInt8} {gb n : Nat} (x : Live w h B lp d g rs) (hd : Lit_ d) (ht : TabAt w) (c : Nat) (t : TypeId) (hl : l.length = n) (hn : n ≤ 4000000) (hu : U8At w gb l) :
    Calls Tryd.prog 17 #[.pointer (some ⟨lp, 0, none⟩), .slice (some ⟨w.heap.size, 0, none⟩) 1 c] (w.alloc (.cells #[.slice (some ⟨gb, 0, none⟩) n n] t))
      (ResetP (w.alloc (.cells #[.slice (some ⟨gb, 0, none⟩) n n] t)) h B lp d g rs [l]) := by
  have hk : Keeps [] w (w.alloc (.cells #[.slice (some ⟨gb, 0, none⟩) n n] t)) := (Keeps.refl _ _).alloc _
  have hm : n ≤ maxLen := by unfold maxLen; omega
  refine reset_go (ls := [l]) (G := fun _ => True) c (x.keep0 hk) hd (ht.keep hk (by simp)) (.inr ⟨w.heap.size, 0, rfl, trivial, fun j hj => ?_⟩) (by rw [L.body_cons_len]; simp [L.body]; omega)
  match j, hj with
  | 0, _ =>
    rw [row_cell (heap_alloc_new w _)]
    refine ⟨_, rfl, ?_⟩
    subst hl
    exact row_elem (hu.keep hk (by simp)) hm
/-- A law's walk has come to w with a log on a lit disk, all of it made since w0. -/
structure Run (w0 w : World) (h : DH) (B : Nat → Prop) (lp : Nat) (d : Dk) (g : Lg) (rs : List (List UInt8)) : Prop where
  live : Live w h B lp d g rs
  lit : Lit_ d
  keeps : Keeps [] w0 w
  new : w0.heap.size ≤ lp ∧ ∀ x ∈ h.l, w0.heap.size ≤ x
  tab0 : TabAt w0
  pos : 0 < w0.heap.size
namespace Run
variable {w0 w w1 w' : World} {h : DH} {B : Nat → Prop} {lp : Nat} {d : Dk} {g : Lg} {rs ls : List (List UInt8)} {e : Ending}
theorem tab (r : Run w0 w h B lp d g rs) : TabAt w := r.tab0.keep r.keeps (by simp)
theorem zero (r : Run w0 w h B lp d g rs) : 0 ∉ h.l := fun hm => by have := r.new.2 0 hm; have := r.pos; omega
theorem low (r : Run w0 w h B lp d g rs) : ∀ x ∈ lp :: h.l, x < w.heap.size := fun x hx => by
  rcases List.mem_cons.1 hx with rfl | hx
  · exact r.live.log.lt
  · have := r.live.disk.lt
    simp [DH.l] at hx
    omega
theorem step (r : Run w0 w h B lp d g rs) (hk : Keeps [] w w') : Run w0 w' h B lp d g rs := ⟨r.live.keep0 hk, r.lit, r.keeps.trans hk (by simp), r.new, r.tab0, r.pos⟩
theorem on (r : Run w0 w h B lp d g rs) (hk : Keeps (lp :: h.l) w w') : Keeps [] w0 w' :=
  ((r.keeps.mono (T := lp :: h.l) (by simp)).trans hk (fun _ hi _ => hi)).mono (fun i hi hlt => by
    rcases List.mem_cons.1 hi with rfl | hi
    · have := r.new.1; omega
    · have := r.new.2 i hi; omega)
/-- A refused call. -/
theorem cno (r : Run w0 w h B lp d g rs) (x : CommitP w h B lp d g rs ls e w') {n : Nat} (hf : fitErr (L.cap d.dur.length - g.used) d.size ls = n) (hn : n ≠ 0) :
    ∃ B', e = .returned (.int .i64 (n : Int)) ∧ Keeps (lp :: h.l) w w' ∧ Run w0 w' h B' lp d g rs := by
  obtain ⟨m, B', h1, h2, _, h4⟩ := x
  rcases h4 with ⟨_, h5, h6⟩ | ⟨h5, _⟩
  · exact ⟨B', by rw [h1, h5, hf], h2, h6, r.lit, r.on h2, r.new, r.tab0, r.pos⟩
  · omega
theorem cyes (r : Run w0 w h B lp d g rs) (x : CommitP w h B lp d g rs ls e w') (hf : fitErr (L.cap d.dur.length - g.used) d.size ls = 0) :
    ∃ B' d', e = .returned (.int .i64 0) ∧ Keeps (lp :: h.l) w w' ∧ d'.dur.length = d.dur.length ∧ d'.size = d.size ∧ Run w0 w' h B' lp d' ⟨g.area, g.used + L.nsec ls d.size, (rs ++ ls).length, true⟩ (rs ++ ls) := by
  obtain ⟨m, B', h1, h2, _, h4⟩ := x
  rcases h4 with ⟨h5, _⟩ | ⟨_, h5, d', h6, h7, h8⟩
  · exact absurd hf h5
  · exact ⟨B', d', by rw [h1, h5]; rfl, h2, h6.len, h6.size, h8, h7, r.on h2, r.new, r.tab0, r.pos⟩
theorem rno (r : Run w0 w h B lp d g rs) (x : ResetP w h B lp d g rs ls e w') {n : Nat} (hf : fitErr (L.cap d.dur.length) d.size ls = n) (hn : n ≠ 0) :
    ∃ B', e = .returned (.int .i64 (n : Int)) ∧ Keeps (lp :: h.l) w w' ∧ Run w0 w' h B' lp d g rs := by
  obtain ⟨m, B', h1, h2, _, h4⟩ := x
  rcases h4 with ⟨_, h5, h6⟩ | ⟨h5, _⟩
  · exact ⟨B', by rw [h1, h5, hf], h2, h6, r.lit, r.on h2, r.new, r.tab0, r.pos⟩
  · omega
theorem ryes (r : Run w0 w h B lp d g rs) (x : ResetP w h B lp d g rs ls e w') (hf : fitErr (L.cap d.dur.length) d.size ls = 0) :
    ∃ B' d', e = .returned (.int .i64 0) ∧ Keeps (lp :: h.l) w w' ∧ d'.dur.length = d.dur.length ∧ d'.size = d.size ∧ Run w0 w' h B' lp d' ⟨1 - g.area, L.nsec ls d.size, ls.length, true⟩ ls := by
  obtain ⟨m, B', h1, h2, _, h4⟩ := x
  rcases h4 with ⟨h5, _⟩ | ⟨_, h5, d', h6, h7, h8⟩
  · exact absurd hf h5
  · exact ⟨B', d', by rw [h1, h5]; rfl, h2, h6.len, h6.size, h8, h7, r.on h2, r.new, r.tab0, r.pos⟩
/-- Opened once more: the records, the log as it was, and another one. -/
theorem opens (r : Run w0 w h B lp d g rs) : Calls Tryd.prog 13 #[.pointer (some ⟨h.p, 0, none⟩)] w fun e w' =>
    ∃ lp' A c d', e = .returned (.tuple #[.pointer (some ⟨lp', 0, none⟩), .slice A rs.length c, .int .i64 0]) ∧ RowsIn w' (fun x => w.heap.size ≤ x) A rs ∧ Keeps (lp :: h.l) w w' ∧ d'.dur.length = d.dur.length ∧ d'.size = d.size ∧
      Run w0 w' h B lp d' g rs ∧ Run w0 w' h B lp' d' ⟨g.area, g.used, rs.length, false⟩ rs ∧ w.heap.size ≤ lp' := by
  refine (open_live r.live r.lit r.tab r.zero).mono ?_
  rintro e w' ⟨lp', v, d', rfl, hF, hd, hl, hL, hR, hlp, hk⟩
  obtain ⟨A, c, rfl, hrow⟩ := hR.fits
  have hk' : Keeps (lp :: h.l) w w' := hk.mono (fun i hi _ => by simp [hi])
  have hlit : Lit_ d' := ⟨hd, by rw [hF.cut]; exact r.lit.2⟩
  exact ⟨lp', A, c, d', rfl, hrow, hk', hF.len, hF.size, ⟨r.live.again hk hL.disk hF hl, hlit, r.on hk', r.new, r.tab0, r.pos⟩, ⟨hL, hlit, r.on hk', ⟨by have := r.keeps.size; omega, r.new.2⟩, r.tab0, r.pos⟩, hlp⟩
end Run
/-- A new disk and its log. -/
theorem run_new {w0 w : World} {n s : Nat} {e : Ending} {w' : World} (hk : Keeps [] w0 w) (ht : TabAt w0) (hp : 0 < w0.heap.size) (x : NewP w (newD n s) e w') (hn : 16 ≤ n ∧ n ≤ 4096) (hs : 128 ≤ s ∧ s ≤ 4096) :
    ∃ h B, e = .returned (.pointer (some ⟨h.p, 0, none⟩)) ∧ Calls Tryd.prog 13 #[.pointer (some ⟨h.p, 0, none⟩)] w' fun e w2 =>
      ∃ lp A c d, e = .returned (.tuple #[.pointer (some ⟨lp, 0, none⟩), .slice A 0 c, .int .i64 0]) ∧ d.dur.length = n ∧ d.size = s ∧ Run w0 w2 h B lp d ⟨0, 0, 0, false⟩ [] := by
  obtain ⟨h, B, rfl, hx, hh, hB, hk1⟩ := x
  have hk01 := hk.trans hk1 (by simp)
  have hs0 := hk.size
  refine ⟨h, B, rfl, ?_⟩
  refine (open_first hx (ht.keep hk01 (by simp)) (fun hm => by have := hh 0 hm; omega) hn hs).mono ?_
  rintro e w2 ⟨lp, A, c, d, rfl, h1, h2, h3, h4, h5, h6⟩
  have hs1 := hk01.size
  exact ⟨lp, A, c, d, rfl, h1, h2, h4, h3, ((hk01.mono (T := h.l) (by simp)).trans h6 (fun _ hi _ => hi)).mono (fun i hi hlt => by have := hh i hi; omega), ⟨by omega, fun x hx => by have := hh x hx; omega⟩, ht, hp⟩
end Go.Proofs.YtgjgnieobbhepaaDoor
