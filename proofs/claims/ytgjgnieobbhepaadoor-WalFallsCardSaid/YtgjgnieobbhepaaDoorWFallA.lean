/- A log under scheduled failures: each call, a crash, and opening behind it. -/
import Derived.Test.YtgjgnieobbhepaaDoorWKeeps
import Derived.Test.YtgjgnieobbhepaaDoorWTwice
namespace Go.Proofs.YtgjgnieobbhepaaDoor
open Go.RowKit

/-- A log on a disk that has power, which may be scheduled to go. -/
structure RunC (w0 w : World) (h : DH) (B : Nat → Prop) (lp : Nat) (d : Dk) (g : Lg) (rs : List (List UInt8)) (N : Nat) : Prop where
  live : Live w h B lp d g rs
  alive : d.dead = false
  secs : d.dur.length = N
  size : d.size = 256
  keeps : Keeps [] w0 w
  new : w0.heap.size ≤ lp ∧ ∀ x ∈ h.l, w0.heap.size ≤ x
  tab0 : TabAt w0
  pos : 0 < w0.heap.size
/-- What is left where power went: a dead disk, and what a crash may make of it. -/
structure Dead (w0 w : World) (h : DH) (B : Nat → Prop) (d : Dk) (rs next : List (List UInt8)) (N : Nat) : Prop where
  disk : DskAt w h B d
  mid : Mid d N 256 (fun v => (∃ a u, L.Loads N 256 v a u rs) ∨ ∃ a u, L.Loads N 256 v a u next)
  keeps : Keeps [] w0 w
  new : ∀ x ∈ h.l, w0.heap.size ≤ x
  tab0 : TabAt w0
  pos : 0 < w0.heap.size
/-- A disk behind a crash. -/
structure Fell (w0 w : World) (h : DH) (B : Nat → Prop) (d : Dk) (rec : List (List UInt8)) (N : Nat) : Prop where
  disk : DskAt w h B d
  lit : Lit_ d
  secs : d.dur.length = N
  size : d.size = 256
  loads : ∃ a u, L.Loads N 256 d.last a u rec
  keeps : Keeps [] w0 w
  new : ∀ x ∈ h.l, w0.heap.size ≤ x
  tab0 : TabAt w0
  pos : 0 < w0.heap.size
/-- The three ends of a change. -/
def OutC (w0 w' : World) (h : DH) (lp : Nat) (rs next : List (List UInt8)) (N n : Nat) : Prop :=
  (n = 40) ∨ (n = 0 ∧ ∃ B' d' g', RunC w0 w' h B' lp d' g' next N) ∨ (n = 32 ∧ ∃ B' d', d'.dead = true ∧ Dead w0 w' h B' d' rs next N)
section
variable {w0 w w' : World} {h : DH} {B : Nat → Prop} {lp : Nat} {d : Dk} {g : Lg} {rs next rec ls : List (List UInt8)} {N : Nat}
theorem RunC.tab (r : RunC w0 w h B lp d g rs N) : TabAt w := r.tab0.keep r.keeps (by simp)
theorem RunC.low (r : RunC w0 w h B lp d g rs N) : ∀ x ∈ lp :: h.l, x < w.heap.size := fun x hx => by
  rcases List.mem_cons.1 hx with rfl | hx
  · exact r.live.log.lt
  · have := r.live.disk.lt
    simp [DH.l] at hx
    omega
theorem RunC.step (r : RunC w0 w h B lp d g rs N) (hk : Keeps [] w w') : RunC w0 w' h B lp d g rs N := ⟨r.live.keep0 hk, r.alive, r.secs, r.size, r.keeps.trans hk (by simp), r.new, r.tab0, r.pos⟩
theorem RunC.on (r : RunC w0 w h B lp d g rs N) (hk : Keeps (lp :: h.l) w w') : Keeps [] w0 w' :=
  ((r.keeps.mono (T := lp :: h.l) (by simp)).trans hk (fun _ hi _ => hi)).mono (fun i hi hlt => by
    rcases List.mem_cons.1 hi with rfl | hi
    · have := r.new.1; omega
    · have := r.new.2 i hi; omega)
theorem Run.c (r : Run w0 w h B lp d g rs) (hN : d.dur.length = N) (hs : d.size = 256) : RunC w0 w h B lp d g rs N := ⟨r.live, r.lit.1, hN, hs, r.keeps, r.new, r.tab0, r.pos⟩
theorem RunC.cut (r : RunC w0 w h B lp d g rs N) (n : Nat) (hn : n ≤ 1000) : Calls Tryd.prog 21 #[.pointer (some ⟨h.p, 3, none⟩), .int .i64 (n : Int)] w fun e w' => e = .returned (.tuple #[]) ∧ Keeps [h.p] w w' ∧ RunC w0 w' h B lp (d.cutIn n) g rs N := by
  refine (cut_any w h B d r.live.disk (n : Int) (by unfold Wide; omega)).mono ?_
  rintro e w' ⟨rfl, hx, hk⟩
  have hne := r.live.log.ne r.live.disk
  exact ⟨rfl, hk, ⟨hx, r.live.log.keep hk (by simpa using hne.1), r.live.sep, r.live.good.cut n hn⟩, r.alive, r.secs, r.size, r.on (hk.mono (fun y hy _ => by
    have : y = h.p := by simpa using hy
    simp [this, DH.l])), r.new, r.tab0, r.pos⟩
theorem out_of {r : Nat × Dk × Lg} {a u n : Nat} {B' : Nat → Prop} (x : RunC w0 w h B lp d g rs N) (hd : Did d g rs a u next r) (hk : Keeps (lp :: h.l) w w') (hlog : LogAt w' lp h.p r.2.2) (hx : DskAt w' h B' r.2.1) (hB : ∀ y, B' y → B y ∨ w.heap.size ≤ y) (hn : n = r.1) : OutC w0 w' h lp rs next N n := by
  have hsep : ¬ B' lp := fun hq => by rcases hB lp hq with h1 | h1; exact x.live.sep h1; have := x.live.log.lt; omega
  rcases hd with ⟨n0, F, hdead, hg, hgood⟩ | ⟨n0, G⟩
  · exact .inr (.inl ⟨hn.trans n0, B', _, _, ⟨hx, hlog, hsep, hgood⟩, hdead, F.len.trans x.secs, F.size.trans x.size, x.on hk, x.new, x.tab0, x.pos⟩)
  · refine .inr (.inr ⟨hn.trans n0, B', _, G.dead, hx, ⟨G.ok, G.len.trans x.secs, G.size.trans x.size, fun v hv => ?_⟩, x.on hk, x.new.2, x.tab0, x.pos⟩)
    have := G.safe v hv
    rw [x.secs, x.size] at this
    exact this.imp (fun q => ⟨_, _, q⟩) (fun q => ⟨_, _, q⟩)
theorem RunC.commit {G : Nat → Prop} {A : Option Addr} (cap : Nat) (x : RunC w0 w h B lp d g rs N) (hr : RowsIn w G A ls) (h255 : ∀ r ∈ ls, List.length r ≤ 255) (hl : ls.length ≤ 6) (hc : rs.length ≤ 1000) :
    Calls Tryd.prog 19 #[.pointer (some ⟨lp, 0, none⟩), .slice A ls.length cap] w fun e w' => ∃ n : Nat, e = .returned (.int .i64 (n : Int)) ∧ Keeps (lp :: h.l) w w' ∧ OutC w0 w' h lp rs (rs ++ ls) N n := by
  have hb := body_small h255
  refine (commit_live x.live x.tab hr (by omega) (by omega)).mono ?_
  rintro e w' ⟨he, hk, hlog, B', hx, _, hB⟩
  refine ⟨_, he, hk, ?_⟩
  rcases commit_did x.live.good (ls := ls) (by omega) with ⟨e1, e2⟩ | ⟨_, e2⟩
  · rw [x.size] at e1 e2
    exact .inl (by rw [e2]; exact (fit_no h255 e1).1)
  · exact out_of x e2 hk hlog hx hB rfl
theorem RunC.reset {G : Nat → Prop} {A : Option Addr} (cap : Nat) (x : RunC w0 w h B lp d g rs N) (hr : RowsIn w G A ls) (h255 : ∀ r ∈ ls, List.length r ≤ 255) (hl : ls.length ≤ 6) :
    Calls Tryd.prog 17 #[.pointer (some ⟨lp, 0, none⟩), .slice A ls.length cap] w fun e w' => ∃ n : Nat, e = .returned (.int .i64 (n : Int)) ∧ Keeps (lp :: h.l) w w' ∧ OutC w0 w' h lp rs ls N n := by
  have hb := body_small h255
  refine (reset_live x.live x.tab hr (by omega)).mono ?_
  rintro e w' ⟨he, hk, hlog, B', hx, _, hB⟩
  refine ⟨_, he, hk, ?_⟩
  rcases reset_did x.live.good (ls := ls) (by omega) with ⟨e1, e2⟩ | ⟨_, e2⟩
  · rw [x.size] at e1 e2
    exact .inl (by rw [e2]; exact (fit_no h255 e1).1)
  · exact out_of x e2 hk hlog hx hB rfl
theorem Dead.crash (x : Dead w0 w h B d rs next N) (keep : Nat) (hkeep : keep < 18446744073709551616) :
    Calls Tryd.prog 23 #[.pointer (some ⟨h.p, 0, none⟩), .int .u64 (keep : Int), .int .i64 (-1), .int .i64 0] w fun e w' => e = .returned (.tuple #[]) ∧ Keeps h.l w w' ∧ ∃ rec, (rec = rs ∨ rec = next) ∧ Fell w0 w' h B (d.crash keep) rec N := by
  refine (crash_any w h B d x.disk keep hkeep (-1) (by omega)).mono ?_
  rintro e w' ⟨rfl, hx, hk⟩
  obtain ⟨_, h2, h3, _, h5⟩ := crash_facts x.disk.ok keep
  have hk0 : Keeps [] w0 w' := ((x.keeps.mono (T := h.l) (by simp)).trans hk (fun _ hi _ => hi)).mono (fun i hi hlt => by have := x.new i hi; omega)
  refine ⟨rfl, hk, ?_⟩
  rcases x.mid.crash keep with q | q
  · exact ⟨rs, .inl rfl, hx, h5, h2.trans x.mid.2.1, h3.trans x.mid.2.2.1, q, hk0, x.new, x.tab0, x.pos⟩
  · exact ⟨next, .inr rfl, hx, h5, h2.trans x.mid.2.1, h3.trans x.mid.2.2.1, q, hk0, x.new, x.tab0, x.pos⟩
theorem RunC.dead (x : RunC w0 w h B lp d g rs N) : Dead w0 w h B d rs rs N :=
  ⟨x.live.disk, mid_flat x.live.disk.ok x.secs x.size x.live.good.flat (.inl ⟨_, _, by have := x.live.good.loads; rw [x.secs, x.size] at this; exact this⟩), x.keeps, x.new.2, x.tab0, x.pos⟩
theorem Fell.opens (x : Fell w0 w h B d rec N) (hN : 16 ≤ N) :
    Calls Tryd.prog 13 #[.pointer (some ⟨h.p, 0, none⟩)] w fun e w' => ∃ lp A c d' g, e = .returned (.tuple #[.pointer (some ⟨lp, 0, none⟩), .slice A rec.length c, .int .i64 0]) ∧ RowsIn w' (fun y => w.heap.size ≤ y) A rec ∧ Keeps h.l w w' ∧ w.heap.size ≤ lp ∧ RunC w0 w' h B lp d' g rec N := by
  obtain ⟨a, u, hl⟩ := x.loads
  refine (open_go x.disk (x.tab0.keep x.keeps (by simp)) (fun hm => by have := x.new 0 hm; have := x.pos; omega) x.lit.power (by rw [x.secs]; exact hN) (by rw [x.size]; omega) (by rw [x.secs, x.size]; exact hl)).mono ?_
  rintro e w' ⟨lp, v, d', rfl, F, hd, _, hL, hro, hlp, hk⟩
  obtain ⟨A, c, rfl, hrow⟩ := hro.fits
  exact ⟨lp, A, c, d', _, rfl, hrow, hk, hlp, hL, hd, F.len.trans x.secs, F.size.trans x.size, ((x.keeps.mono (T := h.l) (by simp)).trans hk (fun _ hi _ => hi)).mono (fun i hi hlt => by have := x.new i hi; omega), ⟨by have := x.keeps.size; omega, x.new⟩, x.tab0, x.pos⟩
end
end Go.Proofs.YtgjgnieobbhepaaDoor
