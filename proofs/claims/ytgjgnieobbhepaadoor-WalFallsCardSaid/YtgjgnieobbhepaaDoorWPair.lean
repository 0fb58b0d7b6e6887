/- Two logs on two disks. -/
import Derived.Test.YtgjgnieobbhepaaDoorWLawC
namespace Go.Proofs.YtgjgnieobbhepaaDoor
open Go.RowKit

/-- None of S is the log's. -/
def Off (S : List Nat) (h : DH) (B : Nat → Prop) (lp : Nat) : Prop := ∀ y ∈ S, y ∉ h.l ∧ ¬ B y ∧ y ≠ lp
theorem Off.grow {S : List Nat} {h : DH} {B B' : Nat → Prop} {lp : Nat} {w : World} (x : Off S h B lp) (hB : ∀ y, B' y → B y ∨ w.heap.size ≤ y) (hS : ∀ y ∈ S, y < w.heap.size) : Off S h B' lp := fun y hy =>
  ⟨(x y hy).1, fun hb => by
    rcases hB y hb with h1 | h1
    · exact (x y hy).2.1 h1
    · have := hS y hy; omega, (x y hy).2.2⟩
theorem Run.other {w0 w w' : World} {h : DH} {B : Nat → Prop} {lp : Nat} {d : Dk} {g : Lg} {rs : List (List UInt8)} {S : List Nat} (r : Run w0 w h B lp d g rs) (hk : Keeps S w w') (hS : Off S h B lp) (hw : Keeps [] w0 w') : Run w0 w' h B lp d g rs := ⟨r.live.keep hk hS, r.lit, hw, r.new, r.tab0, r.pos⟩
theorem Run.cyes' {w0 w w' : World} {h : DH} {B : Nat → Prop} {lp : Nat} {d : Dk} {g : Lg} {rs ls : List (List UInt8)} {e : Ending} (r : Run w0 w h B lp d g rs) (x : CommitP w h B lp d g rs ls e w') (hf : fitErr (L.cap d.dur.length - g.used) d.size ls = 0) :
    ∃ B' d', e = .returned (.int .i64 0) ∧ Keeps (lp :: h.l) w w' ∧ d'.dur.length = d.dur.length ∧ d'.size = d.size ∧ Run w0 w' h B' lp d' ⟨g.area, g.used + L.nsec ls d.size, (rs ++ ls).length, true⟩ (rs ++ ls) ∧ (∀ y, B' y → B y ∨ w.heap.size ≤ y) := by
  obtain ⟨m, B', h1, h2, h3, h4⟩ := x
  rcases h4 with ⟨h5, _⟩ | ⟨_, h5, d', h6, h7, h8⟩
  · exact absurd hf h5
  · exact ⟨B', d', by rw [h1, h5]; rfl, h2, h6.len, h6.size, ⟨h8, h7, r.on h2, r.new, r.tab0, r.pos⟩, h3⟩
theorem fit_nil (free s : Nat) : fitErr free s [] = 0 := by unfold fitErr; rw [if_neg (by simp), L.nsec_nil, if_neg (by omega)]
/-- Two new disks, the first one opened, and then the second one. -/
theorem two_start {w0 w wA wB : World} {n s : Nat} {h1 h2 : DH} {B1 B2 : Nat → Prop} (hk : Keeps [] w0 w) (ht : TabAt w0) (hp : 0 < w0.heap.size)
    (x1 : DskAt wA h1 B1 (newD n s)) (l1 : ∀ y ∈ h1.l, w.heap.size ≤ y) (b1 : ∀ y, B1 y → w.heap.size ≤ y) (k1 : Keeps [] w wA)
    (x2 : DskAt wB h2 B2 (newD n s)) (l2 : ∀ y ∈ h2.l, wA.heap.size ≤ y) (b2 : ∀ y, B2 y → wA.heap.size ≤ y) (k2 : Keeps [] wA wB) (hn : 16 ≤ n ∧ n ≤ 4096) (hs : 128 ≤ s ∧ s ≤ 4096) :
    Calls Tryd.prog 13 #[.pointer (some ⟨h1.p, 0, none⟩)] wB fun e wC =>
      ∃ lp1 A1 c1, e = .returned (.tuple #[.pointer (some ⟨lp1, 0, none⟩), .slice A1 0 c1, .int .i64 0]) ∧ Calls Tryd.prog 13 #[.pointer (some ⟨h2.p, 0, none⟩)] wC fun e wD =>
        ∃ lp2 A2 c2 d1 d2, e = .returned (.tuple #[.pointer (some ⟨lp2, 0, none⟩), .slice A2 0 c2, .int .i64 0]) ∧ d1.dur.length = n ∧ d1.size = s ∧ d2.dur.length = n ∧ d2.size = s ∧
          Run w0 wD h1 B1 lp1 d1 ⟨0, 0, 0, false⟩ [] ∧ Run w0 wD h2 B2 lp2 d2 ⟨0, 0, 0, false⟩ [] ∧ Off (lp1 :: h1.l) h2 B2 lp2 ∧ Off (lp2 :: h2.l) h1 B1 lp1 := by
  have s0 := hk.size
  have s1 := k1.size
  have s2 := k2.size
  have k0B : Keeps [] w0 wB := (hk.trans k1 (by simp)).trans k2 (by simp)
  have hh1 : ∀ y ∈ h1.l, y < wA.heap.size := fun y hy => by
    have := x1.lt
    simp [DH.l] at hy
    omega
  have hh2 : ∀ y ∈ h2.l, y < wB.heap.size := fun y hy => by
    have := x2.lt
    simp [DH.l] at hy
    omega
  refine (open_first (x1.keep0 k2) (ht.keep k0B (by simp)) (fun hm => by have := l1 0 hm; omega) hn hs).mono ?_
  rintro e wC ⟨lp1, A1, c1, d1, rfl, e1, e2, e3, L1, q1, k3⟩
  refine ⟨lp1, A1, c1, rfl, ?_⟩
  have k0C : Keeps [] w0 wC := ((k0B.mono (T := h1.l) (by simp)).trans k3 (fun _ hi _ => hi)).mono (fun i hi _ => by have := l1 i hi; omega)
  have s3 := k3.size
  have x2C : DskAt wC h2 B2 (newD n s) := x2.keep k3 (fun y hy => by
    have := hh1 y hy
    exact ⟨fun hm => by have := l2 y hm; omega, fun hb => by have := b2 y hb; omega⟩)
  refine (open_first x2C (ht.keep k0C (by simp)) (fun hm => by have := l2 0 hm; omega) hn hs).mono ?_
  rintro e wD ⟨lp2, A2, c2, d2, rfl, f1, f2, f3, L2, q2, k4⟩
  have k0D : Keeps [] w0 wD := ((k0C.mono (T := h2.l) (by simp)).trans k4 (fun _ hi _ => hi)).mono (fun i hi _ => by have := l2 i hi; omega)
  have lpl := L1.log.lt
  have low1 : ∀ y, B1 y → y < wA.heap.size := x1.low
  have low2 : ∀ y, B2 y → y < wB.heap.size := x2.low
  have o1 : Off (lp1 :: h1.l) h2 B2 lp2 := fun y hy => by
    rcases List.mem_cons.1 hy with rfl | hy
    · exact ⟨fun hm => by have := hh2 _ hm; omega, fun hb => by have := low2 _ hb; omega, by omega⟩
    · have := hh1 y hy
      exact ⟨fun hm => by have := l2 y hm; omega, fun hb => by have := b2 y hb; omega, by omega⟩
  have o2 : Off (lp2 :: h2.l) h1 B1 lp1 := fun y hy => by
    rcases List.mem_cons.1 hy with rfl | hy
    · exact ⟨fun hm => by have := hh1 _ hm; omega, fun hb => by have := low1 _ hb; omega, by omega⟩
    · have := l2 y hy
      have := hh2 y hy
      exact ⟨fun hm => by have := hh1 y hm; omega, fun hb => by have := low1 y hb; omega, by omega⟩
  have L1D : Live wD h1 B1 lp1 d1 ⟨0, 0, 0, false⟩ [] := L1.keep k4 (fun y hy => o2 y (List.mem_cons_of_mem _ hy))
  exact ⟨lp2, A2, c2, d1, d2, rfl, e1, e2, f1, f2, ⟨L1D, e3, k0D, ⟨by omega, fun y hy => by have := l1 y hy; omega⟩, ht, hp⟩, ⟨L2, f3, k0D, ⟨by omega, fun y hy => by have := l2 y hy; omega⟩, ht, hp⟩, o1, o2⟩
end Go.Proofs.YtgjgnieobbhepaaDoor
