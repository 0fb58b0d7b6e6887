/- Merged: SFall -/
import Derived.Test.YtbanpdeganlndaaGreatDoorQ19
import Derived.Test.YtbanpdeganlndaaGreatDoorQ20
namespace Go.Proofs.YtbanpdeganlndaaGreatDoor
open Go.RowKit
open St (Tx As Ch)

/-- Between two acts; a failure may be scheduled. -/
structure PU (w wr : World) (h : DH) (mm i sp mb lp : Nat) (B : Nat → Prop) (d : Dk) (g : Lg) (cs : List Ch) (l m : As) : Prop where
  sr : SR w wr h B lp d g sp mb cs l 400 512
  used : g.used ≤ 5 + 4 * i
  map : MapAt wr mm ES m
  same : l.Perm m
  ne : mb ≠ mm
  small : Small l
  sz : ∀ c ∈ cs, c.size ≤ 258
  len : cs.length ≤ 7 + 5 * i
/-- Power went under a change from a to m. -/
structure PD (w wr : World) (h : DH) (mm nb sp mb lp : Nat) (B : Nat → Prop) (d : Dk) (cs next : List Ch) (l m a : As) : Prop where
  sn : SN w wr h B d sp mb lp cs next l 400 512
  map : MapAt wr mm ES m
  was : MapAt wr nb ES a
  old : l.Perm a
  new : (St.apps [] next).Perm m
  small : Small a ∧ Small m
  sz : (∀ c ∈ cs, c.size ≤ 258) ∧ ∀ c ∈ next, c.size ≤ 258
  len : cs.length ≤ 1000 ∧ next.length ≤ 1000
  apart : mm ∉ h.l ∧ nb ∉ h.l
/-- A store behind a crash. -/
structure PW (w w2 : World) (mm sp mb lp : Nat) (l m : As) : Prop where
  st : StAt w2 sp mb lp false l
  map : MapAt w2 mm ES m
  keeps : Keeps [] w w2
  small : Small l ∧ Small m
theorem fsame_any {w2 : World} {mm sp mb lp : Nat} {dn : Bool} {l m : As} (st : StAt w2 sp mb lp dn l) (map : MapAt w2 mm ES m) (hl : Small l) (hm : Small m) :
    Calls Tryz.prog 16 #[.pointer (some ⟨sp, 0, none⟩), .map (some mm)] w2 fun e w' => e = .returned (.bool (same7 l m)) ∧ Keeps [] w2 w' := by
  obtain ⟨f1, f2, f3⟩ := hl.facts st.map.1
  obtain ⟨g1, g2, g3⟩ := hm.facts map.1
  exact alike_any w2 sp mb lp mm dn l m st map f3 g3 f2 (by omega) g2
/-- What an act leaves. -/
def FOut (w w' : World) (h : DH) (mm nb i sp mb lp : Nat) (m m' : As) (e : Ending) : Prop :=
  (e = .returned (.int .i64 0) ∧ ∃ B d g cs l, PU w w' h mm (i + 1) sp mb lp B d g cs l m') ∨
  (e = .returned (.int .i64 32) ∧ ∃ B d cs next l, PD w w' h mm nb sp mb lp B d cs next l m' m)
section
variable {w wr : World} {h : DH} {mm nb i sp mb lp : Nat} {B : Nat → Prop} {d : Dk} {g : Lg} {cs next : List Ch} {l m a : As}
theorem PU.step (x : PU w wr h mm i sp mb lp B d g cs l m) {w' : World} (hk : Keeps [] wr w') : PU w w' h mm i sp mb lp B d g cs l m :=
  ⟨x.sr.step hk, x.used, x.map.keep hk (by simp), x.same, x.ne, x.small, x.sz, x.len⟩
theorem PD.step (x : PD w wr h mm nb sp mb lp B d cs next l m a) {w' : World} (hk : Keeps [] wr w') : PD w w' h mm nb sp mb lp B d cs next l m a :=
  ⟨x.sn.step hk, x.map.keep hk (by simp), x.was.keep hk (by simp), x.old, x.new, x.small, x.sz, x.len, x.apart⟩
theorem PD.alike (x : PD w wr h mm nb sp mb lp B d cs next l m a) : Calls Tryz.prog 16 #[.pointer (some ⟨sp, 0, none⟩), .map (some nb)] wr fun e w' => e = .returned (.bool true) ∧ Keeps [] wr w' := by
  have := fsame_any x.sn.st x.was (x.small.1.perm x.old.symm) x.small.1
  rwa [same_perm x.sn.st.map.1 x.old] at this
theorem PU.compact (x : PU w wr h mm i sp mb lp B d g cs l m) (hmh : mm ∉ h.l) (hi : i ≤ 30) (hnb : MapAt wr nb ES m) (hn : nb ∉ mb :: sp :: lp :: h.l) :
    Calls Tryz.prog 13 #[.pointer (some ⟨sp, 0, none⟩)] wr fun e w' => FOut w w' h mm nb i sp mb lp m m e := by
  obtain ⟨f1, f2, f3⟩ := x.small.facts x.sr.keyed
  have hs : ∀ p ∈ l, p.1.length ≤ 40 ∧ p.2.length ≤ 255 := fun p hp => ⟨by have := St.ks_len _ (x.small p hp).1; omega, (x.small p hp).2⟩
  refine (x.sr.compact (by omega) hs (by omega) (by rw [scap400]; omega)).mono ?_
  rintro e w' ⟨k, xs, rfl, hp, hk, ho⟩
  obtain ⟨hap, _⟩ := x.sr.apart x.map x.ne hmh
  have hns := news_small hp hs
  have hln : (St.news xs).length ≤ 7 := by rw [news_len, hp.length_eq]; exact f1
  have hmap : MapAt w' mm ES m := x.map.keep hk (fun hm => hap (by simp at hm ⊢; exact .inr hm))
  have hwas : MapAt w' nb ES m := hnb.keep hk (fun hm => hn (by simp at hm ⊢; exact .inr hm))
  have hsz : ∀ c ∈ St.news xs, c.size ≤ 258 := fun c hc => by
    obtain ⟨p, hpm, rfl⟩ := List.mem_map.1 hc
    have h1 := x.small p (hp.mem_iff.1 hpm)
    have := St.ks_len _ h1.1
    show p.1.length + p.2.length ≤ 258
    omega
  rcases ho with ⟨rfl, B', d', _, hr⟩ | ⟨rfl, _, B', d', _, hr⟩
  · refine .inl ⟨rfl, B', d', _, _, l, hr, ?_, hmap, x.same, x.ne, x.small, hsz, by omega⟩
    have h1 := L.nsec_bound (s := 512) (rs := (St.news xs).map St.rec) (by omega)
    have h2 := body_recs hns (by omega)
    show L.nsec ((St.news xs).map St.rec) 512 ≤ 5 + 4 * (i + 1)
    omega
  · have hxs : (St.apps [] (St.news xs)).Perm m := by
      have := St.apps_news (l := xs) (m := []) (by rw [List.nil_append]; exact St.keyed_perm x.sr.keyed hp.symm)
      rw [List.nil_append] at this
      exact (this.trans hp).trans x.same
    exact .inr ⟨rfl, B', d', cs, _, l, hr, hmap, hwas, x.same, hxs, ⟨x.small.perm x.same, x.small.perm x.same⟩, ⟨x.sz, hsz⟩, ⟨by have := x.len; omega, by omega⟩, hmh, fun hm => hn (by simp [hm])⟩
theorem PU.pairs (x : PU w wr h mm i sp mb lp B d g cs l m) (hmh : mm ∉ h.l) (hi : i ≤ 30) (hw : w.heap.size ≤ mm) (hnb : MapAt wr nb ES m) (hn : nb ∉ mb :: sp :: lp :: h.l) (hnm : nb ≠ mm) {g0 cap : Nat} {A : Option Addr} {ps : List LP} (hr : LPsIn wr g0 A ps) (hg0 : ps = [] ∨ g0 < mm) (hps : ps.length ≤ 5) :
    Calls Tryz.prog 15 #[.int .i64 (i : Int), .slice A ps.length cap, .map (some mm)] wr fun e w4 => ∃ A5 c5, e = .returned (.slice A5 ps.length c5) ∧
      Calls Tryz.prog 14 #[.pointer (some ⟨sp, 0, none⟩), .slice A5 ps.length c5] w4 fun e w' => FOut w w' h mm nb i sp mb lp m (St.apps m (mkc i ps)) e := by
  obtain ⟨hap, hsr⟩ := x.sr.apart x.map x.ne hmh
  obtain ⟨f1, f2, f3⟩ := x.small.facts x.sr.keyed
  refine (pairs_any wr i g0 mm cap A ps m hr x.map (by omega) (by omega) (by rw [← x.same.length_eq]; omega) (hg0.imp id (fun hg => by omega))).mono ?_
  rintro e w4 ⟨A5, c5, g5, rfl, hpi, hg5, hm4, hk4⟩
  refine ⟨A5, c5, by rw [mkc_len], ?_⟩
  have hs4 := hsr.beside hk4 hap (fun hq => hq.2 rfl) hw
  have hlow := x.sr.low
  have hu := x.used
  have hn4 : MapAt w4 nb ES m := hnb.keep hk4 (by simpa using hnm)
  have hn' := hs4.apply c5 hpi ((Classical.em (mkc i ps = [])).imp id (fun hne hm => by have := hlow _ hm; have := hg5 hne; omega)) mkc_size (by rw [mkc_len]; omega) (by have := x.len; omega) (by omega)
    (by have := body_recs (cs := mkc i ps) mkc_small (by rw [mkc_len]; omega); rw [mkc_len] at this; omega)
    (by rw [scap400]; exact fit_recs (k := 5) (by omega) mkc_small (by rw [mkc_len]; omega) (by omega))
  rw [mkc_len] at hn'
  refine hn'.mono ?_
  rintro e w' ⟨k, rfl, hk, ho⟩
  have hmap := hm4.keep hk hap
  have hwas := hn4.keep hk hn
  have hsz : ∀ c ∈ cs ++ mkc i ps, c.size ≤ 258 := fun c hc => by
    rcases List.mem_append.1 hc with hc | hc
    · exact x.sz c hc
    · exact mkc_csize c hc
  have hlen : (cs ++ mkc i ps).length ≤ 7 + 5 * (i + 1) := by
    rw [List.length_append, mkc_len]
    have := x.len
    omega
  rcases ho with ⟨rfl, B', d', _, hr'⟩ | ⟨rfl, _, B', d', _, hr'⟩
  · refine .inl ⟨rfl, B', d', _, _, _, hr', ?_, hmap, St.apps_perm x.same _, x.ne, x.small.apps mkc_sm, hsz, hlen⟩
    have h1 := L.nsec_bound (s := 512) (rs := (mkc i ps).map St.rec) (by omega)
    have h2 := body_recs (cs := mkc i ps) mkc_small (by rw [mkc_len]; omega)
    rw [mkc_len] at h2
    show g.used + L.nsec ((mkc i ps).map St.rec) 512 ≤ 5 + 4 * (i + 1)
    omega
  · have hnew : (St.apps [] (cs ++ mkc i ps)).Perm (St.apps m (mkc i ps)) := by
      rw [St.apps_append]
      exact St.apps_perm (x.sr.eq.symm.trans x.same) _
    exact .inr ⟨rfl, B', d', cs, _, l, hr', hmap, hwas, x.same, hnew, ⟨x.small.perm x.same, (x.small.perm x.same).apps mkc_sm⟩, ⟨x.sz, hsz⟩, ⟨by have := x.len; omega, by omega⟩, hmh, fun hm => hn (by simp [hm])⟩
/-- Behind a crash: one of the two. -/
def FWoke (w w2 : World) (mm nb : Nat) (m a : As) (e : Ending) : Prop :=
  ∃ sp mb lp l, e = .returned (.tuple #[.pointer (some ⟨sp, 0, none⟩), .int .i64 0]) ∧ PW w w2 mm sp mb lp l m ∧ MapAt w2 nb ES a ∧ Small a ∧ (l.Perm m ∨ l.Perm a)
theorem PD.wakes (x : PD w wr h mm nb sp mb lp B d cs next l m a) (keep : Nat) (hkeep : keep < 18446744073709551616) (torn pos : Int) :
    Calls Tryz.prog 20 #[.pointer (some ⟨h.p, 0, none⟩), .int .u64 (keep : Int), .int .i64 torn, .int .i64 pos] wr fun e w1 => e = .returned (.tuple #[]) ∧
      Calls Tryz.prog 12 #[.pointer (some ⟨h.p, 0, none⟩)] w1 fun e w2 => FWoke w w2 mm nb m a e := by
  refine (tear_open x.sn.gd keep hkeep torn pos (by omega) (by omega) (fun c hc => by have := x.sz.1 c hc; omega) (by have := x.len.1; omega) (fun c hc => by have := x.sz.2 c hc; omega) (by have := x.len.2; omega)).mono ?_
  rintro e w1 ⟨rfl, hk, ho⟩
  refine ⟨rfl, ho.mono ?_⟩
  rintro e w2 ⟨sp', mb', lp', rfl, ⟨rec, B', d', g', hrec, _, hsr⟩, hk2⟩
  have hm2 : MapAt w2 mm ES m := (x.map.keep hk x.apart.1).keep hk2 x.apart.1
  have ha2 : MapAt w2 nb ES a := (x.was.keep hk x.apart.2).keep hk2 x.apart.2
  have hp : (St.apps [] rec).Perm m ∨ (St.apps [] rec).Perm a := by
    rcases hrec with rfl | rfl
    · exact .inr (x.sn.eq.symm.trans x.old)
    · exact .inl x.new
  refine ⟨sp', mb', lp', St.apps [] rec, rfl, ⟨hsr.st, hm2, hsr.gr.keeps, ?_, x.small.2⟩, ha2, x.small.1, hp⟩
  rcases hp with q | q
  · exact x.small.2.perm q.symm
  · exact x.small.1.perm q.symm
theorem PU.wakes (x : PU w wr h mm i sp mb lp B d g cs l m) (hmh : mm ∉ h.l) (hi : i ≤ 30) (keep : Nat) (hkeep : keep < 18446744073709551616) (torn pos : Int) :
    Calls Tryz.prog 20 #[.pointer (some ⟨h.p, 0, none⟩), .int .u64 (keep : Int), .int .i64 torn, .int .i64 pos] wr fun e w1 => e = .returned (.tuple #[]) ∧
      Calls Tryz.prog 12 #[.pointer (some ⟨h.p, 0, none⟩)] w1 fun e w2 => FWoke w w2 mm mm m m e := by
  have hsz : ∀ c ∈ cs, c.size ≤ 1048512 := fun c hc => by have := x.sz c hc; omega
  have hlen : cs.length ≤ 100000 := by have := x.len; omega
  refine (tear_open (cs := cs) (next := cs) x.sr.gr.dead keep hkeep torn pos (by omega) (by omega) hsz hlen hsz hlen).mono ?_
  rintro e w1 ⟨rfl, hk, ho⟩
  refine ⟨rfl, ho.mono ?_⟩
  rintro e w2 ⟨sp', mb', lp', rfl, ⟨rec, B', d', g', hrec, _, hsr⟩, hk2⟩
  have hm2 : MapAt w2 mm ES m := (x.map.keep hk hmh).keep hk2 hmh
  have hp : (St.apps [] rec).Perm m := by
    rcases hrec with rfl | rfl
    · exact x.sr.eq.symm.trans x.same
    · exact x.sr.eq.symm.trans x.same
  have hsm := x.small.perm x.same
  exact ⟨sp', mb', lp', St.apps [] rec, rfl, ⟨hsr.st, hm2, hsr.gr.keeps, hsm.perm hp.symm, hsm⟩, hm2, hsm, .inl hp⟩
end
end Go.Proofs.YtbanpdeganlndaaGreatDoor
