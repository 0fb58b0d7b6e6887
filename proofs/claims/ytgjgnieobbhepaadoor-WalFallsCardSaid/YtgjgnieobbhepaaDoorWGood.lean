/- A log and its disk: what each call makes of them. -/
import Derived.Test.YtgjgnieobbhepaaDoorWLoad
namespace Go.Proofs.YtgjgnieobbhepaaDoor
open Go.RowKit

/-- The disk d is flat and holds the log g of the records rs. -/
structure Good (d : Dk) (g : Lg) (rs : List (List UInt8)) : Prop where
  ok : d.Ok
  secs : 16 ≤ d.dur.length
  size : 128 ≤ d.size
  flat : ∀ i, d.fr i = none
  loads : L.Loads d.dur.length d.size d.last g.area g.used rs
  sure : g.settled = true → L.Set d.dur.length d.size d.last g.area g.used rs
  count : g.count = rs.length
namespace Good
variable {d : Dk} {g : Lg} {rs : List (List UInt8)}
theorem area (h : Good d g rs) : g.area ≤ 1 := h.loads.area
theorem used (h : Good d g rs) : g.used ≤ L.cap d.dur.length := h.loads.used h.secs (by have := h.size; omega) (L.siz_last h.ok)
end Good
/-- What a change of records rs to rs' by n sectors makes. -/
def Did (d : Dk) (g : Lg) (rs : List (List UInt8)) (a u : Nat) (rs' : List (List UInt8)) (r : Nat × Dk × Lg) : Prop :=
  (r.1 = 0 ∧ L.Flat d r.2.1 ∧ r.2.1.dead = false ∧ r.2.2 = ⟨a, u, rs'.length, true⟩ ∧ Good r.2.1 r.2.2 rs') ∨
  (r.1 = 32 ∧ L.Gone (fun v => L.Loads d.dur.length d.size v g.area g.used rs ∨ L.Loads d.dur.length d.size v a u rs') d r.2.1)
theorem chg_did {d : Dk} {g next : Lg} {rs rs' : List (List UInt8)} {l : List (Nat × List UInt8)} (h : Good d g rs) (hl : g.settled = true → l ≠ []) (hc : next.count = rs'.length)
    (hs : ∀ v, L.Siz d.dur.length d.size v → L.Set d.dur.length d.size v g.area g.used rs → L.SafeRun d.dur.length d.size (fun v' => L.Loads d.dur.length d.size v' g.area g.used rs ∨ L.Loads d.dur.length d.size v' next.area next.used rs') (fun v' => L.Siz d.dur.length d.size v' ∧ L.Set d.dur.length d.size v' next.area next.used rs') v l) :
    Did d g rs next.area next.used rs' (chg d g next l) := by
  have hne : (if g.settled then l else L.settleSteps d.dur.length d.size g.area g.used ++ l) ≠ [] := by
    cases hg : g.settled with
    | true => rw [if_pos rfl]; exact hl hg
    | false => rw [if_neg (by simp)]; simp [L.settleSteps]
  have hrun : L.SafeRun d.dur.length d.size (fun v' => L.Loads d.dur.length d.size v' g.area g.used rs ∨ L.Loads d.dur.length d.size v' next.area next.used rs') (fun v' => L.Siz d.dur.length d.size v' ∧ L.Set d.dur.length d.size v' next.area next.used rs') d.last (if g.settled then l else L.settleSteps d.dur.length d.size g.area g.used ++ l) := by
    have hv := L.siz_last h.ok
    cases hg : g.settled with
    | true => rw [if_pos rfl]; exact hs _ hv (h.sure hg)
    | false =>
      rw [if_neg (by simp)]
      refine L.SafeRun.append ((L.settle_safe h.secs (by have := h.size; omega) hv h.loads).mono (fun _ => .inl) (fun _ q => q)) (fun v' q => hs v' q.1 q.2)
  obtain ⟨l0, hl0⟩ : ∃ l0, (if g.settled then l else L.settleSteps d.dur.length d.size g.area g.used ++ l) = l0 := ⟨_, rfl⟩
  rw [chg_of hl0]
  rw [hl0] at hne hrun
  rcases L.run_safe h.ok h.flat hrun with ⟨e, F, hd, _, q⟩ | ⟨e, G⟩
  · refine .inl ⟨e, F, hd.resolve_left hne, ?_, ?_⟩
    · rw [if_pos e]; simp [hc]
    · rw [if_pos e]
      have q' : L.Set (L.runSteps d l0).2.dur.length (L.runSteps d l0).2.size (L.runSteps d l0).2.last next.area next.used rs' := by rw [F.len, F.size]; exact q
      exact ⟨F.ok, by rw [F.len]; exact h.secs, by rw [F.size]; exact h.size, F.fr, q'.loads, fun _ => q', hc⟩
  · exact .inr ⟨e, G⟩
theorem fitErr_zero {free s : Nat} {ls : List (List UInt8)} (h : fitErr free s ls = 0) : (∀ r ∈ ls, r.length ≤ 1048576) ∧ L.nsec ls s ≤ free := by
  unfold fitErr at h
  split at h
  · omega
  · rename_i hn
    split at h
    · omega
    · exact ⟨fun r hr => by
        by_cases hq : r.length ≤ 1048576
        · exact hq
        · exact absurd ⟨r, hr, by omega⟩ hn, by omega⟩
theorem fitErr_err {free s : Nat} {ls : List (List UInt8)} : fitErr free s ls = 0 ∨ fitErr free s ls = 40 ∨ fitErr free s ls = 42 := by
  unfold fitErr; split <;> (try split) <;> simp
/-- Commit. -/
theorem commit_did {d : Dk} {g : Lg} {rs ls : List (List UInt8)} (h : Good d g rs) (hb : (L.body ls).length < 4294967296) :
    (fitErr (L.cap d.dur.length - g.used) d.size ls ≠ 0 ∧ commitD d g ls = (fitErr (L.cap d.dur.length - g.used) d.size ls, d, g)) ∨
    (fitErr (L.cap d.dur.length - g.used) d.size ls = 0 ∧ Did d g rs g.area (g.used + L.nsec ls d.size) (rs ++ ls) (commitD d g ls)) := by
  by_cases hf : fitErr (L.cap d.dur.length - g.used) d.size ls = 0
  · refine .inr ⟨hf, ?_⟩
    obtain ⟨f1, f2⟩ := fitErr_zero hf
    have hu := h.used
    unfold commitD
    rw [if_neg (by rw [hf]; simp)]
    by_cases h0 : ls = []
    · subst h0
      rw [if_pos rfl]
      have hn : L.nsec [] d.size = 0 := by unfold L.nsec; simp
      have hg' : Good d { g with settled := false } rs := ⟨h.ok, h.secs, h.size, h.flat, h.loads, fun e => by simp at e, h.count⟩
      have := chg_did (next := g) (rs' := rs) (l := []) hg' (fun e => by simp at e) h.count (fun v hv hs => ⟨hv, hs⟩)
      rw [hn, List.append_nil]
      exact this
    · rw [if_neg h0]
      exact chg_did (next := ⟨g.area, g.used + L.nsec ls d.size, g.count + ls.length, false⟩) h (fun _ => by simp [L.commitSteps]) (by simp [h.count]) (fun v hv hs => L.commit_safe h.secs (by have := h.size; omega) hv hs h0 hb (fun r hr => by have := f1 r hr; omega) (by omega))
  · refine .inl ⟨hf, ?_⟩
    unfold commitD; rw [if_pos hf]
/-- Reset. -/
theorem reset_did {d : Dk} {g : Lg} {rs ls : List (List UInt8)} (h : Good d g rs) (hb : (L.body ls).length < 4294967296) :
    (fitErr (L.cap d.dur.length) d.size ls ≠ 0 ∧ resetD d g ls = (fitErr (L.cap d.dur.length) d.size ls, d, g)) ∨
    (fitErr (L.cap d.dur.length) d.size ls = 0 ∧ Did d g rs (1 - g.area) (L.nsec ls d.size) ls (resetD d g ls)) := by
  by_cases hf : fitErr (L.cap d.dur.length) d.size ls = 0
  · refine .inr ⟨hf, ?_⟩
    obtain ⟨f1, f2⟩ := fitErr_zero hf
    unfold resetD
    rw [if_neg (by rw [hf]; simp)]
    exact chg_did (next := ⟨1 - g.area, L.nsec ls d.size, ls.length, false⟩) h (fun _ => by simp [L.resetSteps]) rfl (fun v hv hs => L.reset_safe h.secs (by have := h.size; omega) hv hs hb (fun r hr => by have := f1 r hr; omega) f2)
  · refine .inl ⟨hf, ?_⟩
    unfold resetD; rw [if_pos hf]
/-! ### In a world -/
/-- A log on its disk. -/
structure Live (w : World) (h : DH) (B : Nat → Prop) (lp : Nat) (d : Dk) (g : Lg) (rs : List (List UInt8)) : Prop where
  disk : DskAt w h B d
  log : LogAt w lp h.p g
  sep : ¬ B lp
  good : Good d g rs
theorem Live.keep {S : List Nat} {w w' : World} {h : DH} {B : Nat → Prop} {lp : Nat} {d : Dk} {g : Lg} {rs : List (List UInt8)} (x : Live w h B lp d g rs) (hk : Keeps S w w') (hS : ∀ y ∈ S, y ∉ h.l ∧ ¬ B y ∧ y ≠ lp) : Live w' h B lp d g rs :=
  ⟨x.disk.keep hk (fun y hy => ⟨(hS y hy).1, (hS y hy).2.1⟩), x.log.keep hk (fun hm => (hS lp hm).2.2 rfl), x.sep, x.good⟩
theorem Live.keep0 {w w' : World} {h : DH} {B : Nat → Prop} {lp : Nat} {d : Dk} {g : Lg} {rs : List (List UInt8)} (x : Live w h B lp d g rs) (hk : Keeps [] w w') : Live w' h B lp d g rs := x.keep hk (by simp)
/-- Power that nothing ends. -/
def Lit_ (d : Dk) : Prop := d.dead = false ∧ d.cut = false
theorem Lit_.flat {d d' : Dk} (h : Lit_ d) (f : L.Flat d d') (hd : d'.dead = false) : Lit_ d' := ⟨hd, by rw [f.cut]; exact h.2⟩
theorem RowsIn.low {w : World} {G : Nat → Prop} {A : Option Addr} {ls : List (List UInt8)} (h : RowsIn w G A ls) : RowsIn w (fun g => G g ∧ g < w.heap.size) A ls := by
  rcases h with h | ⟨b, off, hA, hb, hc⟩
  · exact .inl h
  · by_cases h0 : ls = []
    · exact .inl h0
    · have hpos : 0 < ls.length := List.length_pos_iff.2 h0
      obtain ⟨v, hv, _⟩ := hc 0 hpos
      refine .inr ⟨b, off, hA, ⟨hb, World.block_lt_of_cell? w _ hv⟩, fun j hj => ?_⟩
      obtain ⟨v, hv, he⟩ := hc j hj
      exact ⟨v, hv, he.lt⟩
/-- Commit where there is power. -/
theorem commit_live {w : World} {h : DH} {B : Nat → Prop} {lp : Nat} {d : Dk} {g : Lg} {rs ls : List (List UInt8)} {G : Nat → Prop} {A : Option Addr} {cap : Nat} (x : Live w h B lp d g rs) (ht : TabAt w) (hr : RowsIn w G A ls) (hb : (L.body ls).length < 4294967296) (hc : rs.length ≤ 1099511627776) :
    Calls Tryd.prog 19 #[.pointer (some ⟨lp, 0, none⟩), .slice A ls.length cap] w (ChangeP w h B lp (commitD d g ls)) :=
  commit_any w h B d lp g _ A cap ls x.disk x.log x.sep ht hr.low (fun y hy => hy.2) (by omega) x.good.secs x.good.area x.good.used (by rw [x.good.count]; exact hc)
theorem reset_live {w : World} {h : DH} {B : Nat → Prop} {lp : Nat} {d : Dk} {g : Lg} {rs ls : List (List UInt8)} {G : Nat → Prop} {A : Option Addr} {cap : Nat} (x : Live w h B lp d g rs) (ht : TabAt w) (hr : RowsIn w G A ls) (hb : (L.body ls).length < 4294967296) :
    Calls Tryd.prog 17 #[.pointer (some ⟨lp, 0, none⟩), .slice A ls.length cap] w (ChangeP w h B lp (resetD d g ls)) :=
  reset_any w h B d lp g _ A cap ls x.disk x.log x.sep ht hr.low (fun y hy => hy.2) (by omega) x.good.secs x.good.area x.good.used
/-- What Commit yields where there is power. -/
def CommitP (w : World) (h : DH) (B : Nat → Prop) (lp : Nat) (d : Dk) (g : Lg) (rs ls : List (List UInt8)) (e : Ending) (w' : World) : Prop :=
  ∃ (n : Nat) (B' : Nat → Prop), e = .returned (.int .i64 (n : Int)) ∧ Keeps (lp :: h.l) w w' ∧ (∀ y, B' y → B y ∨ w.heap.size ≤ y) ∧
    ((fitErr (L.cap d.dur.length - g.used) d.size ls ≠ 0 ∧ n = fitErr (L.cap d.dur.length - g.used) d.size ls ∧ Live w' h B' lp d g rs) ∨
     (fitErr (L.cap d.dur.length - g.used) d.size ls = 0 ∧ n = 0 ∧ ∃ d', L.Flat d d' ∧ Lit_ d' ∧ Live w' h B' lp d' ⟨g.area, g.used + L.nsec ls d.size, (rs ++ ls).length, true⟩ (rs ++ ls)))
theorem commit_go {w : World} {h : DH} {B : Nat → Prop} {lp : Nat} {d : Dk} {g : Lg} {rs ls : List (List UInt8)} {G : Nat → Prop} {A : Option Addr} (cap : Nat) (x : Live w h B lp d g rs) (hd : Lit_ d) (ht : TabAt w) (hr : RowsIn w G A ls) (hb : (L.body ls).length < 4294967296) (hc : rs.length ≤ 1099511627776) :
    Calls Tryd.prog 19 #[.pointer (some ⟨lp, 0, none⟩), .slice A ls.length cap] w (CommitP w h B lp d g rs ls) := by
  refine (commit_live x ht hr hb hc).mono ?_
  rintro e w' ⟨he, hk, hlog, B', hx, _, hB⟩
  have hsep : ¬ B' lp := fun hq => by rcases hB lp hq with h1 | h1; exact x.sep h1; have := x.log.lt; omega
  refine ⟨_, B', he, hk, hB, ?_⟩
  rcases commit_did x.good hb (ls := ls) with ⟨e1, e2⟩ | ⟨e1, e2⟩
  · refine .inl ⟨e1, by rw [e2], ?_⟩
    rw [e2] at hlog hx
    exact ⟨hx, hlog, hsep, x.good⟩
  · rcases e2 with ⟨n0, F, hdead, hg, hgood⟩ | ⟨n0, G⟩
    · refine .inr ⟨e1, n0, (commitD d g ls).2.1, F, hd.flat F hdead, ?_⟩
      rw [← hg]
      exact ⟨hx, hlog, hsep, hgood⟩
    · rcases G.why with q | q
      · rw [hd.1] at q; cases q
      · rw [hd.2] at q; cases q
/-- What Reset yields where there is power. -/
def ResetP (w : World) (h : DH) (B : Nat → Prop) (lp : Nat) (d : Dk) (g : Lg) (rs ls : List (List UInt8)) (e : Ending) (w' : World) : Prop :=
  ∃ (n : Nat) (B' : Nat → Prop), e = .returned (.int .i64 (n : Int)) ∧ Keeps (lp :: h.l) w w' ∧ (∀ y, B' y → B y ∨ w.heap.size ≤ y) ∧
    ((fitErr (L.cap d.dur.length) d.size ls ≠ 0 ∧ n = fitErr (L.cap d.dur.length) d.size ls ∧ Live w' h B' lp d g rs) ∨
     (fitErr (L.cap d.dur.length) d.size ls = 0 ∧ n = 0 ∧ ∃ d', L.Flat d d' ∧ Lit_ d' ∧ Live w' h B' lp d' ⟨1 - g.area, L.nsec ls d.size, ls.length, true⟩ ls))
theorem reset_go {w : World} {h : DH} {B : Nat → Prop} {lp : Nat} {d : Dk} {g : Lg} {rs ls : List (List UInt8)} {G : Nat → Prop} {A : Option Addr} (cap : Nat) (x : Live w h B lp d g rs) (hd : Lit_ d) (ht : TabAt w) (hr : RowsIn w G A ls) (hb : (L.body ls).length < 4294967296) :
    Calls Tryd.prog 17 #[.pointer (some ⟨lp, 0, none⟩), .slice A ls.length cap] w (ResetP w h B lp d g rs ls) := by
  refine (reset_live x ht hr hb).mono ?_
  rintro e w' ⟨he, hk, hlog, B', hx, _, hB⟩
  have hsep : ¬ B' lp := fun hq => by rcases hB lp hq with h1 | h1; exact x.sep h1; have := x.log.lt; omega
  refine ⟨_, B', he, hk, hB, ?_⟩
  rcases reset_did x.good hb (ls := ls) with ⟨e1, e2⟩ | ⟨e1, e2⟩
  · refine .inl ⟨e1, by rw [e2], ?_⟩
    rw [e2] at hlog hx
    exact ⟨hx, hlog, hsep, x.good⟩
  · rcases e2 with ⟨n0, F, hdead, hg, hgood⟩ | ⟨n0, G⟩
    · refine .inr ⟨e1, n0, (resetD d g ls).2.1, F, hd.flat F hdead, ?_⟩
      rw [← hg]
      exact ⟨hx, hlog, hsep, hgood⟩
    · rcases G.why with q | q
      · rw [hd.1] at q; cases q
      · rw [hd.2] at q; cases q
/-- What Open yields where there is power. -/
def OpenedP (w : World) (h : DH) (B : Nat → Prop) (d : Dk) (a u : Nat) (rs : List (List UInt8)) (e : Ending) (w' : World) : Prop :=
  ∃ lp v d', e = .returned (.tuple #[.pointer (some ⟨lp, 0, none⟩), v, .int .i64 0]) ∧ L.Flat d d' ∧ d'.dead = false ∧ (∀ i, d'.last i = d.last i) ∧ Live w' h B lp d' ⟨a, u, rs.length, false⟩ rs ∧ RowsOwn w' w.heap.size v rs ∧ w.heap.size ≤ lp ∧ Keeps h.l w w'
theorem open_go {w : World} {h : DH} {B : Nat → Prop} {d : Dk} {a u : Nat} {rs : List (List UInt8)} (x : DskAt w h B d) (ht : TabAt w) (hh0 : 0 ∉ h.l) (hp : d.power = true) (hN : 16 ≤ d.dur.length) (hs : 128 ≤ d.size) (hl : L.Loads d.dur.length d.size d.last a u rs) :
    Calls Tryd.prog 13 #[.pointer (some ⟨h.p, 0, none⟩)] w (OpenedP w h B d a u rs) := by
  refine (open_any w h B d x ht x.low hh0).mono ?_
  intro e w' ho
  unfold OpenP at ho
  rw [if_neg (by omega), if_neg (by rw [hp]; simp)] at ho
  obtain ⟨lp, a', u', rs', v, rfl, hx, hl', hr, hlog, hlp, hk⟩ := ho
  obtain ⟨rfl, rfl, rfl⟩ := hl.unique hl'
  obtain ⟨e3, hok, hsz, hdl, hfr, hcut, hdead, hlast⟩ := L.flush_flat x.ok hp
  refine ⟨lp, v, d.flush, rfl, ⟨hok, hsz, hdl, hfr, hcut⟩, hdead, hlast, ⟨hx, hlog, fun hq => ?_, ?_⟩, hr, hlp, hk⟩
  · have := x.low _ hq; omega
  · refine ⟨hok, by omega, by omega, hfr, ?_, fun e => by simp at e, rfl⟩
    rw [hdl, hsz]; exact Loads_congr hl (fun i => (hlast i).symm)
theorem Lit_.power {d : Dk} (h : Lit_ d) : d.power = true := by unfold Dk.power; rw [h.1, h.2]; rfl
/-- A new disk. -/
theorem new_lit (n s : Int) : Lit_ (Dk.new n s) := ⟨rfl, rfl⟩
theorem new_loads (n s : Nat) (hs : 128 ≤ s ∧ s ≤ 4096) (hn : 1 ≤ n ∧ n ≤ 4096) : (Dk.new n s).dur.length = n ∧ (Dk.new n s).size = s ∧ L.Loads n s (Dk.new n s).last 0 0 [] := by
  have e1 : (min (max (s : Int) 64) 4096).toNat = s := by omega
  have e2 : (min (max (n : Int) 1) 4096).toNat = n := by omega
  refine ⟨by simp [Dk.new]; omega, e1, .inr ?_⟩
  have hz : (Dk.new n s).last 0 = List.replicate s 0 := by
    unfold Dk.last Dk.new
    simp only [e1, e2]
    rw [List.getD_eq_getElem?_getD, List.getElem?_replicate, if_pos (by omega)]; rfl
  obtain ⟨k, rfl⟩ : ∃ k, s = k + 1 := ⟨s - 1, by omega⟩
  rw [hz, List.replicate_succ]
  exact ⟨fun h => by have := (List.cons.inj h).1; revert this; decide, fun h => by have := (List.cons.inj h).1; revert this; decide, rfl, rfl, rfl⟩
end Go.Proofs.YtgjgnieobbhepaaDoor
