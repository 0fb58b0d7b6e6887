/- Merged: SOpen SRun SStore SKey SPairs SKeys SAlike SAlikeW -/
import Derived.Test.YtbanpdeganlndaaGreatDoorQ12
import Derived.Test.YtbanpdeganlndaaGreatDoorQ8
import Derived.Laws.Cover1
import Derived.Sort.Walk0
namespace Go.Proofs.YtbanpdeganlndaaGreatDoor
open Go.RowKit
open Reg (Is Fact)
open St (Tx As Ch)

/-- A region with one call, operation c: what has come up, and the world. -/
def C1 (c : Nat) (wr : World) (q h : Nat) (Post : World → Prop) (L : Nat → Bool) (w : World) : Prop :=
  Keeps [q, h] wr w ∧ (L c = false → Keeps [] wr w) ∧ (L c = true → Post w)
theorem C1.start {c : Nat} {wr : World} {q h n : Nat} {Post : World → Prop} (hc : c < n) : C1 c wr q h Post (fun k => decide (n ≤ k)) wr.drew :=
  ⟨(Keeps.refl _ _).drew, fun _ => (Keeps.refl _ _).drew, fun hl => by simp at hl; omega⟩
theorem C1.lay {c : Nat} {wr w w' : World} {q h : Nat} {Post : World → Prop} {L : Nat → Bool} {i : Nat} (x : C1 c wr q h Post L w) (hi : i ≠ c) (hk : Keeps [] w w') (hP : Post w → Post w') : C1 c wr q h Post (Reg.lay L i) w' := by
  have e : Reg.lay L i c = L c := lay_ne hi
  exact ⟨x.1.trans hk (by simp), fun hl => (x.2.1 (by rw [← e]; exact hl)).trans hk (by simp), fun hl => hP (x.2.2 (by rw [← e]; exact hl))⟩
theorem C1.done {c : Nat} {wr w w' : World} {q h : Nat} {Post : World → Prop} {L : Nat → Bool} (hk : Keeps [] wr w) (q3 : Keeps [q, h] w w') (hP : Post w') : C1 c wr q h Post (Reg.lay L c) w' := by
  refine ⟨(hk.mono (by simp)).trans q3 (fun _ h _ => h), fun hl => ?_, fun _ => hP⟩
  rw [lay_eq] at hl
  cases hl
theorem pairs_one {w : World} {x : Nat} {c : Ch} (hx : ∀ j u, (#[.string (strO c.key), .string (strO c.val), .bool c.gone] : Array Value)[j]? = some u → w.cell? ⟨x, j, none⟩ = some u) : PairsIn w x (some ⟨x, 0, none⟩) [c] :=
  .inr ⟨0, rfl, fun k hk => by
    have : k = 0 := by simpa using hk
    subst this
    exact ⟨hx 0 _ rfl, hx 1 _ rfl, hx 2 _ rfl⟩⟩
/-- What store.Open gives of the records of cs. -/
def SOpenP (w : World) (S : List Nat) (R : Nat → Nat → World → Prop) (cs : List Ch) (e : Ending) (w' : World) : Prop :=
  ∃ sp mb lp W, e = .returned (.tuple #[.pointer (some ⟨sp, 0, none⟩), .int .i64 0]) ∧ StAt w' sp mb lp false (St.apps [] cs) ∧ R lp W w' ∧ w.heap.size ≤ W ∧ W ≤ sp ∧ W ≤ mb ∧ Keeps S w w'
attribute [local go_sem] Reg.wantedV Reg.gives_value Reg.gives_skip Reg.gives_enter
set_option maxHeartbeats 8000000 in
set_option maxRecDepth 100000 in
theorem sopen_gen (w : World) (dp : Nat) (S : List Nat) (cs : List Ch) (R : Nat → Nat → World → Prop) (hR : ∀ n W w1 w2, R n W w1 → Keeps [] w1 w2 → R n W w2) (hs : ∀ c ∈ cs, c.size ≤ 1048512) (hl : cs.length ≤ 100000) (hS : ∀ x ∈ S, x < w.heap.size)
    (hopen : Calls Tryz.prog 28 #[.pointer (some ⟨dp, 0, none⟩)] w fun e w1 => ∃ lp A c, e = .returned (.tuple #[.pointer (some ⟨lp, 0, none⟩), .slice A (cs.map St.rec).length c, .int .i64 0]) ∧ RowsIn w1 (fun _ => True) A (cs.map St.rec) ∧ R lp w1.heap.size w1 ∧ Keeps S w w1) :
    Calls Tryz.prog 12 #[.pointer (some ⟨dp, 0, none⟩)] w (SOpenP w S R cs) := by
  have HR := Lib.hid hR
  have HS := Lib.hid hs
  have HSL := Lib.hid hS
  have HO := Lib.hid hopen
  clear hR hs hopen hS
  have hmm := @run_makeMap Tryz.prog
  go_enter Tryz.func12, Tryz.ntmps12
  go_wp2_with fail
  refine HO.out.mono ?_
  rintro e w1 ⟨lp, A, c, rfl, hrow, hr, hk1⟩
  have HROW := Lib.hid hrow.low
  have HR1 := Lib.hid hr
  have HK1 := Lib.hid hk1
  have HLEN := Lib.hid (show (cs.map St.rec).length = cs.length by simp)
  obtain ⟨rs, hrs⟩ : ∃ rs, rs = cs.map St.rec := ⟨_, rfl⟩
  rw [← hrs] at HROW HLEN
  rw [← hrs]
  have HRS := Lib.hid hrs
  have hrl : rs.length ≤ 100000 := by rw [HLEN.out]; exact hl
  have hm0 := MapAt.made w1 EP
  have hkA : Keeps [] w1 (w1.alloc (.map #[] 0)) := (Keeps.refl _ _).alloc _
  have hkB : Keeps [] (w1.alloc (.map #[] 0)) ((w1.alloc (.map #[] 0)).alloc (.cells #[.map (some w1.heap.size), .pointer (some ⟨lp, 0, none⟩), .bool false] 46)) := (Keeps.refl _ _).alloc _
  have hsp : (w1.alloc (.map #[] 0)).heap.size = w1.heap.size + 1 := by simp
  have HST := Lib.hid (show StAt ((w1.alloc (.map #[] 0)).alloc (.cells #[.map (some w1.heap.size), .pointer (some ⟨lp, 0, none⟩), .bool false] 46)) (w1.heap.size + 1) w1.heap.size lp false [] from
    ⟨by have := heap_alloc_new (w1.alloc (.map #[] 0)) (.cells #[.map (some w1.heap.size), .pointer (some ⟨lp, 0, none⟩), .bool false] 46); rwa [hsp] at this, hm0.keep hkB (by simp)⟩)
  have HKB := Lib.hid (hkA.trans hkB (by simp))
  clear hrow hr hk1 hrs hm0 hkA hkB hsp
  go_wp2_with fail
  go_loopw [28] (fun kv wr => ∃ k : Nat, k ≤ rs.length ∧ kv = .int .i64 (k : Int) ∧ StAt wr (w1.heap.size + 1) w1.heap.size lp false (St.apps [] (cs.take k)) ∧ Keeps [] w1 wr) (fun kv _ => rs.length - (RowKit.intOf kv).toNat)
  case atStart => exact ⟨0, by omega, rfl, HST.out, HKB.out⟩
  case round =>
    obtain ⟨k, hk, rfl, hst, hkk⟩ := hrel
    have HSTK := Lib.hid hst
    have HKK := Lib.hid hkk
    clear hst hkk
    by_cases hlt : k < rs.length
    · have hltc : k < cs.length := by rw [← HLEN.out]; exact hlt
      rcases HROW.out with h0 | ⟨b, off, rfl, hb, hcell⟩
      · subst h0; simp at hlt
      · obtain ⟨v, hv, A', g, cap, rfl, hbi, hlc, hmc, hg⟩ := hcell k hlt
        have hrk : rs[k] = St.rec cs[k] := by simp only [HRS.out]; simp
        have hsz := HS.out _ (List.getElem_mem hltc)
        have HTK := Lib.hid (show St.apps [] (cs.take (k + 1)) = St.app (St.apps [] (cs.take k)) (St.trim cs[k]) by rw [List.take_succ_eq_append_getElem hltc, St.apps_snoc, St.app_trim])
        have HLL := Lib.hid (len_apps (cs.take k) [])
        obtain ⟨l1, hl1⟩ : ∃ l1, l1 = St.apps [] (cs.take k) := ⟨_, rfl⟩
        rw [← hl1] at HSTK HTK HLL
        obtain ⟨ch, hch⟩ : ∃ ch, ch = cs[k] := ⟨_, rfl⟩
        rw [← hch] at hsz hrk HTK
        have hlen : rs[k].length = (St.rec ch).length := by rw [hrk]
        rw [hrk] at hbi
        rw [hlen] at hv
        have d1 := HKK.out.cell_some hv (by simp)
        have HP := Lib.hid (pair_any wr g A' ch cap (hbi.keep HKK.out (by simp)) hsz)
        obtain ⟨n, hn⟩ : ∃ n, n = (St.rec ch).length := ⟨_, rfl⟩
        rw [← hn] at d1 HP
        have HSZ := Lib.hid (show (St.trim ch).size ≤ 1048512 by
          unfold St.trim
          split
          · show ch.key.length + ([] : Tx).length ≤ _
            have : ch.key.length + ch.val.length ≤ 1048512 := hsz
            simp; omega
          · exact hsz)
        clear hcell hv hbi hlc hmc hg hsz hrk hlen hl1 hch hn hb
        obtain ⟨tc, htc⟩ : ∃ tc, tc = St.trim ch := ⟨_, rfl⟩
        unfold PairP at HP
        rw [← htc] at HP HSZ HTK
        have HCH := Lib.hid (fun (w' : World) (x : Nat) (hm : MapAt w' w1.heap.size EP l1) (hp : PairsIn w' x (some ⟨x, 0, none⟩) [tc]) (hx : x ≠ w1.heap.size) => change_any' w' w1.heap.size l1 hm x (some ⟨x, 0, none⟩) [tc] 1 hp hx (fun d hd => by
          have : d = tc := by simpa using hd
          rw [this]; exact HSZ.out) (by simp) (by have := HLL.out; rw [List.length_take] at this; simp at this; omega))
        have HPO := Lib.hid (fun (w' : World) (x : Nat) => pairs_one (w := w') (x := x) (c := tc))
        obtain ⟨ka, hka⟩ : ∃ a, a = strO tc.key := ⟨_, rfl⟩
        obtain ⟨va, hva⟩ : ∃ a, a = strO tc.val := ⟨_, rfl⟩
        obtain ⟨ga, hga⟩ : ∃ a, a = tc.gone := ⟨_, rfl⟩
        rw [← hka, ← hva, ← hga] at HP
        simp only [← hka, ← hva, ← hga] at HPO
        clear htc hka hva hga
        go_wp2_with fail
        refine HP.out.mono ?_
        rintro e w2 ⟨rfl, hk2⟩
        have hk2' : Keeps [] wr (w2.alloc (.cells #[.string ka, .string va, .bool ga] 66)) := hk2.trans ((Keeps.refl [] w2).alloc (.cells #[.string ka, .string va, .bool ga] 66)) (by simp)
        have HK2 := Lib.hid (HKK.out.trans hk2' (by simp))
        have HST2 := Lib.hid (HSTK.out.keep0 hk2')
        have hb2 := heap_alloc_new w2 (.cells #[.string ka, .string va, .bool ga] 66)
        have HB0 := Lib.hid (show (w2.alloc (.cells #[.string ka, .string va, .bool ga] 66)).cell? ⟨w2.heap.size, 0, none⟩ = some (.string ka) by rw [row_cell hb2]; rfl)
        have HB1 := Lib.hid (show (w2.alloc (.cells #[.string ka, .string va, .bool ga] 66)).cell? ⟨w2.heap.size, 1, none⟩ = some (.string va) by rw [row_cell hb2]; rfl)
        have HB2 := Lib.hid (show (w2.alloc (.cells #[.string ka, .string va, .bool ga] 66)).cell? ⟨w2.heap.size, 2, none⟩ = some (.bool ga) by rw [row_cell hb2]; rfl)
        have hs2 : w1.heap.size + 1 < w2.heap.size := by have h1 := HSTK.out.lt.1; have h2 := hk2.size; omega
        have HS2 := Lib.hid hs2
        have HC0 := Lib.hid HST2.out.c0
        have HN0 := Lib.hid (show w1.heap.size + 1 ∉ [w1.heap.size, w1.heap.size] by simp)
        have HN1 := Lib.hid (show w2.heap.size ∉ [w1.heap.size, w1.heap.size] by simp; omega)
        clear hk2 hk2' hb2 hs2
        go_wp2_with fail
        refine Reg.wp_region_state (A := ?A) (C1 6 (w2.alloc (.cells #[.string ka, .string va, .bool ga] 66)) w1.heap.size w1.heap.size (fun w' => StAt w' (w1.heap.size + 1) w1.heap.size lp false (St.app l1 tc))) (GK w1.heap.size w1.heap.size)
          [Is (.pointer (some ⟨w1.heap.size + 1, 0, none⟩)), Is (.pointer (some ⟨w1.heap.size + 1, 0, none⟩)), Is (.pointer (some ⟨w1.heap.size + 1, 0, none⟩)), Is (.map (some w1.heap.size)), Is (.agg #[.string ka, .string va, .bool ga]), RowF w1.heap.size w1.heap.size 1 #[.string ka, .string va, .bool ga], Is (.tuple #[])]
          (by kernel_rfl) (by kernel_rfl) rfl ?hA ?hC ?ho ?hlast ?hend
        case hA => intro vs; simp only [Reg.fill, if_true, Nat.zero_add, Nat.reduceAdd, Act.put, List.setIfInBounds_toArray, List.set_cons_succ, List.set_cons_zero]; exact rfl
        case hC => exact C1.start (n := 7) (by decide)
        case hlast => repeat (first | exact trivial | refine ⟨Is.lastK, ?_⟩ | refine ⟨RowF.last, ?_⟩)
        case ho =>
          repeat' apply And.intro
          all_goals
            first
              | exact trivial
              | (intro L vs w' hC hL hd K hK
                 try simp only [Reg.Deps, Reg.at_, List.getD_cons_zero, List.getD_cons_succ, Region.binds, true_implies, Is, and_true] at hd
                 have hx0' := hC.1.cell_some HC0.out HN0.out
                 have hy0' := hC.1.cell_some HB0.out HN1.out
                 have hy1' := hC.1.cell_some HB1.out HN1.out
                 have hy2' := hC.1.cell_some HB2.out HN1.out
                 go_simp
                 first
                   | exact hK _ _ (hC.lay (by decide) (Keeps.refl _ _) (fun h => h)) (GK.same _ _ _) rfl
                   | skip)
          · have hka : Keeps [] w' (w'.alloc (.cells #[.string ka, .string va, .bool ga] 66)) := (Keeps.refl [] w').alloc _
            exact hK _ _ (hC.lay (by decide) hka (fun h => h.keep0 hka)) (GK.of hka) (RowF.new (by have := HS2.out; simp; omega) hC.1.size)
          · obtain ⟨-, x, hx, hxb, hx1, -⟩ := hd
            rw [hx]
            have hk8 := hC.2.1 hL
            refine (HCH.out w' x (HST2.out.map.keep hk8 (by simp)) (HPO.out w' x hxb) hx1).mono ?_
            rintro e w'' ⟨rfl, hm, hk⟩
            have hk' : Keeps [w1.heap.size, w1.heap.size] w' w'' := hk.mono (fun i hi _ => by simp at hi ⊢; exact hi)
            exact ⟨_, rfl, hK _ _ (C1.done hk8 hk' ⟨block_keep (HST2.out.keep0 hk8).box hk (by simp), by simpa [St.apps] using hm⟩) hk' rfl⟩
        case hend =>
          intro vs w3 hC hall
          have HST3 := Lib.hid (hC.2.2 rfl)
          have HK3 := Lib.hid (HK2.out.fresh hC.1 (by simp))
          clear hC hall
          go_wp2_with fail
          go_roundw
          case rel => exact ⟨k + 1, hlt, by go_num, by rw [HTK.out]; exact HST3.out, HK3.out⟩
          case measure => simp [RowKit.intOf]; omega
    · have HF := Lib.hid (show St.apps [] (cs.take k) = St.apps [] cs by rw [List.take_of_length_le (by rw [← HLEN.out]; omega)])
      go_wp2_with fail
      go_ret2
      have hs1 := HK1.out.size
      refine ⟨w1.heap.size + 1, w1.heap.size, lp, w1.heap.size, rfl, by rw [← HF.out]; exact HSTK.out, HR.out _ _ _ _ HR1.out HKK.out, hs1, by omega, Nat.le_refl _, HK1.out.trans (HKK.out.mono (T := S) (by simp)) (fun _ hi _ => hi)⟩
end Go.Proofs.YtbanpdeganlndaaGreatDoor
namespace Go.Proofs.YtbanpdeganlndaaGreatDoor
open Go.RowKit
open St (Tx As Ch)

/-- A log on a disk that has power, which may be scheduled to go. -/
structure GR (w0 w : World) (h : DH) (B : Nat → Prop) (lp : Nat) (d : Dk) (g : Lg) (rs : List (List UInt8)) (N s : Nat) : Prop where
  live : Live w h B lp d g rs
  alive : d.dead = false
  secs : d.dur.length = N
  size : d.size = s
  keeps : Keeps [] w0 w
  new : w0.heap.size ≤ lp ∧ ∀ x ∈ h.l, w0.heap.size ≤ x
  tab0 : TabAt w0
  pos : 1 < w0.heap.size
/-- What is left where power went: a dead disk, and what a crash may make of it. -/
structure GD (w0 w : World) (h : DH) (B : Nat → Prop) (d : Dk) (rs next : List (List UInt8)) (N s : Nat) : Prop where
  disk : DskAt w h B d
  mid : Mid d N s (fun v => (∃ a u, L.Loads N s v a u rs) ∨ ∃ a u, L.Loads N s v a u next)
  keeps : Keeps [] w0 w
  new : ∀ x ∈ h.l, w0.heap.size ≤ x
  tab0 : TabAt w0
  pos : 1 < w0.heap.size
/-- A disk behind a crash. -/
structure GF (w0 w : World) (h : DH) (B : Nat → Prop) (d : Dk) (rec : List (List UInt8)) (N s : Nat) : Prop where
  disk : DskAt w h B d
  lit : Lit_ d
  secs : d.dur.length = N
  size : d.size = s
  loads : ∃ a u, L.Loads N s d.last a u rec
  keeps : Keeps [] w0 w
  new : ∀ x ∈ h.l, w0.heap.size ≤ x
  tab0 : TabAt w0
  pos : 1 < w0.heap.size
/-- The two ends of a change that fits. -/
def OutG (w0 w w' : World) (h : DH) (B : Nat → Prop) (lp : Nat) (d : Dk) (a u : Nat) (rs next : List (List UInt8)) (N s n : Nat) : Prop :=
  ∃ B' d', (∀ y, B' y → B y ∨ w.heap.size ≤ y) ∧ ((n = 0 ∧ (Lit_ d → Lit_ d') ∧ GR w0 w' h B' lp d' ⟨a, u, next.length, true⟩ next N s) ∨ (n = 32 ∧ ¬ Lit_ d ∧ d'.dead = true ∧ GD w0 w' h B' d' rs next N s))
section
variable {w0 w w' : World} {h : DH} {B : Nat → Prop} {lp : Nat} {d : Dk} {g : Lg} {rs next rec ls : List (List UInt8)} {N s : Nat}
theorem GR.tab (r : GR w0 w h B lp d g rs N s) : TabAt w := r.tab0.keep r.keeps (by simp)
theorem GR.low (r : GR w0 w h B lp d g rs N s) : ∀ x ∈ lp :: h.l, x < w.heap.size := fun x hx => by
  rcases List.mem_cons.1 hx with rfl | hx
  · exact r.live.log.lt
  · have := r.live.disk.lt
    simp [DH.l] at hx
    omega
theorem GR.step (r : GR w0 w h B lp d g rs N s) (hk : Keeps [] w w') : GR w0 w' h B lp d g rs N s := ⟨r.live.keep0 hk, r.alive, r.secs, r.size, r.keeps.trans hk (by simp), r.new, r.tab0, r.pos⟩
theorem GR.beside (r : GR w0 w h B lp d g rs N s) {x : Nat} (hk : Keeps [x] w w') (hx : x ∉ lp :: h.l) (hB : ¬ B x) (h0 : w0.heap.size ≤ x) : GR w0 w' h B lp d g rs N s :=
  ⟨r.live.keep hk (fun y hy => by
    obtain rfl : y = x := by simpa using hy
    exact ⟨fun hm => hx (by simp [hm]), hB, fun e => hx (by simp [e])⟩), r.alive, r.secs, r.size, r.keeps.fresh hk (by simpa using h0), r.new, r.tab0, r.pos⟩
theorem GR.on (r : GR w0 w h B lp d g rs N s) (hk : Keeps (lp :: h.l) w w') : Keeps [] w0 w' :=
  ((r.keeps.mono (T := lp :: h.l) (by simp)).trans hk (fun _ hi _ => hi)).mono (fun i hi hlt => by
    rcases List.mem_cons.1 hi with rfl | hi
    · have := r.new.1; omega
    · have := r.new.2 i hi; omega)
theorem GR.zero (r : GR w0 w h B lp d g rs N s) : 1 ∉ h.l := fun hm => by have := r.new.2 1 hm; have := r.pos; omega
theorem GR.cut (r : GR w0 w h B lp d g rs N s) (n : Nat) (hn : n ≤ 1000) : Calls Tryz.prog 18 #[.pointer (some ⟨h.p, 3, none⟩), .int .i64 (n : Int)] w fun e w' => e = .returned (.tuple #[]) ∧ Keeps [h.p] w w' ∧ GR w0 w' h B lp (d.cutIn n) g rs N s := by
  refine (cut_any w h B d r.live.disk (n : Int) (by unfold Wide; omega)).mono ?_
  rintro e w' ⟨rfl, hx, hk⟩
  have hne := r.live.log.ne r.live.disk
  exact ⟨rfl, hk, ⟨hx, r.live.log.keep hk (by simpa using hne.1), r.live.sep, r.live.good.cut n hn⟩, r.alive, r.secs, r.size, r.on (hk.mono (fun y hy _ => by
    have : y = h.p := by simpa using hy
    simp [this, DH.l])), r.new, r.tab0, r.pos⟩
theorem outg {r : Nat × Dk × Lg} {a u n : Nat} {B' : Nat → Prop} (x : GR w0 w h B lp d g rs N s) (hd : Did d g rs a u next r) (hk : Keeps (lp :: h.l) w w') (hlog : LogAt w' lp h.p r.2.2) (hx : DskAt w' h B' r.2.1) (hB : ∀ y, B' y → B y ∨ w.heap.size ≤ y) (hn : n = r.1) : OutG w0 w w' h B lp d a u rs next N s n := by
  have hsep : ¬ B' lp := fun hq => by rcases hB lp hq with h1 | h1; exact x.live.sep h1; have := x.live.log.lt; omega
  rcases hd with ⟨n0, F, hdead, hg, hgood⟩ | ⟨n0, G⟩
  · exact ⟨B', r.2.1, hB, .inl ⟨hn.trans n0, fun hl => hl.flat F hdead, by rw [← hg]; exact ⟨⟨hx, hlog, hsep, hgood⟩, hdead, F.len.trans x.secs, F.size.trans x.size, x.on hk, x.new, x.tab0, x.pos⟩⟩⟩
  · refine ⟨B', r.2.1, hB, .inr ⟨hn.trans n0, fun hl => ?_, G.dead, hx, ⟨G.ok, G.len.trans x.secs, G.size.trans x.size, fun v hv => ?_⟩, x.on hk, x.new.2, x.tab0, x.pos⟩⟩
    · rcases G.why with q | q
      · rw [hl.1] at q; cases q
      · rw [hl.2] at q; cases q
    · have := G.safe v hv
      rw [x.secs, x.size] at this
      exact this.imp (fun q => ⟨_, _, q⟩) (fun q => ⟨_, _, q⟩)
theorem GR.commit {G : Nat → Prop} {A : Option Addr} (cap : Nat) (x : GR w0 w h B lp d g rs N s) (hr : RowsIn w G A ls) (hb : (L.body ls).length < 4294967296) (hf : fitErr (L.cap N - g.used) s ls = 0) (hc : rs.length ≤ 1000000) :
    Calls Tryz.prog 60 #[.pointer (some ⟨lp, 0, none⟩), .slice A ls.length cap] w fun e w' => ∃ n : Nat, e = .returned (.int .i64 (n : Int)) ∧ Keeps (lp :: h.l) w w' ∧ OutG w0 w w' h B lp d g.area (g.used + L.nsec ls s) rs (rs ++ ls) N s n := by
  refine (commit_live x.live x.tab hr hb (by omega)).mono ?_
  rintro e w' ⟨he, hk, hlog, B', hx, _, hB⟩
  refine ⟨_, he, hk, ?_⟩
  rcases commit_did x.live.good (ls := ls) hb with ⟨e1, _⟩ | ⟨_, e2⟩
  · rw [x.size, x.secs] at e1; exact absurd hf e1
  · rw [x.size] at e2
    exact outg x e2 hk hlog hx hB rfl
theorem GR.reset {G : Nat → Prop} {A : Option Addr} (cap : Nat) (x : GR w0 w h B lp d g rs N s) (hr : RowsIn w G A ls) (hb : (L.body ls).length < 4294967296) (hf : fitErr (L.cap N) s ls = 0) :
    Calls Tryz.prog 53 #[.pointer (some ⟨lp, 0, none⟩), .slice A ls.length cap] w fun e w' => ∃ n : Nat, e = .returned (.int .i64 (n : Int)) ∧ Keeps (lp :: h.l) w w' ∧ OutG w0 w w' h B lp d (1 - g.area) (L.nsec ls s) rs ls N s n := by
  refine (reset_live x.live x.tab hr hb).mono ?_
  rintro e w' ⟨he, hk, hlog, B', hx, _, hB⟩
  refine ⟨_, he, hk, ?_⟩
  rcases reset_did x.live.good (ls := ls) hb with ⟨e1, _⟩ | ⟨_, e2⟩
  · rw [x.size, x.secs] at e1; exact absurd hf e1
  · rw [x.size] at e2
    exact outg x e2 hk hlog hx hB rfl
theorem GD.crash (x : GD w0 w h B d rs next N s) (keep : Nat) (hkeep : keep < 18446744073709551616) :
    Calls Tryz.prog 20 #[.pointer (some ⟨h.p, 0, none⟩), .int .u64 (keep : Int), .int .i64 (-1), .int .i64 0] w fun e w' => e = .returned (.tuple #[]) ∧ Keeps h.l w w' ∧ ∃ rec, (rec = rs ∨ rec = next) ∧ GF w0 w' h B (d.crash keep) rec N s := by
  refine (crash_any w h B d x.disk keep hkeep (-1) (by omega)).mono ?_
  rintro e w' ⟨rfl, hx, hk⟩
  obtain ⟨_, h2, h3, _, h5⟩ := crash_facts x.disk.ok keep
  have hk0 : Keeps [] w0 w' := ((x.keeps.mono (T := h.l) (by simp)).trans hk (fun _ hi _ => hi)).mono (fun i hi hlt => by have := x.new i hi; omega)
  refine ⟨rfl, hk, ?_⟩
  rcases x.mid.crash keep with q | q
  · exact ⟨rs, .inl rfl, hx, h5, h2.trans x.mid.2.1, h3.trans x.mid.2.2.1, q, hk0, x.new, x.tab0, x.pos⟩
  · exact ⟨next, .inr rfl, hx, h5, h2.trans x.mid.2.1, h3.trans x.mid.2.2.1, q, hk0, x.new, x.tab0, x.pos⟩
theorem GR.dead (x : GR w0 w h B lp d g rs N s) : GD w0 w h B d rs rs N s :=
  ⟨x.live.disk, mid_flat x.live.disk.ok x.secs x.size x.live.good.flat (.inl ⟨_, _, by have := x.live.good.loads; rw [x.secs, x.size] at this; exact this⟩), x.keeps, x.new.2, x.tab0, x.pos⟩
theorem GF.opens (x : GF w0 w h B d rec N s) (hN : 16 ≤ N) (hs : 128 ≤ s) :
    Calls Tryz.prog 28 #[.pointer (some ⟨h.p, 0, none⟩)] w fun e w' => ∃ lp A c d' g, e = .returned (.tuple #[.pointer (some ⟨lp, 0, none⟩), .slice A rec.length c, .int .i64 0]) ∧ RowsIn w' (fun _ => True) A rec ∧ Keeps h.l w w' ∧ w.heap.size ≤ lp ∧ Lit_ d' ∧ GR w0 w' h B lp d' g rec N s := by
  obtain ⟨a, u, hl⟩ := x.loads
  refine (open_go x.disk (x.tab0.keep x.keeps (by simp)) (fun hm => by have := x.new 1 hm; have := x.pos; omega) x.lit.power (by rw [x.secs]; exact hN) (by rw [x.size]; omega) (by rw [x.secs, x.size]; exact hl)).mono ?_
  rintro e w' ⟨lp, v, d', rfl, F, hd, _, hL, hro, hlp, hk⟩
  obtain ⟨A, c, rfl, hrow⟩ := hro.fits
  exact ⟨lp, A, c, d', _, rfl, hrow.keep (Keeps.refl [] _) (by simp) (fun _ _ => trivial), hk, hlp, ⟨hd, by rw [F.cut]; exact x.lit.2⟩, hL, hd, F.len.trans x.secs, F.size.trans x.size, ((x.keeps.mono (T := h.l) (by simp)).trans hk (fun _ hi _ => hi)).mono (fun i hi hlt => by have := x.new i hi; omega), ⟨by have := x.keeps.size; omega, x.new⟩, x.tab0, x.pos⟩
/-- Opened once more, where there is power. -/
theorem GR.opens (x : GR w0 w h B lp d g rs N s) (hd : Lit_ d) :
    Calls Tryz.prog 28 #[.pointer (some ⟨h.p, 0, none⟩)] w fun e w' => ∃ lp' A c d', e = .returned (.tuple #[.pointer (some ⟨lp', 0, none⟩), .slice A rs.length c, .int .i64 0]) ∧ RowsIn w' (fun _ => True) A rs ∧ Keeps h.l w w' ∧ w.heap.size ≤ lp' ∧ Lit_ d' ∧ GR w0 w' h B lp' d' ⟨g.area, g.used, rs.length, false⟩ rs N s := by
  refine (open_live x.live hd x.tab x.zero).mono ?_
  rintro e w' ⟨lp', v, d', rfl, hF, hd', hl, hL, hR, hlp, hk⟩
  obtain ⟨A, c, rfl, hrow⟩ := hR.fits
  have hk' : Keeps (lp :: h.l) w w' := hk.mono (fun i hi _ => by simp [hi])
  have hlit : Lit_ d' := ⟨hd', by rw [hF.cut]; exact hd.2⟩
  exact ⟨lp', A, c, d', rfl, hrow.keep (Keeps.refl [] _) (by simp) (fun _ _ => trivial), hk, hlp, hlit, hL, hd', hF.len.trans x.secs, hF.size.trans x.size, x.on hk', ⟨by have := x.keeps.size; omega, x.new.2⟩, x.tab0, x.pos⟩
end
/-- A new disk's log. -/
theorem gr_new {w0 w : World} {n s : Nat} {h : DH} {B : Nat → Prop} (hk : Keeps [] w0 w) (ht : TabAt w0) (hp : 1 < w0.heap.size) (hx : DskAt w h B (newD n s)) (hh : ∀ x ∈ h.l, w0.heap.size ≤ x) (hn : 16 ≤ n ∧ n ≤ 4096) (hs : 128 ≤ s ∧ s ≤ 4096) :
    Calls Tryz.prog 28 #[.pointer (some ⟨h.p, 0, none⟩)] w fun e w' => ∃ lp A c d', e = .returned (.tuple #[.pointer (some ⟨lp, 0, none⟩), .slice A 0 c, .int .i64 0]) ∧ Keeps h.l w w' ∧ w.heap.size ≤ lp ∧ Lit_ d' ∧ GR w0 w' h B lp d' ⟨0, 0, 0, false⟩ [] n s := by
  refine (open_first hx (ht.keep hk (by simp)) (fun hm => by have := hh 1 hm; omega) hn hs).mono ?_
  rintro e w2 ⟨lp, A, c, d, rfl, h1, h2, h3, h4, h5, h6⟩
  exact ⟨lp, A, c, d, rfl, h6, h5, h3, h4, h3.1, h1, h2, hk.fresh h6 hh, ⟨by have := hk.size; omega, hh⟩, ht, hp⟩
end Go.Proofs.YtbanpdeganlndaaGreatDoor
namespace Go.Proofs.YtbanpdeganlndaaGreatDoor
open Go.RowKit
open St (Tx As Ch)

theorem GD.beside {w0 w w' : World} {h : DH} {B : Nat → Prop} {d : Dk} {rs next : List (List UInt8)} {N s : Nat} {S : List Nat} (r : GD w0 w h B d rs next N s) (hk : Keeps S w w') (hS : ∀ y ∈ S, y ∉ h.l ∧ ¬ B y ∧ w0.heap.size ≤ y) : GD w0 w' h B d rs next N s :=
  ⟨r.disk.keep hk (fun y hy => ⟨(hS y hy).1, (hS y hy).2.1⟩), r.mid, r.keeps.fresh hk (fun y hy => (hS y hy).2.2), r.new, r.tab0, r.pos⟩
/-- A store whose disk has power. -/
structure SR (w0 w : World) (h : DH) (B : Nat → Prop) (lp : Nat) (d : Dk) (g : Lg) (sp mb : Nat) (cs : List Ch) (l : As) (N s : Nat) : Prop where
  gr : GR w0 w h B lp d g (cs.map St.rec) N s
  st : StAt w sp mb lp false l
  eq : l.Perm (St.apps [] cs)
  new : w0.heap.size ≤ sp ∧ w0.heap.size ≤ mb
  sep : ¬ B sp ∧ ¬ B mb ∧ sp ∉ lp :: h.l ∧ mb ∉ lp :: h.l
/-- A store that is down: its power went under a change from cs to next. -/
structure SN (w0 w : World) (h : DH) (B : Nat → Prop) (d : Dk) (sp mb lp : Nat) (cs next : List Ch) (l : As) (N s : Nat) : Prop where
  gd : GD w0 w h B d (cs.map St.rec) (next.map St.rec) N s
  st : StAt w sp mb lp true l
  eq : l.Perm (St.apps [] cs)
  new : w0.heap.size ≤ sp ∧ w0.heap.size ≤ mb
  sep : ¬ B sp ∧ ¬ B mb ∧ sp ∉ h.l ∧ mb ∉ h.l
section
variable {w0 w w' : World} {h : DH} {B : Nat → Prop} {lp sp mb : Nat} {d : Dk} {g : Lg} {cs next ds : List Ch} {l : As} {N s : Nat}
theorem SR.step (r : SR w0 w h B lp d g sp mb cs l N s) (hk : Keeps [] w w') : SR w0 w' h B lp d g sp mb cs l N s := ⟨r.gr.step hk, r.st.keep0 hk, r.eq, r.new, r.sep⟩
theorem SN.step (r : SN w0 w h B d sp mb lp cs next l N s) (hk : Keeps [] w w') : SN w0 w' h B d sp mb lp cs next l N s := ⟨r.gd.beside hk (by simp), r.st.keep0 hk, r.eq, r.new, r.sep⟩
theorem SR.low (r : SR w0 w h B lp d g sp mb cs l N s) : ∀ x ∈ mb :: sp :: lp :: h.l, x < w.heap.size := fun x hx => by
  rcases List.mem_cons.1 hx with rfl | hx
  · exact r.st.lt.2
  · rcases List.mem_cons.1 hx with rfl | hx
    · exact r.st.lt.1
    · exact r.gr.low x hx
theorem SR.high (r : SR w0 w h B lp d g sp mb cs l N s) : ∀ x ∈ mb :: sp :: lp :: h.l, w0.heap.size ≤ x := fun x hx => by
  rcases List.mem_cons.1 hx with rfl | hx
  · exact r.new.2
  · rcases List.mem_cons.1 hx with rfl | hx
    · exact r.new.1
    · rcases List.mem_cons.1 hx with rfl | hx
      · exact r.gr.new.1
      · exact r.gr.new.2 x hx
theorem SR.keyed (r : SR w0 w h B lp d g sp mb cs l N s) : St.Keyed l := r.st.map.1
/-- What a change of a store leaves. -/
def SOut (w0 w' : World) (h : DH) (lp : Nat) (d : Dk) (a u : Nat) (sp mb : Nat) (cs next : List Ch) (l l' : As) (N s m : Nat) : Prop :=
  (m = 0 ∧ ∃ B' d', (Lit_ d → Lit_ d') ∧ SR w0 w' h B' lp d' ⟨a, u, next.length, true⟩ sp mb next l' N s) ∨ (m = 32 ∧ ¬ Lit_ d ∧ ∃ B' d', d'.dead = true ∧ SN w0 w' h B' d' sp mb lp cs next l N s)
theorem SR.apply {gp : Nat} {A : Option Addr} (cap : Nat) (r : SR w0 w h B lp d g sp mb cs l N s) (hp : PairsIn w gp A ds) (hg : ds = [] ∨ gp ∉ mb :: sp :: lp :: h.l) (hs : ∀ c ∈ ds, c.size ≤ 1048512) (hl : ds.length ≤ 100000) (hcl : cs.length ≤ 1000000) (hll : l.length ≤ 1000000)
    (hb : (L.body (ds.map St.rec)).length < 4294967296) (hf : fitErr (L.cap N - g.used) s (ds.map St.rec) = 0) :
    Calls Tryz.prog 14 #[.pointer (some ⟨sp, 0, none⟩), .slice A ds.length cap] w fun e w' => ∃ m : Nat, e = .returned (.int .i64 (m : Int)) ∧ Keeps (mb :: sp :: lp :: h.l) w w' ∧
      SOut w0 w' h lp d g.area (g.used + L.nsec (ds.map St.rec) s) sp mb cs (cs ++ ds) l (St.apps l ds) N s m := by
  have hsl := r.sep.2.2.1
  have hml := r.sep.2.2.2
  have hspl : sp ∉ h.l := fun hm => hsl (by simp [hm])
  have hmpl : mb ∉ h.l := fun hm => hml (by simp [hm])
  have hslp : sp ≠ lp := fun e => hsl (by simp [e])
  have hmlp : mb ≠ lp := fun e => hml (by simp [e])
  have hne := r.st.ne
  obtain ⟨T0, hT0⟩ : ∃ T : World → Prop, T = fun w' => ∃ B' d', (Lit_ d → Lit_ d') ∧ GR w0 w' h B' lp d' ⟨g.area, g.used + L.nsec (ds.map St.rec) s, (cs ++ ds).length, true⟩ ((cs ++ ds).map St.rec) N s ∧ ¬ B' sp ∧ ¬ B' mb := ⟨_, rfl⟩
  obtain ⟨T32, hT32⟩ : ∃ T : World → Prop, T = fun w' => ¬ Lit_ d ∧ ∃ B' d', d'.dead = true ∧ GD w0 w' h B' d' (cs.map St.rec) ((cs ++ ds).map St.rec) N s ∧ ¬ B' sp ∧ ¬ B' mb := ⟨_, rfl⟩
  have k0 : ∀ w1 w2, T0 w1 → Keeps [] w1 w2 → T0 w2 := by
    intro w1 w2 h1 hk
    rw [hT0] at h1 ⊢
    obtain ⟨B', d', q1, q2, q3⟩ := h1
    exact ⟨B', d', q1, q2.step hk, q3⟩
  have k32 : ∀ w1 w2, T32 w1 → Keeps [] w1 w2 → T32 w2 := by
    intro w1 w2 h1 hk
    rw [hT32] at h1 ⊢
    obtain ⟨q0, B', d', q1, q2, q3⟩ := h1
    exact ⟨q0, B', d', q1, q2.beside hk (by simp), q3⟩
  have km : ∀ w1 w2, T0 w1 → Keeps [mb] w1 w2 → T0 w2 := by
    intro w1 w2 h1 hk
    rw [hT0] at h1 ⊢
    obtain ⟨B', d', q1, q2, q3, q4⟩ := h1
    exact ⟨B', d', q1, q2.beside hk hml q4 r.new.2, q3, q4⟩
  refine (apply_gen w (sp :: lp :: h.l) sp mb lp l gp A ds cap T0 T32 r.st hp (hg.imp id (fun hn => ⟨fun hm => hn (by simp [hm]), fun e => hn (by simp [e])⟩)) hs hl hll ?_ km).mono ?_
  · intro wa hka
    refine (add_gen wa (sp :: lp :: h.l) sp mb lp ds.length cap false l A (ds.map St.rec)
      (fun m w2 => (m = 0 ∧ StAt w2 sp mb lp false l ∧ T0 w2) ∨ (m = 32 ∧ StAt w2 sp mb lp false l ∧ T32 w2)) (fun m w2 => DoneP sp mb lp l l T0 T32 m w2) (r.st.keep0 hka) (fun x hx => Nat.lt_of_lt_of_le (r.low x (by simp at hx ⊢; exact .inr hx)) hka.size) ?_ ?_ (.inr (by simp)) ?_ ?_ ?_).mono ?_
    · rintro m w1 w2 (⟨q1, q2, q3⟩ | ⟨q1, q2, q3⟩) hk
      · exact .inl ⟨q1, q2.keep0 hk, k0 _ _ q3 hk⟩
      · exact .inr ⟨q1, q2.keep0 hk, k32 _ _ q3 hk⟩
    · rintro m w1 w2 (⟨q1, q2, q3⟩ | ⟨q1, q2, q3⟩) hk
      · exact .inl ⟨q1, q2.keep0 hk, k0 _ _ q3 hk⟩
      · exact .inr ⟨q1, q2.keep0 hk, k32 _ _ q3 hk⟩
    · intro wb hkb
      refine (records_any wb gp A ds cap ((hp.keep hka (by simp)).keep hkb (by simp)) hs hl).mono ?_
      rintro e w2 ⟨v, rfl, ho, hk⟩
      obtain ⟨Ar, c, rfl, hrow⟩ := ho.fits
      exact ⟨Ar, c, by rw [List.length_map], hrow.keep (Keeps.refl [] _) (by simp) (fun x hx => Nat.le_trans hkb.size hx), hk⟩
    · intro wb Ar c hkb hrow
      have hkk := hka.trans hkb (by simp)
      have hc := (r.gr.step hkk).commit c hrow hb hf (by simpa using hcl)
      rw [List.length_map] at hc
      refine hc.mono ?_
      rintro e w2 ⟨m, rfl, hk, B', d', hB, ho⟩
      have hst2 : StAt w2 sp mb lp false l := (r.st.keep0 hkk).keep hk hsl hml
      have hBsp : ¬ B' sp := fun hq => by rcases hB sp hq with h1 | h1; exact r.sep.1 h1; have := r.st.lt.1; have := hkk.size; omega
      have hBmb : ¬ B' mb := fun hq => by rcases hB mb hq with h1 | h1; exact r.sep.2.1 h1; have := r.st.lt.2; have := hkk.size; omega
      refine ⟨m, rfl, ?_, hk.mono (fun i hi _ => by simp at hi ⊢; exact .inr hi)⟩
      rcases ho with ⟨q1, q2, q3⟩ | ⟨q1, q2, q3, q4⟩
      · refine .inl ⟨q1, hst2, ?_⟩
        rw [hT0]
        exact ⟨B', d', q2, by rw [List.map_append]; simpa using q3, hBsp, hBmb⟩
      · refine .inr ⟨q1, hst2, ?_⟩
        rw [hT32]
        exact ⟨q2, B', d', q3, by rw [List.map_append]; exact q4, hBsp, hBmb⟩
    · rintro wb m (⟨rfl, q2, q3⟩ | ⟨rfl, q2, q3⟩)
      · refine (told_no wb sp 0 (by omega) (by omega)).mono ?_
        rintro e w2 ⟨rfl, rfl⟩
        exact ⟨rfl, .inl ⟨rfl, q2, q3⟩, Keeps.refl _ _⟩
      · refine (told_yes wb sp mb lp false l q2).mono ?_
        rintro e w2 ⟨rfl, rfl⟩
        have hk1 : Keeps [sp] wb (wb.setCell ⟨sp, 2, none⟩ (.bool true)) := (Keeps.refl _ _).setCell (by simp) _
        refine ⟨rfl, .inr ⟨rfl, q2.downs, ?_⟩, hk1.mono (fun i hi _ => by simp at hi ⊢; exact .inl hi)⟩
        rw [hT32] at q3 ⊢
        obtain ⟨p0, B', d', p1, p2, p3, p4⟩ := q3
        exact ⟨p0, B', d', p1, p2.beside hk1 (fun y hy => by
          obtain rfl : y = sp := by simpa using hy
          exact ⟨hspl, p3, r.new.1⟩), p3, p4⟩
    · rintro e w2 ⟨m, rfl, hd, hk⟩
      exact ⟨m, rfl, hd, hk⟩
  · rintro e w2 ⟨m, rfl, hd, hk⟩
    refine ⟨m, rfl, hk, ?_⟩
    have hperm : (St.apps l ds).Perm (St.apps [] (cs ++ ds)) := by rw [St.apps_append]; exact St.apps_perm r.eq ds
    rcases hd with ⟨q1, q2, q3⟩ | ⟨q1, q2, q3⟩
    · rw [hT0] at q3
      obtain ⟨B', d', p1, p2, p3, p4⟩ := q3
      exact .inl ⟨q1, B', d', p1, p2, q2, hperm, r.new, p3, p4, hsl, hml⟩
    · rw [hT32] at q3
      obtain ⟨p0, B', d', p1, p2, p3, p4⟩ := q3
      exact .inr ⟨q1, p0, B', d', p1, p2, q2, r.eq, r.new, p3, p4, hspl, hmpl⟩
/-- What opening gives: a store with the pairs of cs. -/
def SOpened (w0 w : World) (h : DH) (cs : List Ch) (N s : Nat) (e : Ending) (w' : World) : Prop :=
  ∃ sp mb lp B d g, e = .returned (.tuple #[.pointer (some ⟨sp, 0, none⟩), .int .i64 0]) ∧ Lit_ d ∧ g.used ≤ L.cap N ∧ SR w0 w' h B lp d g sp mb cs (St.apps [] cs) N s ∧ Keeps h.l w w' ∧ w.heap.size ≤ sp ∧ w.heap.size ≤ mb
theorem opens_of {G : Lg → Prop} (hs : ∀ c ∈ cs, c.size ≤ 1048512) (hl : cs.length ≤ 100000) (hh : ∀ x ∈ h.l, x < w.heap.size)
    (ho : Calls Tryz.prog 28 #[.pointer (some ⟨h.p, 0, none⟩)] w fun e w' => ∃ lp A c B d g, e = .returned (.tuple #[.pointer (some ⟨lp, 0, none⟩), .slice A (cs.map St.rec).length c, .int .i64 0]) ∧ RowsIn w' (fun _ => True) A (cs.map St.rec) ∧ Keeps h.l w w' ∧ Lit_ d ∧ G g ∧ GR w0 w' h B lp d g (cs.map St.rec) N s) :
    Calls Tryz.prog 12 #[.pointer (some ⟨h.p, 0, none⟩)] w fun e w' => ∃ sp mb lp B d g, e = .returned (.tuple #[.pointer (some ⟨sp, 0, none⟩), .int .i64 0]) ∧ Lit_ d ∧ G g ∧ SR w0 w' h B lp d g sp mb cs (St.apps [] cs) N s ∧ Keeps h.l w w' ∧ w.heap.size ≤ sp ∧ w.heap.size ≤ mb := by
  refine (sopen_gen w h.p h.l cs (fun lp W w' => ∃ B d g, Lit_ d ∧ G g ∧ GR w0 w' h B lp d g (cs.map St.rec) N s ∧ (∀ y, B y → y < W) ∧ (∀ y ∈ lp :: h.l, y < W) ∧ w0.heap.size ≤ W) ?_ hs hl hh (ho.mono ?_)).mono ?_
  · rintro n W w1 w2 ⟨B, d, g, q1, q2, q3, q4⟩ hk
    exact ⟨B, d, g, q1, q2, q3.step hk, q4⟩
  · rintro e w1 ⟨lp, A, c, B, d, g, rfl, hr, hk, hlit, hG, hgr⟩
    exact ⟨lp, A, c, rfl, hr, ⟨B, d, g, hlit, hG, hgr, hgr.live.disk.low, hgr.low, hgr.keeps.size⟩, hk⟩
  · rintro e w' ⟨sp, mb, lp, W, rfl, hst, ⟨B, d, g, hlit, hG, hgr, hB, hlow, hW⟩, h1, h2, h3, hk⟩
    exact ⟨sp, mb, lp, B, d, g, rfl, hlit, hG, ⟨hgr, hst, List.Perm.refl _, ⟨by omega, by omega⟩, fun hq => by have := hB _ hq; omega, fun hq => by have := hB _ hq; omega, fun hq => by have := hlow _ hq; omega, fun hq => by have := hlow _ hq; omega⟩, hk, by omega, by omega⟩
theorem GF.sopens (x : GF w0 w h B d (cs.map St.rec) N s) (hN : 16 ≤ N) (hsz : 128 ≤ s) (hs : ∀ c ∈ cs, c.size ≤ 1048512) (hl : cs.length ≤ 100000) :
    Calls Tryz.prog 12 #[.pointer (some ⟨h.p, 0, none⟩)] w fun e w' => ∃ sp mb lp B d g, e = .returned (.tuple #[.pointer (some ⟨sp, 0, none⟩), .int .i64 0]) ∧ Lit_ d ∧ True ∧ SR w0 w' h B lp d g sp mb cs (St.apps [] cs) N s ∧ Keeps h.l w w' ∧ w.heap.size ≤ sp ∧ w.heap.size ≤ mb := by
  refine opens_of (G := fun _ => True) hs hl (fun y hy => by have := x.disk.lt; simp [DH.l] at hy; omega) ((x.opens hN hsz).mono ?_)
  rintro e w' ⟨lp, A, c, d', g, rfl, h1, h2, _, h4, h5⟩
  exact ⟨lp, A, c, B, d', g, rfl, h1, h2, h4, trivial, h5⟩
theorem SR.opens (r : SR w0 w h B lp d g sp mb cs l N s) (hd : Lit_ d) (hs : ∀ c ∈ cs, c.size ≤ 1048512) (hl : cs.length ≤ 100000) :
    Calls Tryz.prog 12 #[.pointer (some ⟨h.p, 0, none⟩)] w fun e w' => ∃ sp mb lp B d g', e = .returned (.tuple #[.pointer (some ⟨sp, 0, none⟩), .int .i64 0]) ∧ Lit_ d ∧ g'.used = g.used ∧ SR w0 w' h B lp d g' sp mb cs (St.apps [] cs) N s ∧ Keeps h.l w w' ∧ w.heap.size ≤ sp ∧ w.heap.size ≤ mb := by
  refine opens_of (G := fun g' => g'.used = g.used) hs hl (fun y hy => r.low y (by simp [hy])) ((r.gr.opens hd).mono ?_)
  rintro e w' ⟨lp', A, c, d', rfl, h1, h2, _, h4, h5⟩
  exact ⟨lp', A, c, B, d', ⟨g.area, g.used, (cs.map St.rec).length, false⟩, rfl, h1, h2, h4, rfl, h5⟩
end
/-- A new disk's store. -/
theorem sr_new {w0 w : World} {n s : Nat} {e : Ending} {w' : World} (hk : Keeps [] w0 w) (ht : TabAt w0) (hp : 1 < w0.heap.size) (x : NewP w (newD n s) e w') (hn : 16 ≤ n ∧ n ≤ 4096) (hs : 128 ≤ s ∧ s ≤ 4096) :
    ∃ h, e = .returned (.pointer (some ⟨h.p, 0, none⟩)) ∧ Calls Tryz.prog 12 #[.pointer (some ⟨h.p, 0, none⟩)] w' fun e w2 =>
      ∃ sp mb lp B d g, e = .returned (.tuple #[.pointer (some ⟨sp, 0, none⟩), .int .i64 0]) ∧ Lit_ d ∧ g.used = 0 ∧ SR w0 w2 h B lp d g sp mb [] [] n s ∧ Keeps [] w0 w2 := by
  obtain ⟨h, B, rfl, hx, hh, hB, hk1⟩ := x
  have hk01 := hk.trans hk1 (by simp)
  have hh0 : ∀ x ∈ h.l, w0.heap.size ≤ x := fun x hx => by have := hh x hx; have := hk.size; omega
  refine ⟨h, rfl, (opens_of (w0 := w0) (cs := []) (N := n) (s := s) (G := fun g' => g'.used = 0) (by simp) (by simp) (fun y hy => by have := hx.lt; simp [DH.l] at hy; omega) ((gr_new hk01 ht hp hx hh0 hn hs).mono ?_)).mono ?_⟩
  · rintro e w2 ⟨lp, A, c, d, rfl, h1, h2, h3, h4⟩
    exact ⟨lp, A, c, B, d, _, rfl, .inl rfl, h1, h3, rfl, h4⟩
  · rintro e w2 ⟨sp, mb, lp, B, d, g, rfl, h1, h2, h3, h4, _⟩
    exact ⟨sp, mb, lp, B, d, g, rfl, h1, h2, h3, h3.gr.keeps⟩
end Go.Proofs.YtbanpdeganlndaaGreatDoor
namespace Go.Proofs.YtbanpdeganlndaaGreatDoor
open Go.RowKit
open St (Tx As Ch)

set_option maxHeartbeats 1000000 in
theorem key_any (k : Nat) (w : World) (hk : k < 256) :
    Calls Tryz.prog 21 #[.int .u8 (k : Int)] w fun e w' => e = .returned (.string (strO (St.kst k))) ∧ Keeps [] w w' := by
  obtain ⟨j, hj⟩ : ∃ j, j = k % 7 := ⟨_, rfl⟩
  have hj7 : j < 7 := by omega
  have e1 : (k : Int) % 7 = (j : Int) := by omega
  have e2 : (k : Int).tmod 7 = (j : Int) := by rw [Int.tmod_eq_emod_of_nonneg (by omega)]; exact e1
  have HC := Lib.hid (show (w.alloc (.cells #[.string ⟨#[97]⟩, .string ⟨#[97, 47, 98]⟩, .string ⟨#[]⟩, .string ⟨#[98]⟩, .string ⟨#[97, 47]⟩, .string ⟨#[122, 122]⟩, .string ⟨#[97, 47, 99]⟩] 9)).cell? ⟨w.heap.size, j, none⟩ = some (.string (strO (St.kst k))) by
    rw [newc j]
    unfold St.kst
    rw [← hj]
    match j, hj7 with
    | 0, _ => rfl
    | 1, _ => rfl
    | 2, _ => rfl
    | 3, _ => rfl
    | 4, _ => rfl
    | 5, _ => rfl
    | 6, _ => rfl)
  obtain ⟨s, hs⟩ : ∃ s, s = strO (St.kst k) := ⟨_, rfl⟩
  rw [← hs] at HC
  rw [← hs]
  have hcc := HC.out
  clear hj hs HC
  go_enter Tryz.func21, Tryz.ntmps21
  go_wp2
  go_ret
  exact ⟨rfl, (Keeps.refl [] w).alloc _⟩
theorem vst_zeros (i n j : Nat) (hj : j < n) : (St.vst i j ++ List.replicate (n - j) (0 : UInt8)).set j (UInt8.ofNat (13 * i + j)) = St.vst i (j + 1) ++ List.replicate (n - (j + 1)) 0 := by
  have e : n - j = (n - (j + 1)) + 1 := by omega
  rw [St.vst_snoc, e, List.replicate_succ, List.set_append_right _ _ (by rw [St.vst_len]; exact Nat.le_refl _), St.vst_len, Nat.sub_self, List.set_cons_zero, List.append_assoc]; rfl
set_option maxRecDepth 100000 in
set_option maxHeartbeats 4000000 in
theorem value_any (i n : Nat) (w : World) (hi : i ≤ 100000) (hn : n ≤ 255) :
    Calls Tryz.prog 22 #[.int .i64 (i : Int), .int .i64 (n : Int)] w fun e w' => e = .returned (.string (strO (St.vst i n))) ∧ Keeps [] w w' := by
  obtain ⟨iU, hU, hU0, hU1, hU2⟩ := info_parts infoU8
  go_enter Tryz.func22, Tryz.ntmps22
  go_wp2_with (at_make; refine wpList_make_full _ rfl _ _ 62 rfl w.heap.size 5 iU (.int .u8 0) 1 Tryz.underlying62 hU hU0 hU1 .i64 .i64 (n : Int) (n : Int) n rfl rfl rfl rfl (by rw [hU2]; omega) (by unfold maxLen; omega) (Nat.le_refl _) ?_)
  intro w1 ho1 hg1
  have hk1 : Keeps [] w w1 := (Keeps.of_grown hg1).mono (by simp)
  have HZ1 := Lib.hid (made_row ho1)
  have HK1 := Lib.hid hk1
  clear ho1 hg1 hk1
  have e13 : IntKind.i64.wrap (13 * (i : Int)) = 13 * (i : Int) := IntWalk.i64_in _ ⟨by omega, by omega⟩
  go_wp2_with fail
  go_loopw [6] (fun jv wq => ∃ j : Nat, j ≤ n ∧ jv = .int .i64 (j : Int) ∧ U8At wq w.heap.size (St.vst i j ++ List.replicate (n - j) 0) ∧ Keeps [] w wq) (fun jv _ => n - (RowKit.intOf jv).toNat)
  case atStart => exact ⟨0, by omega, rfl, by simpa [St.vst] using HZ1.out, HK1.out⟩
  case round =>
    obtain ⟨j, hj, rfl, hb, hkq⟩ := hrel
    have HU := Lib.hid hb
    have HKQ := Lib.hid hkq
    by_cases hjn : j < n
    · have ej : IntKind.i64.wrap ((j : Int) + 1) = (j : Int) + 1 := IntWalk.i64_in _ ⟨by omega, by omega⟩
      have et : IntKind.i64.wrap (13 * (i : Int) + (j : Int)) = 13 * (i : Int) + (j : Int) := IntWalk.i64_in _ ⟨by omega, by omega⟩
      have hz := row_free hb j
      obtain ⟨y, hc⟩ : ∃ y : Value, wr.cell? ⟨w.heap.size, j, none⟩ = some y := ⟨_, hb.cell (i := j) (by rw [List.length_append, St.vst_len, List.length_replicate]; omega)⟩
      have HVZ := Lib.hid (vst_zeros i n j hjn)
      clear hb hkq
      go_wp2_with fail
      go_roundw
      case rel =>
        refine ⟨j + 1, by omega, by go_num, ?_, HKQ.out.setCell (by simp) _⟩
        rw [← HVZ.out]
        refine HU.out.put j (UInt8.ofNat (13 * i + j)) _ ?_
        rw [L.ofNat_toNat]
        congr 1
        try omega
      case measure => simp [RowKit.intOf]; omega
    · have hjn' : j = n := by omega
      have hE : St.vst i j ++ List.replicate (n - j) (0 : UInt8) = St.vst i n := by rw [hjn', Nat.sub_self]; simp
      rw [hE] at hb
      have HCV := Lib.hid (conv_text wr w.heap.size _ _ n hb.bytes)
      rw [St.vst_len] at HCV
      have hcv := HCV.out
      obtain ⟨s, hs⟩ : ∃ s, s = strOf (St.vst i n) := ⟨_, rfl⟩
      rw [← hs] at hcv
      have HS := Lib.hid hs
      clear hb hkq hE hjn' HCV hs
      go_wp2_with fail
      go_ret
      exact ⟨by rw [HS.out]; rfl, HKQ.out⟩
end Go.Proofs.YtbanpdeganlndaaGreatDoor
namespace Go.Proofs.YtbanpdeganlndaaGreatDoor
open Go.RowKit
open Reg (Is Fact)
open St (Tx As Ch)

/-- A pair as a statement takes it. -/
structure LP where
  k : UInt8
  n : UInt8
  gone : Bool
def mk1 (i : Nat) (p : LP) (j : Nat) : Ch := ⟨St.kst p.k.toNat, St.vst (i + j) p.n.toNat, p.gone⟩
def mkc (i : Nat) (ps : List LP) : List Ch := ps.mapIdx fun j p => mk1 i p j
theorem mkc_len (i : Nat) (ps : List LP) : (mkc i ps).length = ps.length := by simp [mkc]
theorem mkc_get {i : Nat} {ps : List LP} {k : Nat} (h : k < ps.length) : (mkc i ps)[k]'(by rw [mkc_len]; exact h) = mk1 i ps[k] k := by simp [mkc]
theorem mkc_next {i : Nat} {ps : List LP} {k : Nat} (h : k < ps.length) : (mkc i ps).take (k + 1) = (mkc i ps).take k ++ [mk1 i ps[k] k] := by
  rw [List.take_succ_eq_append_getElem (by rw [mkc_len]; exact h), mkc_get h]
theorem u8_lt255 (b : UInt8) : b.toNat ≤ 255 := by have := b.toNat_lt; omega
theorem mkc_ok {i : Nat} {ps : List LP} : ∀ c ∈ mkc i ps, c.key ∈ St.ks ∧ c.key.length ≤ 3 ∧ c.val.length ≤ 255 := by
  intro c hc
  obtain ⟨j, hj, rfl⟩ := List.getElem_of_mem hc
  have hj' : j < ps.length := by rw [mkc_len] at hj; exact hj
  rw [mkc_get hj']
  refine ⟨St.kst_mem _, St.ks_len _ (St.kst_mem _), ?_⟩
  show (St.vst _ _).length ≤ 255
  rw [St.vst_len]
  exact u8_lt255 _
theorem mkc_size {i : Nat} {ps : List LP} : ∀ c ∈ mkc i ps, c.size ≤ 1048512 := fun c hc => by
  obtain ⟨_, h1, h2⟩ := mkc_ok c hc
  unfold St.Ch.size; omega
/-- A slice of a statement's pairs in block g. -/
def LPsIn (w : World) (g : Nat) (A : Option Addr) (ps : List LP) : Prop :=
  ps = [] ∨ ∃ off, A = some ⟨g, off, none⟩ ∧ ∀ k (hk : k < ps.length), w.cell? ⟨g, off + k * 3, none⟩ = some (.int .u8 ((ps[k].k.toNat : Nat) : Int)) ∧ w.cell? ⟨g, off + k * 3 + 1, none⟩ = some (.int .u8 ((ps[k].n.toNat : Nat) : Int)) ∧ w.cell? ⟨g, off + k * 3 + 2, none⟩ = some (.bool ps[k].gone)
theorem LPsIn.keep {S : List Nat} {w w' : World} {g : Nat} {A : Option Addr} {l : List LP} (h : LPsIn w g A l) (hk : Keeps S w w') (hn : g ∉ S) : LPsIn w' g A l := by
  rcases h with h | ⟨off, hA, hc⟩
  · exact .inl h
  · exact .inr ⟨off, hA, fun k hl => ⟨hk.cell_some (hc k hl).1 hn, hk.cell_some (hc k hl).2.1 hn, hk.cell_some (hc k hl).2.2 hn⟩⟩
def pcells (cs : List Ch) : List Value := cs.flatMap fun c => [.string (strO c.key), .string (strO c.val), .bool c.gone]
theorem pcells_len (cs : List Ch) : (pcells cs).length = cs.length * 3 := by
  induction cs with
  | nil => rfl
  | cons c cs ih => simp only [pcells, List.flatMap_cons, List.length_append, List.length_cons, List.length_nil] at ih ⊢; omega
theorem pcells_get : ∀ (cs : List Ch) (k : Nat) (hk : k < cs.length), (pcells cs)[k * 3]? = some (.string (strO cs[k].key)) ∧ (pcells cs)[k * 3 + 1]? = some (.string (strO cs[k].val)) ∧ (pcells cs)[k * 3 + 2]? = some (.bool cs[k].gone)
  | [], k, hk => by simp at hk
  | c :: cs, 0, _ => ⟨rfl, rfl, rfl⟩
  | c :: cs, k + 1, hk => by
    have h := pcells_get cs k (by simpa using hk)
    have e : pcells (c :: cs) = [.string (strO c.key), .string (strO c.val), .bool c.gone] ++ pcells cs := rfl
    have e0 : (k + 1) * 3 = k * 3 + 3 := by omega
    rw [e, e0]
    refine ⟨?_, ?_, ?_⟩
    · rw [List.getElem?_append_right (by simp)]; simpa using h.1
    · rw [List.getElem?_append_right (by simp)]; simpa using h.2.1
    · rw [List.getElem?_append_right (by simp)]; simpa using h.2.2
theorem pcells_snoc (cs : List Ch) (c : Ch) : pcells (cs ++ [c]) = pcells cs ++ [.string (strO c.key), .string (strO c.val), .bool c.gone] := by simp [pcells]
theorem pairs_of_own {w : World} {base : Nat} {t : TypeId} {v : Value} {cs : List Ch} (h : w.ownsRow base t 3 v cs.length (pcells cs)) : ∃ A c g, v = .slice A cs.length c ∧ PairsIn w g A cs ∧ (cs ≠ [] → base ≤ g) := by
  rcases h.2 with ⟨rfl, h0⟩ | ⟨g, cap, cur, rfl, hb, hg, hn, hm, hcs, ht⟩
  · have h0' : cs = [] := List.eq_nil_of_length_eq_zero h0
    exact ⟨none, 0, 0, by rw [h0], .inl h0', fun hne => absurd h0' hne⟩
  · refine ⟨_, cap, g, rfl, .inr ⟨0, rfl, fun k hk => ?_⟩, fun _ => hb⟩
    have hx : ∀ j, j < cs.length * 3 → w.cell? ⟨g, j, none⟩ = (pcells cs)[j]? := fun j hj => by
      rw [row_cell hg, ← ht, List.getElem?_take, if_pos hj, Array.getElem?_toList]
    obtain ⟨q1, q2, q3⟩ := pcells_get cs k hk
    rw [Nat.zero_add]
    exact ⟨by rw [hx _ (by omega)]; exact q1, by rw [hx _ (by omega)]; exact q2, by rw [hx _ (by omega)]; exact q3⟩
theorem infoPair : (Tryz.prog.info? 66).map (fun i => (i.zero, i.size, i.bytes)) = some (some (.agg #[.string .empty, .string .empty, .bool false]), 3, 40) := by kernel_rfl
/-- A region that makes a block by its operation a, and lays it by its last, b. -/
def CN (a b : Nat) (wr : World) (z c : Obj) (L : Nat → Bool) (vs : Nat → Value) (w : World) : Prop :=
  Keeps [] wr w ∧ (L b = true → L a = true) ∧ (L a = true → ∃ x, vs a = .pointer (some ⟨x, 0, none⟩) ∧ wr.heap.size ≤ x ∧ (L b = false → w.heap[x]? = some z) ∧ (L b = true → w.heap[x]? = some c))
theorem CN.lay {a b i : Nat} {wr w w' : World} {z c : Obj} {L : Nat → Bool} {vs : Nat → Value} {v : Value} (x : CN a b wr z c L vs w) (ha : i ≠ a) (hb : i ≠ b) (hk : Keeps [] w w') : CN a b wr z c (Reg.lay L i) (Reg.upd vs i v) w' := by
  have e1 : Reg.lay L i a = L a := lay_ne ha
  have e2 : Reg.lay L i b = L b := lay_ne hb
  have u : Reg.upd vs i v a = vs a := by unfold Reg.upd; rw [if_neg (Ne.symm ha)]
  obtain ⟨h1, h2, h3⟩ := x
  unfold CN
  rw [e1, e2, u]
  refine ⟨h1.trans hk (by simp), h2, fun hl => ?_⟩
  obtain ⟨y, q1, q2, q3, q4⟩ := h3 hl
  exact ⟨y, q1, q2, fun h => block_keep (q3 h) hk (by simp), fun h => block_keep (q4 h) hk (by simp)⟩
theorem CN.made {a b : Nat} {wr w : World} {z c : Obj} {L : Nat → Bool} {vs : Nat → Value} (x : CN a b wr z c L vs w) (hL : L a = false) (hab : a ≠ b) : CN a b wr z c (Reg.lay L a) (Reg.upd vs a (.pointer (some ⟨w.heap.size, 0, none⟩))) (w.alloc z) := by
  obtain ⟨h1, h2, _⟩ := x
  have hb : L b = false := by cases h : L b with | false => rfl | true => rw [h2 h] at hL; cases hL
  refine ⟨h1.alloc _, fun _ => lay_eq, fun _ => ⟨w.heap.size, by simp [Reg.upd], h1.size, fun _ => heap_alloc_new w z, fun h => ?_⟩⟩
  rw [lay_ne hab, hb] at h; cases h
theorem CN.laid {a b x : Nat} {wr w w' : World} {z c : Obj} {L : Nat → Bool} {vs : Nat → Value} {v : Value} (hc : CN a b wr z c L vs w) (ha : L a = true) (hab : a ≠ b) (hv : vs a = .pointer (some ⟨x, 0, none⟩)) (hx : wr.heap.size ≤ x) (hk : Keeps [x] w w') (hw : w'.heap[x]? = some c) : CN a b wr z c (Reg.lay L b) (Reg.upd vs b v) w' := by
  have u : Reg.upd vs b v a = vs a := by unfold Reg.upd; rw [if_neg hab]
  refine ⟨hc.1.fresh hk (by simpa using hx), fun _ => lay_up ha, fun _ => ⟨x, by rw [u]; exact hv, hx, fun h => ?_, fun _ => hw⟩⟩
  rw [lay_eq] at h; cases h
/-- What pairs gives. -/
def LPairsP (w : World) (mb : Nat) (l : As) (cs : List Ch) (e : Ending) (w' : World) : Prop :=
  ∃ A c g, e = .returned (.slice A cs.length c) ∧ PairsIn w' g A cs ∧ (cs ≠ [] → w.heap.size ≤ g) ∧ MapAt w' mb ES (St.apps l cs) ∧ Keeps [mb] w w'
attribute [local go_sem] Reg.wantedV Reg.gives_value Reg.gives_skip Reg.gives_enter
set_option maxRecDepth 100000 in
set_option maxHeartbeats 8000000 in
theorem pairs_any (w : World) (i g mb cap : Nat) (A : Option Addr) (ps : List LP) (l : As) (hr : LPsIn w g A ps) (hm : MapAt w mb ES l) (hi : i ≤ 1000) (hl : ps.length ≤ 1000) (hll : l.length ≤ 1000000) (hg : ps = [] ∨ g ≠ mb) :
    Calls Tryz.prog 15 #[.int .i64 (i : Int), .slice A ps.length cap, .map (some mb)] w (LPairsP w mb l (mkc i ps)) := by
  obtain ⟨iP, hP, hP0, hP1, hP2⟩ := info_parts infoPair
  have hmb := hm.lt
  have HM0 := Lib.hid hm
  have HB := Lib.hid hr
  have HG := Lib.hid hg
  have HLN := Lib.hid (fun k => len_apps ((mkc i ps).take k) l)
  clear hr hm hg
  go_enter Tryz.func15, Tryz.ntmps15
  go_wp2_with fail
  go_loopw [7, 8] (fun ov kv wr => ∃ k, k ≤ ps.length ∧ kv = .int .i64 (k : Int) ∧ wr.ownsRow w.heap.size 66 3 ov ((mkc i ps).take k).length (pcells ((mkc i ps).take k)) ∧ MapAt wr mb ES (St.apps l ((mkc i ps).take k)) ∧ Keeps [mb] w wr) (fun _ kv _ => ps.length - (RowKit.intOf kv).toNat)
  case atStart => exact ⟨0, by omega, rfl, World.ownsRow_nil _ _ _ _, by simpa [St.apps] using HM0.out, Keeps.refl _ _⟩
  case round =>
    obtain ⟨k, hk, rfl, ho, hm, hkk⟩ := hrel
    have HO := Lib.hid ho
    have HM := Lib.hid hm
    have HK := Lib.hid hkk
    clear ho hm hkk
    by_cases hlt : k < ps.length
    · rcases HB.out with h0 | ⟨off, rfl, hcell⟩
      · subst h0; simp at hlt
      · obtain ⟨c1, c2, c3⟩ := hcell k hlt
        have hgm : g ≠ mb := by
          rcases HG.out with h | h
          · rw [h] at hlt; simp at hlt
          · exact h
        have HTK := Lib.hid (mkc_next (i := i) hlt)
        have hlen : (St.apps l ((mkc i ps).take k)).length < maxLen := by
          have h1 := HLN.out k
          rw [List.length_take] at h1
          unfold maxLen; omega
        have HDL : Hid (((mkc i ps).take k).length = k) := Lib.hid (by rw [List.length_take, mkc_len]; omega)
        obtain ⟨done, hdone⟩ : ∃ d, d = (mkc i ps).take k := ⟨_, rfl⟩
        rw [← hdone] at HO HM HTK HDL hlen
        obtain ⟨p, hp⟩ : ∃ p, p = ps[k] := ⟨_, rfl⟩
        rw [← hp] at c1 c2 c3 HTK
        obtain ⟨kn, hkn⟩ : ∃ n, n = p.k.toNat := ⟨_, rfl⟩
        obtain ⟨nn, hnn⟩ : ∃ n, n = p.n.toNat := ⟨_, rfl⟩
        obtain ⟨ga, hga⟩ : ∃ n, n = p.gone := ⟨_, rfl⟩
        have hk255 : kn ≤ 255 := by rw [hkn]; exact u8_lt255 _
        have hn255 : nn ≤ 255 := by rw [hnn]; exact u8_lt255 _
        rw [← hkn] at c1
        rw [← hnn] at c2
        rw [← hga] at c3
        have HPC := Lib.hid (show mk1 i p k = ⟨St.kst kn, St.vst (i + k) nn, ga⟩ by unfold mk1; rw [← hkn, ← hnn, ← hga])
        have D1 := Lib.hid (HK.out.cell_some c1 (by simpa using hgm))
        have D2 := Lib.hid (HK.out.cell_some c2 (by simpa using hgm))
        have D3 := Lib.hid (HK.out.cell_some c3 (by simpa using hgm))
        have eik : IntKind.i64.wrap ((i : Int) + (k : Int)) = ((i + k : Nat) : Int) := by rw [IntWalk.i64_in _ ⟨by omega, by omega⟩]; omega
        have enn : IntKind.i64.wrap ((nn : Nat) : Int) = (nn : Int) := IntWalk.i64_in _ ⟨by omega, by omega⟩
        have HKY := Lib.hid (fun w' => key_any kn w' (by omega))
        have HVL := Lib.hid (show ∀ w' : World, Calls Tryz.prog 22 #[.int .i64 ((i : Int) + (k : Int)), .int .i64 (nn : Int)] w' fun e w2 => e = .returned (.string (strO (St.vst (i + k) nn))) ∧ Keeps [] w' w2 from fun w' => by
          have := value_any (i + k) nn w' (by omega) hn255
          rw [Int.natCast_add] at this; exact this)
        obtain ⟨ka, hka⟩ : ∃ a, a = strO (St.kst kn) := ⟨_, rfl⟩
        obtain ⟨va, hva⟩ : ∃ a, a = strO (St.vst (i + k) nn) := ⟨_, rfl⟩
        rw [← hka] at HKY
        rw [← hva] at HVL
        have HKA := Lib.hid hka
        have HVA := Lib.hid hva
        have HLE := Lib.hid hlen
        clear hcell c1 c2 c3 hdone hp hkn hnn hga hka hva hlen
        go_wp2_with fail
        refine Reg.wp_region_free (A := ?A) (CN 22 23 wr (.cells #[.string ⟨#[]⟩, .string ⟨#[]⟩, .bool false] 66 (0, 0)) (.cells #[.string ka, .string va, .bool ga] 66 (0, 0))) (fun _ _ => True)
          [Is (.slice (some ⟨g, off, none⟩) ps.length cap), Is (.int .i64 (k : Int)), Is (.pointer (some ⟨g, off + k * 3, none⟩)), Is (.pointer (some ⟨g, off + k * 3, none⟩)), Is (.int .u8 (kn : Int)), Is (.string ka),
           Is (.int .i64 (i : Int)), Is (.int .i64 (k : Int)), Is (.int .i64 ((i + k : Nat) : Int)), Is (.slice (some ⟨g, off, none⟩) ps.length cap), Is (.int .i64 (k : Int)), Is (.pointer (some ⟨g, off + k * 3, none⟩)), Is (.pointer (some ⟨g, off + k * 3 + 1, none⟩)), Is (.int .u8 (nn : Int)), Is (.int .i64 (nn : Int)), Is (.string va),
           Is (.slice (some ⟨g, off, none⟩) ps.length cap), Is (.int .i64 (k : Int)), Is (.pointer (some ⟨g, off + k * 3, none⟩)), Is (.pointer (some ⟨g, off + k * 3 + 2, none⟩)), Is (.bool ga), Is (.agg #[.string ka, .string va, .bool ga]), fun _ _ => True, fun _ _ => True]
          (by kernel_rfl) (by kernel_rfl) rfl ?hA ?hC ?ho ?hlast ?hend
        case hA => intro vs; simp only [Reg.fill, if_true, Nat.zero_add, Nat.reduceAdd, Act.put, List.setIfInBounds_toArray, List.set_cons_succ, List.set_cons_zero]; exact rfl
        case hC => exact fun vs => ⟨(Keeps.refl _ _).drew, by simp, by simp⟩
        case hlast => repeat (first | exact trivial | refine ⟨fun _ _ _ h _ => h, ?_⟩)
        case ho =>
          repeat' apply And.intro
          all_goals
            first
              | exact trivial
              | (intro L vs w' hC hL hd ha K hK
                 try simp only [Reg.Deps, Reg.at_, List.getD_cons_zero, List.getD_cons_succ, Region.binds, true_implies, Is, and_true] at hd
                 try simp only [Reg.Aw, Region.binds, true_implies, and_true] at ha
                 have hx0' := hC.1.cell_some D1.out (by simp)
                 have hx1' := hC.1.cell_some D2.out (by simp)
                 have hx2' := hC.1.cell_some D3.out (by simp)
                 go_simp
                 first
                   | exact hK _ _ (hC.lay (by decide) (by decide) (Keeps.refl _ _)) trivial rfl
                   | skip)
          · refine (HKY.out w').mono ?_
            rintro e w2 ⟨rfl, hk⟩
            exact ⟨_, rfl, hK _ _ (hC.lay (by decide) (by decide) hk) trivial rfl⟩
          · refine (HVL.out w').mono ?_
            rintro e w2 ⟨rfl, hk⟩
            exact ⟨_, rfl, hK _ _ (hC.lay (by decide) (by decide) hk) trivial rfl⟩
          · exact hK _ _ (hC.made hL (by decide)) trivial trivial
          · obtain ⟨x, hv, hx, hz, -⟩ := hC.2.2 ha.1
            have hz0 := hz hL
            have y0 : w'.cell? ⟨x, 0, none⟩ = some (.string ⟨#[]⟩) := by rw [row_cell hz0]; rfl
            have y1 : w'.cell? ⟨x, 1, none⟩ = some (.string ⟨#[]⟩) := by rw [row_cell hz0]; rfl
            have y2 : w'.cell? ⟨x, 2, none⟩ = some (.bool false) := by rw [row_cell hz0]; rfl
            have f0 := row_free hz0 0
            have f1 := row_free hz0 1
            have f2 := row_free hz0 2
            have hk3 := (((Keeps.refl [x] w').setCell (p := ⟨x, 0, none⟩) (by simp) (.string ka)).setCell (p := ⟨x, 1, none⟩) (by simp) (.string va)).setCell (p := ⟨x, 2, none⟩) (by simp) (.bool ga)
            have hw3 := row_set (row_set (row_set hz0 0 (.string ka)) 1 (.string va)) 2 (.bool ga)
            rw [hv]
            go_simp
            exact hK _ _ (hC.laid ha.1 (by decide) hv hx hk3 hw3) trivial trivial
        case hend =>
          intro vs w2 hC hall
          obtain ⟨x, hv, hx, -, hcr⟩ := hC.2.2 rfl
          have hc := hcr rfl
          clear hcr
          have HX := Lib.hid hc
          have HKW := Lib.hid hC.1
          have z0 : w2.cell? ⟨x, 0, none⟩ = some (.string ka) := by rw [row_cell hc]; rfl
          have z1 : w2.cell? ⟨x, 1, none⟩ = some (.string va) := by rw [row_cell hc]; rfl
          have z2 : w2.cell? ⟨x, 2, none⟩ = some (.bool ga) := by rw [row_cell hc]; rfl
          have HO2 := Lib.hid (owned_keep HO.out hC.1 (by simp))
          have HM2 := Lib.hid (HM.out.keep hC.1 (by simp))
          have hsz := hC.1.size
          have HXX := Lib.hid hx
          have HS0 := Lib.hid (show w.heap.size ≤ wr.heap.size from HK.out.size)
          simp only [Reg.All, Is, Nat.zero_add, Nat.reduceAdd] at hall
          clear hC hc hx
          rw [hv]
          clear hall hv
          go_wp2_with (at_builtin; refine wpList_append_own _ rfl _ _ 37 rfl w.heap.size 66 iP (.agg #[.string .empty, .string .empty, .bool false]) 3 40 Tryz.underlying37 hP hP0 hP1 hP2 rfl (by decide) u7 done.length (pcells done) rfl (HO2.out.alloc _) ⟨w2.heap.size, 0, none⟩ 1 1 [.string ka, .string va, .bool ga] rfl rfl ?qa1 ?qa2 ?qa3 ?qa4 ?qa5 ?_)
          case qa1 =>
            intro j u hj
            rw [Addr.add_lit, Nat.zero_add, row_cell (heap_alloc_new w2 _)]
            match j, hj with
            | 0, hj => simpa using hj
            | 1, hj => simpa using hj
            | 2, hj => simpa using hj
            | j + 3, hj => simp at hj
          case qa2 => intro u hu; simp at hu; rcases hu with rfl | rfl | rfl <;> rfl
          case qa3 => have := HDL.out; unfold maxLen; omega
          case qa4 => have := HDL.out; omega
          case qa5 => have := HS0.out; simp; omega
          intro v' w3 hown' hgrow _
          have hob : ∀ y ∈ u7.ownBlock.toList, w.heap.size ≤ y ∧ y < wr.heap.size := fun y hy => HO.out.lt y (by simpa using hy)
          have hkg := (((Keeps.refl [] w2).alloc (.cells #[.string ka, .string va, .bool ga] 66)).mono (T := u7.ownBlock.toList) (by simp)).trans (Keeps.of_grown hgrow) (fun _ hi _ => hi)
          have hx3 := block_keep HX.out hkg (fun hm => by have := hob x hm; have := HXX.out; omega)
          have z0 : w3.cell? ⟨x, 0, none⟩ = some (.string ka) := by rw [row_cell hx3]; rfl
          have z1 : w3.cell? ⟨x, 1, none⟩ = some (.string va) := by rw [row_cell hx3]; rfl
          have z2 : w3.cell? ⟨x, 2, none⟩ = some (.bool ga) := by rw [row_cell hx3]; rfl
          have HM3 := Lib.hid (HM2.out.keep hkg (fun hm => by have := hob mb hm; omega))
          have HK3 := Lib.hid (show Keeps [mb] w w3 from by
            have hk02 : Keeps [mb] w w2 := HK.out.trans (HKW.out.mono (by simp)) (fun _ h _ => h)
            refine ((hk02.mono (T := mb :: u7.ownBlock.toList) (fun i hi _ => by simp at hi ⊢; exact .inl hi)).trans (hkg.mono (T := mb :: u7.ownBlock.toList) (fun i hi _ => by simp at hi ⊢; exact .inr hi)) (fun _ hi _ => hi)).mono (fun i hi hlt => ?_)
            rcases List.mem_cons.1 hi with rfl | hi
            · simp
            · have := hob i hi; omega)
          have HO3 := Lib.hid (show w3.ownsRow w.heap.size 66 3 v' (done ++ [mk1 i p k]).length (pcells (done ++ [mk1 i p k])) by
            rw [pcells_snoc, HPC.out, List.length_append]
            simp only [← HKA.out, ← HVA.out]
            exact hown')
          clear hown' hgrow hob hkg hx3
          cases ga with
          | true =>
            have HT2 := Lib.hid (show St.app (St.apps l done) (mk1 i p k) = St.del (St.apps l done) (St.kst kn) by rw [HPC.out]; simp [St.app])
            go_wp2_with (at_delete; refine wpList_drop_map rfl _ rfl _ _ 31 rfl 9 Tryz.underlying31 mb ES (St.apps l done) rfl HM3.out (St.kst kn) (congrArg Value.string HKA.out) (by have := St.ks_len _ (St.kst_mem kn); unfold maxLen; omega) ?_)
            intro w4 hm4 hk4
            have HM4 := Lib.hid hm4
            have hk4' : Keeps [mb] w3 w4 := hk4
            have HK4 := Lib.hid (HK3.out.trans hk4 (fun _ hi _ => hi))
            have HO4 := Lib.hid (owned_keep HO3.out hk4 (fun y hy hm => by have h9 := (HO3.out.lt y hy).1; have h8 : y = mb := by simpa using hm
                                                                           omega))
            clear hm4 hk4 hk4'
            go_wp2_with fail
            go_roundw
            case rel => exact ⟨k + 1, hlt, by go_num, by rw [HTK.out]; exact HO4.out, by rw [HTK.out, St.apps_snoc, HT2.out]; exact HM4.out, HK4.out⟩
            case measure => simp [RowKit.intOf]; omega
          | false =>
            have HT2 := Lib.hid (show St.app (St.apps l done) (mk1 i p k) = St.put (St.apps l done) (St.kst kn) (St.vst (i + k) nn) by rw [HPC.out]; simp [St.app])
            go_wp2_with (at_mapUpdate; refine wpList_store_map rfl _ rfl _ _ _ 31 rfl 9 Tryz.underlying31 mb ES (St.apps l done) rfl HM3.out HLE.out (St.kst kn) (St.vst (i + k) nn) (congrArg Value.string HKA.out) (congrArg Value.string HVA.out) (by have := St.ks_len _ (St.kst_mem kn); unfold maxLen; omega) ?_)
            intro w4 hm4 hk4
            have HM4 := Lib.hid hm4
            have HK4 := Lib.hid (HK3.out.trans hk4 (fun _ hi _ => hi))
            have HO4 := Lib.hid (owned_keep HO3.out hk4 (fun y hy hm => by have h9 := (HO3.out.lt y hy).1; have h8 : y = mb := by simpa using hm
                                                                           omega))
            clear hm4 hk4
            go_wp2_with fail
            go_roundw
            case rel => exact ⟨k + 1, hlt, by go_num, by rw [HTK.out]; exact HO4.out, by rw [HTK.out, St.apps_snoc, HT2.out]; exact HM4.out, HK4.out⟩
            case measure => simp [RowKit.intOf]; omega
    · have HF := Lib.hid (show (mkc i ps).take k = mkc i ps by rw [List.take_of_length_le (by rw [mkc_len]; omega)])
      have ho := HO.out
      rw [HF.out] at ho
      obtain ⟨A1, cc, g1, rfl, hp1, hb1⟩ := pairs_of_own ho
      have HP1 := Lib.hid hp1
      have HB1 := Lib.hid hb1
      clear ho hp1 hb1
      go_wp2_with fail
      go_ret
      exact ⟨A1, cc, g1, rfl, HP1.out, HB1.out, by rw [← HF.out]; exact HM.out, HK.out⟩
end Go.Proofs.YtbanpdeganlndaaGreatDoor
namespace Go.Proofs.YtbanpdeganlndaaGreatDoor
open Go.RowKit Go.Sort
open St (Tx As Ch)

def pre (p k : Tx) : Bool := Lib.hasPrefix k p
set_option maxHeartbeats 400000 in
theorem lpre_any (k p : Tx) (w : World) :
    Calls Tryz.prog 65 #[.string (strO k), .string (strO p)] w fun e w' => e = .returned (.bool (pre p k)) ∧ w = w' := by
  have HP := Lib.hid (show (decide ((strO p).size ≤ (strO k).size) && (((strO k).extract 0 (strO p).size).toList == (strO p).toList)) = pre p k by rw [Lib.hasPrefix_raw, strO_list, strO_list]; rfl)
  obtain ⟨a, ha⟩ : ∃ a, a = strO k := ⟨_, rfl⟩
  obtain ⟨b, hb⟩ : ∃ b, b = strO p := ⟨_, rfl⟩
  rw [← ha, ← hb] at HP ⊢
  clear ha hb
  go_enter Tryz.func65, Tryz.ntmps65
  go_wp2
  · rename_i h
    go_ret
    refine ⟨?_, rfl⟩
    rw [← HP.out]
    simp [h]
  · rename_i h
    go_ret
    refine ⟨?_, rfl⟩
    rw [← HP.out]
    simp [h]
set_option maxHeartbeats 400000 in
theorem pre_any (k p : Tx) (w : World) :
    Calls Tryz.prog 39 #[.string (strO k), .string (strO p)] w fun e w' => e = .returned (.bool (pre p k)) ∧ w = w' := by
  have HP := Lib.hid (fun w' => lpre_any k p w')
  obtain ⟨r, hr⟩ : ∃ r, r = pre p k := ⟨_, rfl⟩
  obtain ⟨a, ha⟩ : ∃ a, a = strO k := ⟨_, rfl⟩
  obtain ⟨b, hb⟩ : ∃ b, b = strO p := ⟨_, rfl⟩
  rw [← ha, ← hb, ← hr] at HP
  rw [← ha, ← hb, ← hr]
  clear ha hb hr
  go_enter Tryz.func39, Tryz.ntmps39
  go_wp2_with fail
  refine (HP.out _).mono ?_
  rintro e w' ⟨rfl, rfl⟩
  go_wp2_with fail
  go_ret
  exact ⟨rfl, rfl⟩
/-- A slice of texts in block g that reads as ss. -/
def TxsIn (w : World) (g : Nat) (A : Option Addr) (ss : List Tx) : Prop :=
  ss = [] ∨ ∃ off, A = some ⟨g, off, none⟩ ∧ ∀ k (hk : k < ss.length), w.cell? ⟨g, off + k, none⟩ = some (.string (strO ss[k]))
theorem TxsIn.keep {S : List Nat} {w w' : World} {g : Nat} {A : Option Addr} {l : List Tx} (h : TxsIn w g A l) (hk : Keeps S w w') (hn : g ∉ S) : TxsIn w' g A l := by
  rcases h with h | ⟨off, hA, hc⟩
  · exact .inl h
  · exact .inr ⟨off, hA, fun k hl => hk.cell_some (hc k hl) hn⟩
def txs (ss : List Tx) : List Value := ss.map fun s => .string (strO s)
theorem txs_one (ss : List Tx) : ∀ u ∈ txs ss, u.oneCell' = true := by
  intro u hu
  obtain ⟨_, _, rfl⟩ := List.mem_map.1 hu
  rfl
theorem keeps_sorted (w : World) (n blk off : Nat) (d : Array Tx) (os : Array Obj) : Keeps [blk] w (grow (putRow encStr (Sort.ahead w n) blk off d) os) := by
  refine ⟨rfl, rfl, rfl, by simp [grow, putRow, mapBlock], fun k hk hn => ?_⟩
  have hne : blk ≠ k := fun e => hn (by simp [e])
  simp only [grow, putRow, mapBlock]
  rw [Array.getElem?_append_left (by simpa using hk), Array.getElem?_modify, if_neg hne]; rfl
set_option maxHeartbeats 400000 in
/-- slices.Sort of texts that lie in a row of one's own. -/
theorem sortS_any (w : World) (base : Nat) (v : Value) (ss : List Tx) (ho : w.ownsRow base 9 1 v ss.length (txs ss)) (hl : ss.length ≤ 1000000) :
    Calls Tryz.prog 40 #[v] w fun e w' => e = .returned (.tuple #[]) ∧ ∃ A c g, v = .slice A ss.length c ∧ TxsIn w' g A (ss.mergeSort fun x y => decide (x ≤ y)) ∧ (∀ x, v.ownBlock = some x → base ≤ x) ∧ Keeps v.ownBlock.toList w w' := by
  by_cases h0 : ss = []
  · subst h0
    obtain ⟨A, c, rfl⟩ : ∃ A c, v = .slice A 0 c := by
      rcases own_form ho with ⟨h, _⟩ | ⟨g, c, h, _⟩
      · exact ⟨none, 0, h⟩
      · exact ⟨_, c, h⟩
    refine (AnyM.slices_Sort_string_none Tryz.sortS A c w).mono ?_
    rintro e w' ⟨rfl, rfl⟩
    exact ⟨rfl, A, c, 0, rfl, .inl (by simp [List.mergeSort]), fun x hx => (ho.lt x hx).1, (Keeps.refl [] _).mono (by simp)⟩
  · have hpos : 0 < ss.length := List.length_pos_iff.2 h0
    rcases ho.2 with ⟨_, h⟩ | ⟨g, c, cur, rfl, hb, hg, hn, hm, hcs, ht⟩
    · omega
    · have hcell : ∀ k (hk : k < ss.length), w.cell? ⟨g, k, none⟩ = some (.string (strO ss[k])) := fun k hk => by
        rw [row_cell hg]
        have h1 : (cur.toList.take (ss.length * 1))[k]? = (txs ss)[k]? := by rw [ht]
        rw [List.getElem?_take, if_pos (by omega)] at h1
        rw [← Array.getElem?_toList, h1]
        simp [txs, hk]
      have hH : Holds encStr w g 0 ss.toArray := fun j hj => by
        have hj' : j < ss.length := by simpa using hj
        refine ⟨?_, row_free hg _⟩
        rw [Nat.zero_add, hcell j hj']
        simp [encStr, strO, hj', getElem!_pos]
      refine (AnyM.slices_Sort_string Tryz.sortS g 0 c ss w hH (block_lt hg) (by omega)).mono ?_
      rintro e w' ⟨rfl, n, os, rfl⟩
      refine ⟨rfl, _, c, g, rfl, .inr ⟨0, rfl, fun k hk => ?_⟩, fun x hx => by cases hx; exact hb, by simpa [Value.ownBlock] using keeps_sorted w n g 0 _ os⟩
      have hlen : (ss.mergeSort fun x y => decide (x ≤ y)).length = ss.length := by simp
      have h2 := holds_putRow encStr (Sort.ahead w n) g 0 ss.toArray (ss.mergeSort fun x y => decide (x ≤ y)).toArray (holds_ahead _ _ _ _ _ _ hH) (by simp)
      have h3 := (h2 k (by simpa using hk)).1
      have hk2 : Keeps [] (putRow encStr (Sort.ahead w n) g 0 (ss.mergeSort fun x y => decide (x ≤ y)).toArray) (grow (putRow encStr (Sort.ahead w n) g 0 (ss.mergeSort fun x y => decide (x ≤ y)).toArray) os) :=
        ⟨rfl, rfl, rfl, by simp [grow], fun i hi _ => by simp only [grow]; rw [Array.getElem?_append_left hi]⟩
      rw [hk2.cell_some h3 (by simp), getElem!_pos _ k (by simpa using hk)]
      rfl
/-- What Keys gives. -/
def KeysP (w : World) (l : As) (p : Tx) (e : Ending) (w' : World) : Prop :=
  ∃ A c g ss, e = .returned (.slice A ss.length c) ∧ TxsIn w' g A ss ∧ ss.Perm ((l.map (·.1)).filter (pre p)) ∧ ss.Pairwise (fun x y => decide (x ≤ y) = true) ∧ (ss ≠ [] → w.heap.size ≤ g) ∧ Keeps [] w w'
theorem string_info5 : (Tryz.prog.info? 9).map (fun i => (i.zero, i.size, i.bytes)) = some (some (.string .empty), 1, 16) := by kernel_rfl
theorem le_total_tx (a b : Tx) : (decide (a ≤ b) || decide (b ≤ a)) = true := by
  simpa using List.le_total a b
theorem le_trans_tx (a b c : Tx) : decide (a ≤ b) = true → decide (b ≤ c) = true → decide (a ≤ c) = true := by
  simpa using fun h1 h2 => List.le_trans h1 h2
set_option maxHeartbeats 2000000 in
set_option maxRecDepth 100000 in
theorem keys_all (w : World) (mb : Nat) (l : As) (p : Tx) (h : MapAt w mb EP l) (hl : l.length ≤ 1000000) :
    Calls Tryz.prog 23 #[.map (some mb), .string (strO p)] w (KeysP w l p) := by
  obtain ⟨i0, hi, hz0, hz1, hz2⟩ := info_parts string_info5
  have hmb := h.lt
  have HM := Lib.hid h
  have HPR := Lib.hid (fun k w' => pre_any k p w')
  obtain ⟨pa, hpa⟩ : ∃ a, a = strO p := ⟨_, rfl⟩
  rw [← hpa] at HPR
  rw [← hpa]
  clear h hpa
  go_enter Tryz.func23, Tryz.ntmps23
  go_wp2_with (at_range; refine wpList_range_map rfl _ rfl _ 41 rfl 66 Tryz.underlying41 mb EP l rfl HM.out ?_; intro w0 hrg0 hk0 hs0)
  have HRG0 := Lib.hid hrg0
  have HK0 := Lib.hid hk0
  have HS0 := Lib.hid hs0
  clear hrg0 hk0 hs0
  go_frame
  go_loopw [5] (fun v wr => ∃ (todo : As) (ss : List Tx), wr.ownsRow (w.heap.size + 1) 9 1 v ss.length (txs ss) ∧ (ss ++ (todo.map (·.1)).filter (pre p)).Perm ((l.map (·.1)).filter (pre p)) ∧ Ranging wr mb w.heap.size EP l todo ∧ w.heap.size + 1 ≤ wr.heap.size ∧ Keeps [] w wr) (fun _ wr => wr.rangeLeft mb w.heap.size)
  case atStart => exact ⟨l, [], World.ownsRow_nil _ _ _ _, List.Perm.refl _, HRG0.out, by rw [HS0.out]; exact Nat.le_refl _, HK0.out⟩
  case round =>
    obtain ⟨todo, ss, hown, hperm, hrg, hws, hk⟩ := hrel
    have hsl : ss.length ≤ 1000000 := by
      have h1 := hperm.length_eq
      have h2 := List.length_filter_le (pre p) (l.map (·.1))
      rw [List.length_append] at h1
      rw [List.length_map] at h2
      omega
    have HO := Lib.hid hown
    have HP := Lib.hid hperm
    have HRG := Lib.hid hrg
    have HK := Lib.hid hk
    clear hown hperm hk
    go_wp2_with (at_next; refine wpList_next_map rfl _ rfl _ rfl mb w.heap.size EP l todo rfl hrg ?_ ?_)
    · intro h0
      have HN := Lib.hid h0
      have HSS := Lib.hid (sortS_any wr _ _ ss HO.out hsl)
      clear h0 hrg
      go_wp2_with fail
      refine HSS.out.mono ?_
      rintro e w1 ⟨rfl, A, c, g, rfl, htx, hbs, hk1⟩
      have HT := Lib.hid htx
      have HB := Lib.hid (show A.map (·.block) = some g ∨ ss = [] from by
        rcases htx with h | ⟨off, h, _⟩
        · right
          have : (ss.mergeSort fun x y => decide (x ≤ y)).length = 0 := by rw [h]; rfl
          exact List.eq_nil_of_length_eq_zero (by simpa using this)
        · left; rw [h]; rfl)
      have HBS := Lib.hid hbs
      have HK1 := Lib.hid (HK.out.fresh hk1 (fun x hx => by
        have := hbs x (by simpa using hx)
        omega))
      clear htx hbs hk1
      go_wp2_with fail
      go_ret
      have hlen : (ss.mergeSort fun x y => decide (x ≤ y)).length = ss.length := by simp
      refine ⟨A, c, g, ss.mergeSort fun x y => decide (x ≤ y), by rw [hlen]; rfl, HT.out, ?_, List.pairwise_mergeSort (fun a b c => le_trans_tx a b c) (fun a b => le_total_tx a b) ss, fun hne => ?_, HK1.out⟩
      · have h1 := HP.out
        rw [HN.out] at h1
        exact (List.mergeSort_perm _ _).trans (by simpa using h1)
      · rcases HB.out with h | h
        · cases A with
          | none => cases h
          | some a =>
            have e1 : a.block = g := by simpa using h
            have := HBS.out a.block rfl
            omega
        · subst h; exact absurd (by simp [List.mergeSort]) hne
    · intro k v todo' w1 hp hmem hkl hrg1 hlt1 hk1 hs1 hen
      have hperm2 : (ss ++ (if pre p k then [k] else []) ++ (todo'.map (·.1)).filter (pre p)).Perm ((l.map (·.1)).filter (pre p)) := by
        refine List.Perm.trans ?_ HP.out
        rw [List.append_assoc]
        refine List.Perm.append_left _ ?_
        have h1 : ((todo.map (·.1)).filter (pre p)).Perm ((((k, v) :: todo').map (·.1)).filter (pre p)) := (hp.map _).filter _
        refine List.Perm.trans ?_ h1.symm
        rw [List.map_cons, List.filter_cons]
        by_cases hq : pre p k = true
        · simp [hq]
        · simp [hq]
      have HPM := Lib.hid hperm2
      have HPK := Lib.hid (fun w' => HPR.out k w')
      obtain ⟨ka, hka⟩ : ∃ a, a = strO k := ⟨_, rfl⟩
      rw [← hka] at hen HPK ⊢
      have HKA := Lib.hid hka
      have HRG1 := Lib.hid hrg1
      have HLT1 := Lib.hid hlt1
      have hk01 : Keeps [w.heap.size] wr w1 := hk1
      have HK1 := Lib.hid (HK.out.fresh hk1 (by simp))
      have HO1 := Lib.hid (owned_keep HO.out hk1 (fun g hg hm => by
        have h1 := (HO.out.lt g hg).1
        have h2 : g = w.heap.size := by simpa using hm
        omega))
      have hws1 : w.heap.size + 1 ≤ w1.heap.size := by omega
      obtain ⟨q, hq⟩ : ∃ q, q = pre p k := ⟨_, rfl⟩
      rw [← hq] at HPK HPM
      clear hp hmem hkl hrg1 hlt1 hk1 hk01 hs1 hka hrg hperm2 hq hws
      go_wp2_with fail
      refine (HPK.out _).mono ?_
      rintro e w2 ⟨rfl, rfl⟩
      cases q with
      | false =>
        go_wp2_with fail
        go_roundw
        case rel => exact ⟨todo', ss, HO1.out, by simpa using HPM.out, HRG1.out, hws1, HK1.out⟩
        case measure => exact HLT1.out
      | true =>
        go_wp2_with (at_builtin; refine wpList_append_own _ rfl _ _ 68 rfl (w.heap.size + 1) 9 i0 (.string .empty) 1 16 Tryz.underlying68 hi hz0 hz1 hz2 rfl (by decide) _ _ _ rfl (HO1.out.alloc _) ⟨w1.heap.size, 0, none⟩ 1 1 [.string ka] rfl rfl ?c1 ?c2 ?c3 ?c4 ?c5 ?_)
        case c1 =>
          intro j u hj
          match j, hj with
          | 0, hj => simp at hj; subst hj; simp [Addr.add]
        case c2 => intro u hu; simp at hu; subst hu; rfl
        case c3 => unfold maxLen; omega
        case c4 => omega
        case c5 => simp; omega
        intro v' w3 hown' hgrow _
        have hk3a : Keeps [] w1 (w1.alloc (.cells #[.string ka] 9)) := (Keeps.refl [] w1).alloc _
        have hob : ∀ x ∈ u5.ownBlock.toList, w.heap.size + 1 ≤ x := fun x hx => (HO1.out.lt x (by simpa using hx)).1
        have hk3 := (hk3a.mono (T := u5.ownBlock.toList) (by simp)).trans (Keeps.of_grown hgrow) (fun _ hi _ => hi)
        have HK3 := Lib.hid (HK1.out.fresh hk3 (fun x hx => by have := hob x hx; omega))
        have HRG3 := Lib.hid (HRG1.out.keep hk3 (fun hm => by have := hob _ hm; omega) (fun hm => by have := hob _ hm; omega))
        have HLE := Lib.hid (rangeLeft_keep hk3 HRG1.out.map.lt HRG1.out.lt (fun hm => by have := hob _ hm; omega) (fun hm => by have := hob _ hm; omega))
        have HO3 := Lib.hid (show w3.ownsRow (w.heap.size + 1) 9 1 v' (ss ++ [k]).length (txs (ss ++ [k])) by
          have e1 : txs (ss ++ [k]) = txs ss ++ [.string ka] := by rw [HKA.out]; simp [txs]
          rw [e1, List.length_append]
          exact hown')
        have hws3 : w.heap.size + 1 ≤ w3.heap.size := by have := hk3.size; omega
        clear hown' hgrow hk3a hob hk3
        go_wp2_with fail
        go_roundw
        case rel => exact ⟨todo', ss ++ [k], HO3.out, by simpa using HPM.out, HRG3.out, hws3, HK3.out⟩
        case measure => rw [HLE.out]; exact HLT1.out
end Go.Proofs.YtbanpdeganlndaaGreatDoor
namespace Go.Proofs.YtbanpdeganlndaaGreatDoor
open Go.RowKit
open Reg (Is Fact)
open St (Tx As Ch)

/-- Do two maps hold the same, as far as the statements' keys go? -/
def same7 (l m : As) : Bool := decide (∀ k ∈ St.ks, St.look l k = St.look m k)
theorem same_perm {l m : As} (hl : St.Keyed l) (hp : l.Perm m) : same7 l m = true := by
  unfold same7; rw [decide_eq_true_eq]; exact fun k _ => St.look_perm hl hp k
theorem look_out {l : As} {k : Tx} (hk : ∀ p ∈ l, p.1 ∈ St.ks) (h : k ∉ St.ks) : St.look l k = none := by
  cases hl : St.look l k with
  | none => rfl
  | some v => exact absurd (hk _ (St.look_mem hl)) h
theorem perm_same {l m : As} (hl : St.Keyed l) (hm : St.Keyed m) (kl : ∀ p ∈ l, p.1 ∈ St.ks) (km : ∀ p ∈ m, p.1 ∈ St.ks) (h : same7 l m = true) : l.Perm m := by
  unfold same7 at h
  rw [decide_eq_true_eq] at h
  refine St.perm_of_look hl hm fun k => ?_
  by_cases hk : k ∈ St.ks
  · exact h k hk
  · rw [look_out kl hk, look_out km hk]
theorem kst_get {k : Nat} (h : k < 7) : St.ks[k]'h = St.kst k := by
  unfold St.kst
  have e : k % 7 = k := Nat.mod_eq_of_lt h
  rw [e, List.getD_eq_getElem?_getD, List.getElem?_eq_getElem h, Option.getD_some]
theorem ks_next {k : Nat} (h : k < 7) : St.ks.take (k + 1) = St.ks.take k ++ [St.kst k] := by
  rw [List.take_succ_eq_append_getElem h, kst_get h]
theorem same_of_all {l m : As} (h : ∀ j, j < 7 → St.look l (St.kst j) = St.look m (St.kst j)) : same7 l m = true := by
  unfold same7; rw [decide_eq_true_eq]
  intro k hk
  obtain ⟨j, hj, rfl⟩ := List.getElem_of_mem hk
  rw [kst_get hj]; exact h j hj
theorem not_same {l m : As} {k : Nat} (h : St.look l (St.kst k) ≠ St.look m (St.kst k)) : same7 l m = false := by
  unfold same7; rw [decide_eq_false_iff_not]
  exact fun hh => h (hh _ (St.kst_mem k))
theorem strO_toList (k : Tx) : (strO k).toList = k := by rw [Lib.toList_data, strO_list]
theorem str_ne' {a b : Tx} (h : a ≠ b) : ((strO a).toList == (strO b).toList) = false := by rw [strO_toList, strO_toList]; simpa using h
theorem less_of {a b : Tx} (h : a < b) : Op.bytesLess (strO a).toList (strO b).toList = true := by rw [strO_toList, strO_toList, bytesLess_eq]; simpa using h
theorem pre_nil (k : Tx) : pre [] k = true := by unfold pre Lib.hasPrefix; simp
def aS : Tx := [97, 47]
theorem pre_short {k : Tx} (h : ¬ 2 ≤ k.length) : pre aS k = false := by
  unfold pre
  rw [← Lib.hasPrefix_of_take]
  have : decide (aS.length ≤ k.length) = false := by simp [aS]; omega
  rw [this]; rfl
theorem pre_long {k : Tx} (h : 2 ≤ k.length) : (((strO k).extract 0 2).toList == [97, 47]) = pre aS k := by
  have ez : (⟨#[97, 47]⟩ : ByteArray).toList = [97, 47] := by rw [Lib.toList_data]
  rw [← ez]
  have := Lib.hasPrefix_raw (strO k) ⟨#[97, 47]⟩
  rw [strO_list, strO_len] at this
  have e : (⟨#[97, 47]⟩ : ByteArray).size = 2 := rfl
  rw [e] at this
  have e2 : decide (2 ≤ k.length) = true := by simpa using h
  rw [e2, Bool.true_and] at this
  exact this
theorem filter_next (ss : List Tx) {i : Nat} (h : i < ss.length) : ((ss.take (i + 1)).filter (pre aS)).length = ((ss.take i).filter (pre aS)).length + (if pre aS ss[i] then 1 else 0) := by
  rw [List.take_succ_eq_append_getElem h, List.filter_append, List.length_append]
  by_cases hp : pre aS ss[i] = true
  · simp [hp]
  · simp [hp]
/-- Sorted, and none twice: each is below the next. -/
theorem rising {ss : List Tx} (hs : ss.Pairwise (fun x y => decide (x ≤ y) = true)) (hn : ss.Nodup) {i : Nat} (h : i + 1 < ss.length) : ss[i] < ss[i + 1] := by
  have h1 := List.pairwise_iff_getElem.1 hs i (i + 1) (by omega) h (by omega)
  have h2 := List.pairwise_iff_getElem.1 (show ss.Pairwise (· ≠ ·) from hn) i (i + 1) (by omega) h (by omega)
  have h1' : ss[i] ≤ ss[i + 1] := by simpa using h1
  rcases Decidable.em (ss[i] < ss[i + 1]) with h3 | h3
  · exact h3
  · exact absurd (List.le_antisymm h1' (List.not_lt.1 h3)) h2
theorem look_size {l : As} {k v : Tx} (h : St.look l k = some v) : v.length ≤ St.size l := by
  have := size_mem (St.look_mem h); omega
def one (k : Tx) (o : Option Tx) : As := match o with | some v => [(k, v)] | none => []
theorem found_one (K : List Tx) (k : Tx) (l : As) : St.found (K ++ [k]) l = St.found K l ++ one k (St.look l k) := by
  rw [St.found_snoc]; cases St.look l k <;> rfl
theorem found_cons (k : Tx) (K : List Tx) (l : As) : St.found (k :: K) l = (match St.look l k with | some v => [(k, v)] | none => []) ++ St.found K l := by
  unfold St.found
  rw [List.filterMap_cons]
  cases h : St.look l k <;> simp
theorem found_bound {l : As} : ∀ (K : List Tx), (∀ k ∈ K, k.length ≤ 3) → St.size (St.found K l) ≤ K.length * (3 + St.size l) ∧ (St.found K l).length ≤ K.length
  | [], _ => ⟨by simp [St.found, St.size], by simp [St.found]⟩
  | k :: K, h => by
    have ih := found_bound (l := l) K (fun x hx => h x (by simp [hx]))
    have hk := h k (by simp)
    rw [found_cons, St.size_append, List.length_append, List.length_cons, Nat.add_mul]
    cases hl : St.look l k with
    | none => simp only [St.size, List.map_nil, List.sum_nil, List.length_nil] at ih ⊢; omega
    | some v =>
      have := look_size hl
      have e : St.size [(k, v)] = k.length + v.length := by simp [St.size]
      simp only [e, List.length_cons, List.length_nil]
      omega
end Go.Proofs.YtbanpdeganlndaaGreatDoor
namespace Go.Proofs.YtbanpdeganlndaaGreatDoor
open Go.RowKit
open Reg (Is Fact)
open St (Tx As Ch)

/-- How a look-up's answer lies. -/
def lv (o : Option Tx) : Value := .string (strO (o.getD []))
theorem look_map {w : World} {b : Nat} {l : As} (h : MapAt w b ES l) {k : Tx} (hk : k.length ≤ maxLen) :
    (Instr.lookup 31 (.map (some b)) (.string (strO k)) true).run Tryz.prog w = .ok (.tuple #[.string (strO ((St.look l k).getD [])), .bool (St.look l k).isSome]) w := by
  rw [h.look Tryz.underlying31 (zeroStr w) hk]
  cases St.look l k <;> rfl
attribute [local go_sem] Reg.wantedV Reg.gives_value Reg.gives_skip Reg.gives_enter
set_option maxRecDepth 100000 in
set_option maxHeartbeats 16000000 in
theorem alike_any (w : World) (sp mb lp mm : Nat) (dn : Bool) (l m : As) (h : StAt w sp mb lp dn l) (hm : MapAt w mm ES m) (hkl : ∀ p ∈ l, p.1 ∈ St.ks) (hkm : ∀ p ∈ m, p.1 ∈ St.ks) (hsl : St.size l ≤ 1000000) (hll : l.length ≤ 1000) (hsm : St.size m ≤ 1000000) :
    Calls Tryz.prog 16 #[.pointer (some ⟨sp, 0, none⟩), .map (some mm)] w fun e w' => e = .returned (.bool (same7 l m)) ∧ Keeps [] w w' := by
  have HST := Lib.hid h
  have HMM := Lib.hid hm
  have HKL := Lib.hid hkl
  have HKM := Lib.hid hkm
  have hc0 := h.c0
  have HC0 := Lib.hid hc0
  have HKY := Lib.hid (fun (k : Nat) (hk : k < 256) (w' : World) => key_any k w' hk)
  have HGT := Lib.hid (fun (w' : World) (hk : Keeps [] w w') (k : Tx) (hk3 : k.length ≤ maxLen) => get_any w' mb l (h.map.keep hk (by simp)) k hk3)
  have HKS := Lib.hid (fun (w' : World) (hk : Keeps [] w w') (p : Tx) => keys_all w' mb l p (h.map.keep hk (by simp)) (by omega))
  have HSZ := Lib.hid (fun (w' : World) (hk : Keeps [] w w') => ssize_any w' mb l (h.map.keep hk (by simp)) (by omega))
  clear h hm hkl hkm hc0
  go_enter Tryz.func16, Tryz.ntmps16
  go_wp2_with fail
  go_loopw [5, 6, 7] (fun nv tv kv wr => ∃ k : Nat, k ≤ 7 ∧ kv = .int .u8 (k : Int) ∧ nv = .int .i64 (((St.found (St.ks.take k) l).length : Nat) : Int) ∧ tv = .int .i64 ((St.size (St.found (St.ks.take k) l) : Nat) : Int) ∧ (∀ j, j < k → St.look l (St.kst j) = St.look m (St.kst j)) ∧ Keeps [] w wr) (fun _ _ kv _ => 7 - (RowKit.intOf kv).toNat)
  case atStart => exact ⟨0, by omega, rfl, by simp [St.found], by simp [St.found, St.size], by simp, Keeps.refl _ _⟩
  case round =>
    obtain ⟨k, hk, rfl, rfl, rfl, hall, hkk⟩ := hrel
    have HALL := Lib.hid hall
    have HK := Lib.hid hkk
    clear hall hkk
    have HFB := Lib.hid (found_bound (l := l) (St.ks.take k) (fun x hx => St.ks_len x (List.mem_of_mem_take hx)))
    by_cases hlt : k < 7
    · have HKN := Lib.hid (ks_next hlt)
      have hkl3 : (St.kst k).length ≤ 3 := St.ks_len _ (St.kst_mem k)
      have hkm' : (St.kst k).length ≤ maxLen := by unfold maxLen; omega
      obtain ⟨fo, hfo⟩ : ∃ f, f = St.found (St.ks.take k) l := ⟨_, rfl⟩
      have hfl : fo.length ≤ 7 ∧ St.size fo ≤ 8000000 := by
        have h1 := HFB.out
        rw [← hfo, List.length_take] at h1
        have h2 : min k St.ks.length ≤ 7 := by omega
        have h3 : min k St.ks.length * (3 + St.size l) ≤ 7 * (3 + St.size l) := Nat.mul_le_mul_right _ h2
        omega
      rw [← hfo]
      have HFN := Lib.hid (show St.found (St.ks.take (k + 1)) l = fo ++ one (St.kst k) (St.look l (St.kst k)) by rw [HKN.out, found_one, hfo])
      have HKS0 := Lib.hid (strO_len (St.kst k))
      obtain ⟨ka, hka⟩ : ∃ a, a = strO (St.kst k) := ⟨_, rfl⟩
      have HKA := Lib.hid hka
      have HG2 := Lib.hid (show ∀ w', Keeps [] w w' → Calls Tryz.prog 24 #[.map (some mb), .string ka] w' fun e w2 => e = .returned (.tuple #[.string (strO ((St.look l (St.kst k)).getD [])), .bool (St.look l (St.kst k)).isSome]) ∧ Keeps [] w' w2 from fun w' hk => by rw [hka]; exact HGT.out w' hk _ hkm')
      have HLK := Lib.hid (show ∀ w', Keeps [] w w' → (Instr.lookup 31 (.map (some mm)) (.string ka) true).run Tryz.prog w' = .ok (.tuple #[.string (strO ((St.look m (St.kst k)).getD [])), .bool (St.look m (St.kst k)).isSome]) w' from fun w' hk => by rw [hka]; exact look_map (HMM.out.keep hk (by simp)) hkm')
      have HKY2 := Lib.hid (show ∀ w' : World, Calls Tryz.prog 21 #[.int .u8 (k : Int)] w' fun e w2 => e = .returned (.string ka) ∧ Keeps [] w' w2 from fun w' => by rw [hka]; exact HKY.out k (by omega) w')
      obtain ⟨oa, hoa⟩ : ∃ o, o = St.look l (St.kst k) := ⟨_, rfl⟩
      obtain ⟨ob, hob⟩ : ∃ o, o = St.look m (St.kst k) := ⟨_, rfl⟩
      have hva : ∀ v, oa = some v → v.length ≤ 1000000 := fun v hv => by rw [hoa] at hv; have := look_size hv; omega
      rw [← hoa] at HG2 HFN
      rw [← hob] at HLK
      have HOA := Lib.hid hoa
      have HOB := Lib.hid hob
      have HVA := Lib.hid hva
      obtain ⟨fn, hfn⟩ : ∃ n, n = fo.length := ⟨_, rfl⟩
      obtain ⟨ft, hft⟩ : ∃ n, n = St.size fo := ⟨_, rfl⟩
      have HFNN := Lib.hid hfn
      have HFT := Lib.hid hft
      rw [← hfn, ← hft] at hfl ⊢
      obtain ⟨va, hva2⟩ : ∃ v, v = strO (oa.getD []) := ⟨_, rfl⟩
      obtain ⟨vb, hvb2⟩ : ∃ v, v = strO (ob.getD []) := ⟨_, rfl⟩
      obtain ⟨ba, hba2⟩ : ∃ b, b = oa.isSome := ⟨_, rfl⟩
      obtain ⟨bb, hbb2⟩ : ∃ b, b = ob.isSome := ⟨_, rfl⟩
      rw [← hva2, ← hba2] at HG2
      rw [← hvb2, ← hbb2] at HLK
      have HVA2 := Lib.hid hva2
      have HVB2 := Lib.hid hvb2
      have HBA2 := Lib.hid hba2
      have HBB2 := Lib.hid hbb2
      clear hka hoa hob hva hva2 hvb2 hba2 hbb2 hfo hfn hft
      go_wp2_with fail
      refine Reg.wp_region_state (A := ?A) (fun _ w' => Keeps [] wr w') (fun _ _ => True)
        [Is (.pointer (some ⟨sp, 0, none⟩)), Is (.pointer (some ⟨sp, 0, none⟩)), Is (.pointer (some ⟨sp, 0, none⟩)), Is (.map (some mb)), Is (.int .u8 (k : Int)), Is (.string ka), Is (.tuple #[.string va, .bool ba]), Is (.tuple #[.string va, .bool ba]), Is (.string va), Is (.bool ba), Is (.string va), Is (.bool ba)]
        (by kernel_rfl) (by kernel_rfl) rfl ?hA ?hC ?ho ?hlast ?hend
      case hA => intro vs; simp only [Reg.fill, if_true, Nat.zero_add, Nat.reduceAdd, Act.put, List.setIfInBounds_toArray, List.set_cons_succ, List.set_cons_zero]; exact rfl
      case hC => exact (Keeps.refl _ _).drew
      case hlast => repeat (first | exact trivial | refine ⟨fun _ _ _ h _ => h, ?_⟩)
      case ho =>
        repeat' apply And.intro
        all_goals
          first
            | exact trivial
            | (intro L vs w' hC hL hd K hK
               try simp only [Reg.Deps, Reg.at_, List.getD_cons_zero, List.getD_cons_succ, Region.binds, true_implies, Is, and_true] at hd
               have hx0' := (HK.out.trans hC (by simp)).cell_some HC0.out (by simp)
               go_simp
               first
                 | exact hK _ _ hC trivial rfl
                 | skip)
        · refine (HKY2.out w').mono ?_
          rintro e w2 ⟨rfl, hk⟩
          exact ⟨_, rfl, hK _ _ (hC.trans hk (by simp)) trivial rfl⟩
        · refine (HG2.out w' (HK.out.trans hC (by simp))).mono ?_
          rintro e w2 ⟨rfl, hk⟩
          exact ⟨_, rfl, hK _ _ (hC.trans hk (by simp)) trivial rfl⟩
      case hend =>
        intro vs w2 hC hall
        simp only [Reg.All, Is, and_true, Nat.zero_add, Nat.reduceAdd] at hall
        obtain ⟨-, -, -, -, -, -, -, -, -, -, e10, e11⟩ := hall
        rw [e10, e11]
        have HK2 := Lib.hid (HK.out.trans hC (by simp))
        clear hC e10 e11
        by_cases heq : oa = ob
        · have HEQ := Lib.hid heq
          have hvv : vb = va := by rw [HVB2.out, HVA2.out, heq]
          have hbb : bb = ba := by rw [HBB2.out, HBA2.out, heq]
          rw [hvv, hbb] at HLK
          clear hvv hbb heq HVB2 HBB2
          cases oa with
          | none =>
            obtain rfl : ba = false := HBA2.out
            have hsame : ((va.toList == va.toList)) = true := by simp
            go_wp2_with fail
            refine (HKY2.out _).mono ?_
            rintro e w3 ⟨rfl, hk3⟩
            have HK3 := Lib.hid (HK2.out.trans hk3 (by simp))
            have hlook := HLK.out w3 HK3.out
            clear hk3
            go_wp2_with fail
            go_roundw
            case rel =>
              refine ⟨k + 1, by omega, by go_num, ?_, ?_, fun j hj => ?_, HK3.out⟩
              · rw [HFN.out, HFNN.out]; simp [one]
              · rw [HFN.out, HFT.out]; simp [one]
              · rcases Nat.lt_succ_iff_lt_or_eq.1 hj with h | rfl
                · exact HALL.out j h
                · rw [← HOA.out, ← HOB.out, HEQ.out]
            case measure => simp [RowKit.intOf]; omega
          | some v =>
            obtain rfl : ba = true := HBA2.out
            have hsame : ((va.toList == va.toList)) = true := by simp
            have hvs : va.size = v.length := by rw [HVA2.out]; exact strO_len v
            have hv1 := HVA.out v rfl
            have hks : ka.size = (St.kst k).length := by rw [HKA.out]; exact HKS0.out
            have hkb : ka.size ≤ 3 := by omega
            have hvb : va.size ≤ 1000000 := by omega
            have HVS := Lib.hid hvs
            have HKSS := Lib.hid hks
            clear hvs hv1 hks
            go_wp2_with fail
            refine (HKY2.out _).mono ?_
            rintro e w3 ⟨rfl, hk3⟩
            have HK3 := Lib.hid (HK2.out.trans hk3 (by simp))
            have hlook := HLK.out w3 HK3.out
            clear hk3
            go_wp2_with fail
            refine (HKY2.out _).mono ?_
            rintro e w4 ⟨rfl, hk4⟩
            have HK4 := Lib.hid (HK3.out.trans hk4 (by simp))
            clear hk4 hlook
            go_wp2_with fail
            go_roundw
            case rel =>
              refine ⟨k + 1, by omega, by go_num, ?_, ?_, fun j hj => ?_, HK4.out⟩
              · rw [HFN.out, HFNN.out]; simp [one]
              · rw [HFN.out, HFT.out, HVS.out, HKSS.out, St.size_append]; simp [one, St.size]; try omega
              · rcases Nat.lt_succ_iff_lt_or_eq.1 hj with h | rfl
                · exact HALL.out j h
                · rw [← HOA.out, ← HOB.out, HEQ.out]
            case measure => simp [RowKit.intOf]; omega
        · have HNS := Lib.hid (show same7 l m = false from not_same (k := k) (by rw [← HOA.out, ← HOB.out]; exact heq))
          by_cases hbe : ba = bb
          · obtain ⟨v, rfl⟩ : ∃ v, oa = some v := by
              cases oa with
              | some v => exact ⟨v, rfl⟩
              | none =>
                exfalso
                rw [HBA2.out, HBB2.out] at hbe
                cases ob with
                | none => exact heq rfl
                | some u => cases hbe
            obtain ⟨u, rfl⟩ : ∃ u, ob = some u := by
              cases ob with
              | some u => exact ⟨u, rfl⟩
              | none => exfalso; rw [HBA2.out, HBB2.out] at hbe; cases hbe
            obtain rfl : ba = true := HBA2.out
            obtain rfl : bb = true := HBB2.out
            have hne : (va.toList == vb.toList) = false := by
              rw [HVA2.out, HVB2.out]
              exact str_ne' (fun e => heq (by simpa using e))
            clear heq hbe
            go_wp2_with fail
            refine (HKY2.out _).mono ?_
            rintro e w3 ⟨rfl, hk3⟩
            have HK3 := Lib.hid (HK2.out.trans hk3 (by simp))
            have hlook := HLK.out w3 HK3.out
            clear hk3
            go_wp2_with fail
            go_ret
            exact ⟨by rw [HNS.out]; rfl, HK3.out⟩
          · have hbn : (ba == bb) = false := by simpa using hbe
            clear heq hbe
            cases ba with
            | true =>
              obtain rfl : bb = false := by cases bb <;> simp at hbn ⊢
              clear hbn
              go_wp2_with fail
              refine (HKY2.out _).mono ?_
              rintro e w3 ⟨rfl, hk3⟩
              have HK3 := Lib.hid (HK2.out.trans hk3 (by simp))
              have hlook := HLK.out w3 HK3.out
              clear hk3
              go_wp2_with fail
              go_ret
              exact ⟨by rw [HNS.out]; rfl, HK3.out⟩
            | false =>
              obtain rfl : bb = true := by cases bb <;> simp at hbn ⊢
              clear hbn
              go_wp2_with fail
              refine (HKY2.out _).mono ?_
              rintro e w3 ⟨rfl, hk3⟩
              have HK3 := Lib.hid (HK2.out.trans hk3 (by simp))
              have hlook := HLK.out w3 HK3.out
              clear hk3
              go_wp2_with fail
              go_ret
              exact ⟨by rw [HNS.out]; rfl, HK3.out⟩
    · have hk7 : k = 7 := by omega
      have hfp := St.found_perm St.ks_nodup HST.out.map.1 HKL.out
      have htk : St.ks.take k = St.ks := by rw [hk7]; rfl
      have hn : (St.found (St.ks.take k) l).length = l.length := by rw [htk]; exact hfp.length_eq
      have ht : St.size (St.found (St.ks.take k) l) = St.size l := by rw [htk]; exact St.size_perm hfp
      have HSAME := Lib.hid (show same7 l m = true from same_of_all (fun j hj => HALL.out j (by omega)))
      rw [hn, ht]
      clear hfp htk hn ht HFB
      obtain ⟨wo, hwo⟩ : ∃ wo, wo = wr := ⟨_, rfl⟩
      subst hwo
      have HKE := Lib.hid (show Calls Tryz.prog 23 #[.map (some mb), .string ⟨#[]⟩] wo (KeysP wo l []) from HKS.out wo HK.out [])
      have hcm := HK.out.cell_some HC0.out (by simp)
      go_wp2_with fail
      refine HKE.out.mono ?_
      rintro e w1 ⟨A, c, g, ss, rfl, htx, hperm, hpw, _, hk1⟩
      have hf0 : (l.map (·.1)).filter (pre []) = l.map (·.1) := List.filter_eq_self.2 (fun k _ => pre_nil k)
      rw [hf0] at hperm
      have hsl2 : ss.length = l.length := by rw [hperm.length_eq, List.length_map]
      have HRI := Lib.hid (show ∀ i (h : i + 1 < ss.length), ss[i] < ss[i + 1] from fun i h => rising hpw ((hperm.nodup_iff).2 HST.out.map.1) h)
      have HPM := Lib.hid hperm
      have HTX := Lib.hid htx
      have HK1 := Lib.hid (HK.out.trans hk1 (by simp))
      have HSL2 := Lib.hid hsl2
      have hss : ss.length ≤ 1000 := by omega
      clear htx hperm hpw hk1 hf0 hsl2
      go_wp2_with fail
      go_loopw [13] (fun iv wq => ∃ j : Nat, j ≤ ss.length ∧ iv = .int .i64 ((j : Int) + 1) ∧ Keeps [] w1 wq) (fun iv _ => (ss.length + 1) - (RowKit.intOf iv).toNat)
      case atStart => exact ⟨0, by omega, rfl, Keeps.refl _ _⟩
      case round =>
        obtain ⟨j, hj, rfl, hkq⟩ := hrel
        have HKQ := Lib.hid hkq
        clear hkq
        by_cases hjl : j + 1 < ss.length
        · rcases HTX.out with h0 | ⟨off, rfl, hcell⟩
          · rw [h0] at hjl; simp at hjl
          · have d1 := Lib.hid (HKQ.out.cell_some (hcell j (by omega)) (by simp))
            have d2 := Lib.hid (HKQ.out.cell_some (hcell (j + 1) hjl) (by simp))
            have HLS := Lib.hid (less_of (HRI.out j hjl))
            obtain ⟨a1, ha1⟩ : ∃ a, a = strO (ss[j]'(by omega)) := ⟨_, rfl⟩
            obtain ⟨a2, ha2⟩ : ∃ a, a = strO ss[j + 1] := ⟨_, rfl⟩
            rw [← ha1] at d1
            rw [← ha2] at d2
            rw [← ha1, ← ha2] at HLS
            have hls := HLS.out
            have e1 : IntKind.i64.wrap ((j : Int) + 1 - 1) = (j : Int) := by rw [IntWalk.i64_in _ ⟨by omega, by omega⟩]; omega
            have e1b : IntKind.i64.wrap (j : Int) = (j : Int) := IntWalk.i64_in _ ⟨by omega, by omega⟩
            have e2 : ((j : Int) + 1).toNat = j + 1 := by omega
            have e3 : (0 : Int) ≤ (j : Int) + 1 := by omega
            have e4 : (j : Int) + 1 < (ss.length : Int) := by omega
            have e5 : j < ss.length := by omega
            clear hcell ha1 ha2 HLS
            go_wp2_with fail
            refine Reg.wp_region_state (A := ?A2) (fun _ w' => Keeps [] wr w') (fun _ _ => True)
              [Is (.slice (some ⟨g, off, none⟩) ss.length c), Is (.int .i64 ((j : Int) + 1)), Is (.int .i64 (j : Int)), Is (.pointer (some ⟨g, off + j, none⟩)), Is (.string a1), Is (.slice (some ⟨g, off, none⟩) ss.length c), Is (.int .i64 ((j : Int) + 1)), Is (.pointer (some ⟨g, off + (j + 1), none⟩)), Is (.string a2), Is (.bool false)]
              (by kernel_rfl) (by kernel_rfl) rfl ?hA2 ?hC2 ?ho2 ?hlast2 ?hend2
            case hA2 => intro vs; simp only [Reg.fill, if_true, Nat.zero_add, Nat.reduceAdd, Act.put, List.setIfInBounds_toArray, List.set_cons_succ, List.set_cons_zero]; exact rfl
            case hC2 => exact (Keeps.refl _ _).drew
            case hlast2 => repeat (first | exact trivial | refine ⟨fun _ _ _ h _ => h, ?_⟩)
            case ho2 =>
              repeat' apply And.intro
              all_goals
                first
                  | exact trivial
                  | (intro L vs w' hC hL hd K hK
                     try simp only [Reg.Deps, Reg.at_, List.getD_cons_zero, List.getD_cons_succ, Region.binds, true_implies, Is, and_true] at hd
                     have hx0' := hC.cell_some d1.out (by simp)
                     have hx1' := hC.cell_some d2.out (by simp)
                     go_simp
                     first
                       | exact hK _ _ hC trivial rfl
                       | skip)
              all_goals (rw [e1b]; exact hK _ _ hC trivial rfl)
            case hend2 =>
              intro vs w2 hC hall
              simp only [Reg.All, Is, and_true, Nat.zero_add, Nat.reduceAdd] at hall
              obtain ⟨-, -, -, -, -, -, -, -, -, e9⟩ := hall
              rw [e9]
              have HK2 := Lib.hid (HKQ.out.trans hC (by simp))
              clear hC e9 e1 e1b e2 hls
              go_wp2_with fail
              go_roundw
              case rel => exact ⟨j + 1, by omega, by go_num, HK2.out⟩
              case measure => simp [RowKit.intOf]; omega
        · have hjn : ¬ ((j : Int) + 1 < (ss.length : Int)) := by omega
          have HK2 := Lib.hid (HK1.out.trans HKQ.out (by simp))
          have HKB := Lib.hid HKQ.out
          obtain ⟨wb, hwb⟩ : ∃ wb, wb = wr := ⟨_, rfl⟩
          subst hwb
          go_wp2_with fail
          go_loopw [14, 15] (fun bv iv wq => ∃ i : Nat, i ≤ ss.length ∧ iv = .int .i64 (i : Int) ∧ bv = .int .i64 ((((ss.take i).filter (pre aS)).length : Nat) : Int) ∧ Keeps [] w1 wq) (fun _ iv _ => ss.length - (RowKit.intOf iv).toNat)
          case atStart => exact ⟨0, by omega, rfl, by simp, HKB.out⟩
          case round =>
            obtain ⟨i, hi, rfl, rfl, hkq⟩ := hrel
            have HKI := Lib.hid hkq
            clear hkq
            have hbl : ((ss.take i).filter (pre aS)).length ≤ 1000 := by
              have h1 := List.length_filter_le (pre aS) (ss.take i)
              rw [List.length_take] at h1; omega
            by_cases hil : i < ss.length
            · rcases HTX.out with h0 | ⟨off, rfl, hcell⟩
              · rw [h0] at hil; simp at hil
              · have d1 := HKI.out.cell_some (hcell i hil) (by simp)
                have HFN := Lib.hid (filter_next ss hil)
                have HPS := Lib.hid (fun (hh : ¬ 2 ≤ (ss[i]'hil).length) => pre_short hh)
                have HPL := Lib.hid (fun (hh : 2 ≤ (ss[i]'hil).length) => pre_long hh)
                have HSS := Lib.hid (strO_len ss[i])
                have hk3 : (ss[i]'hil).length ≤ 3 := by
                  obtain ⟨q, hq, hqe⟩ := List.mem_map.1 (HPM.out.mem_iff.1 (List.getElem_mem hil))
                  rw [← hqe]
                  exact St.ks_len _ (HKL.out q hq)
                obtain ⟨a1, ha1⟩ : ∃ a, a = strO ss[i] := ⟨_, rfl⟩
                rw [← ha1] at d1 HPL HSS
                obtain ⟨fb, hfb⟩ : ∃ n, n = ((ss.take i).filter (pre aS)).length := ⟨_, rfl⟩
                rw [← hfb] at HFN hbl ⊢
                obtain ⟨pb, hpb⟩ : ∃ b, b = pre aS ss[i] := ⟨_, rfl⟩
                rw [← hpb] at HPL HPS HFN
                have hsz : a1.size ≤ 3 := by rw [HSS.out]; exact hk3
                by_cases h2 : 2 ≤ a1.size
                · have hxx := HPL.out (by rw [← HSS.out]; exact h2)
                  clear hcell ha1 hfb hpb
                  cases pb with
                  | true =>
                    go_wp2_with fail
                    go_roundw
                    case rel => exact ⟨i + 1, hil, by go_num, by rw [HFN.out]; go_num, HKI.out⟩
                    case measure => simp [RowKit.intOf]; omega
                  | false =>
                    go_wp2_with fail
                    go_roundw
                    case rel => exact ⟨i + 1, hil, by go_num, by rw [HFN.out]; rfl, HKI.out⟩
                    case measure => simp [RowKit.intOf]; omega
                · obtain rfl : pb = false := HPS.out (by rw [← HSS.out]; exact h2)
                  clear hcell ha1 hfb hpb
                  have h2i : ¬ (2 : Int) ≤ (a1.size : Int) := by omega
                  go_wp2_with fail
                  go_roundw
                  case rel => exact ⟨i + 1, hil, by go_num, by rw [HFN.out]; rfl, HKI.out⟩
                  case measure => simp [RowKit.intOf]; omega
            · have hie : i = ss.length := by omega
              have hin : ¬ ((i : Int) < (ss.length : Int)) := by omega
              have htk2 : ss.take i = ss := by rw [hie, List.take_length]
              rw [htk2]
              have HK3 := Lib.hid (HK1.out.trans HKI.out (by simp))
              obtain ⟨wc, hwc⟩ : ∃ wc, wc = wr := ⟨_, rfl⟩
              subst hwc
              have q1 : ((ss.length : Int) == (l.length : Int)) = true := by rw [HSL2.out]; simp
              have q1d : decide ((ss.length : Int) = (l.length : Int)) = true := by rw [HSL2.out]; simp
              have HZ := Lib.hid (HSZ.out wc HK3.out)
              have hcm2 := HK3.out.cell_some HC0.out (by simp)
              have hfl : (ss.filter (pre aS)).length ≤ 1000 := by
                have h1 := List.length_filter_le (pre aS) ss
                omega
              clear htk2
              go_wp2_with fail
              refine HZ.out.mono ?_
              rintro e w4 ⟨rfl, hk4⟩
              have HK4 := Lib.hid (HK3.out.trans hk4 (by simp))
              have HKE2 := Lib.hid (show Calls Tryz.prog 23 #[.map (some mb), .string ⟨#[97, 47]⟩] w4 (KeysP w4 l aS) from HKS.out w4 HK4.out aS)
              have hcm4 := HK4.out.cell_some HC0.out (by simp)
              clear hk4 hcm2
              go_wp2_with fail
              refine HKE2.out.mono ?_
              rintro e w5 ⟨A5, c5, g5, s5, rfl, _, hp5, _, _, hk5⟩
              have HK5 := Lib.hid (HK4.out.trans hk5 (by simp))
              have h5l : s5.length = (ss.filter (pre aS)).length := by
                rw [hp5.length_eq]
                exact ((HPM.out.filter (pre aS)).length_eq).symm
              have q2 : ((s5.length : Int) == ((ss.filter (pre aS)).length : Int)) = true := by rw [h5l]; simp
              have q2d : decide ((s5.length : Int) = ((ss.filter (pre aS)).length : Int)) = true := by rw [h5l]; simp
              clear hp5 hk5 h5l
              go_wp2_with fail
              go_ret
              exact ⟨by rw [HSAME.out]; rfl, HK5.out⟩
end Go.Proofs.YtbanpdeganlndaaGreatDoor
