/- loadArea: frame after frame, until the panic that ends the reading. -/
import Derived.Test.YtgjgnieobbhepaaDoorWFrm
import Derived.Defers
import Derived.Recover
namespace Go.Proofs.YtgjgnieobbhepaaDoor
open Go.RowKit
open Reg (Is Fact CB)

attribute [local go_sem] Reg.lateFr Reg.wantedV Reg.gives_value Reg.gives_skip Reg.gives_enter
theorem assert_stop (w : World) : (Instr.typeAssert (.iface 108 (.agg #[.int .i64 0])) 20 108 true).run Tryd.prog w = .ok (.tuple #[.agg #[.int .i64 0], .bool true]) w := by kernel_rfl
set_option maxRecDepth 100000 in
theorem panicking_area (q : Nat) (x : Value) (older : List PanicEntry) (w : World) (hq : w.heap[q]? = some (.cells #[x] 29 (0, 0))) :
    CallsD Tryd.prog 60 #[.pointer (some ⟨q, 0, none⟩)] (.panicking ({ v := .iface 108 (.agg #[.int .i64 0]), recovered := false } :: older)) w fun e u' w' =>
      e = .returned (.tuple #[]) ∧ u' = .panicking ({ v := .iface 108 (.agg #[.int .i64 0]), recovered := true } :: older) ∧ w'.heap[q]? = some (.cells #[.int .i64 0] 29 (0, 0)) ∧ Keeps [q] w w' := by
  have hlt := block_lt hq
  have hc0 : (w.alloc (.cells #[.int .i64 0] 108)).cell? ⟨q, 0, none⟩ = some x := by
    rw [((Keeps.refl [] w).alloc _).cell (p := ⟨q, 0, none⟩) hlt (by simp), row_cell hq]; rfl
  have hz0 : (w.alloc (.cells #[.int .i64 0] 108)).frozen? ⟨q, 0, none⟩ = false := row_free (block_keep hq ((Keeps.refl [] w).alloc _) (by simp)) 0
  have hn0 : (w.alloc (.cells #[.int .i64 0] 108)).cell? ⟨w.heap.size, 0, none⟩ = some (.int .i64 0) := by rw [row_cell (heap_alloc_new w _)]; rfl
  refine callsD_of_wpS Tryd.func60 rfl fun c₀ cs hu => ?_
  apply wpS_seq
  apply wpS_region
  simp [wpOpsS, go_sem, recoverD, hu, assert_stop, hc0, hz0, hn0, Tryd.ntmps60, Exit.thenS]
  apply wpS_seq
  apply wpS_region
  simp [wpOpsS, go_sem, Exit.thenS]
  refine wpS_cond (t := true) (by simp [Act.eval]) ?_
  simp only [if_true]
  apply wpS_region
  simp [wpOpsS, go_sem, hc0, hz0, hn0, bodyPostS, results, Tryd.results60]
  exact ⟨by rw [row_set (block_keep hq ((Keeps.refl [] w).alloc _) (by simp)) 0 _]; rfl, ((Keeps.refl [q] w).alloc _).setCell (by simp) _⟩
theorem split_count : ∀ {b : List UInt8} {rs : List (List UInt8)}, L.split b = some rs → 4 * rs.length ≤ b.length := by
  intro b
  induction hb : b.length using Nat.strongRecOn generalizing b with
  | ind n ih =>
    intro rs h
    by_cases h0 : b = []
    · subst h0; rw [L.split_nil] at h; cases h; simp
    · by_cases h4 : 4 ≤ b.length
      · by_cases hf : L.de32 b ≤ b.length - 4
        · rw [L.split_next h4 hf, Option.map_eq_some_iff] at h
          obtain ⟨rs', h1, rfl⟩ := h
          have := ih ((b.drop 4).drop (L.de32 b)).length (by rw [List.length_drop, List.length_drop]; omega) rfl h1
          rw [List.length_drop, List.length_drop] at this
          rw [List.length_cons]; omega
        · rw [L.split_cut h4 (by omega)] at h; cases h
      · rw [L.split_short h0 (by omega)] at h; cases h
theorem readF_count {s : Nat} {S : List UInt8} {rs : List (List UInt8)} {k : Nat} (hs : 0 < s) (h : L.readF s S = some (rs, k)) : 4 * rs.length ≤ k * s := by
  obtain ⟨_, h2, _⟩ := L.readF_pos hs h
  obtain ⟨_, _, _, _, h5, _⟩ := L.readF_parts h
  have h3 := split_count h5
  rw [List.length_take] at h3
  omega
def NewRdr (W : Nat) (dp nx en : Nat) : Fact := fun v w => ∃ x, v = .pointer (some ⟨x, 0, none⟩) ∧ RdrAt w x dp nx en (.slice none 0 0) ∧ W ≤ x
theorem NewRdr.keep0 {W dp nx en : Nat} : ∀ v w w', NewRdr W dp nx en v w → Keeps [] w w' → NewRdr W dp nx en v w' := by
  rintro v w w' ⟨x, h1, h2, h3⟩ hk
  exact ⟨x, h1, h2.keep hk (by simp), h3⟩
def rdrNext (rp : Nat) (w : World) : Nat := match w.cell? ⟨rp, 1, none⟩ with
  | some (.int _ z) => z.toNat
  | _ => 0
theorem rdrNext_of {w : World} {rp dp nx en : Nat} {v : Value} (h : RdrAt w rp dp nx en v) : rdrNext rp w = nx := by
  unfold rdrNext; rw [h.cells.2.1]; simp
/-- What loadArea yields. -/
def AreaP (w : World) (h : DH) (lp a : Nat) (d : Dk) (e : Ending) (w' : World) : Prop :=
  ∃ rs u v, e = .returned (.tuple #[v, .int .i64 0]) ∧ L.Reads d.size (L.cat d.last (L.st d.dur.length a) (L.cap d.dur.length)) rs u ∧ RowsOwn w' w.heap.size v rs ∧ LogAt w' lp h.p ⟨a, u, rs.length, false⟩ ∧ Keeps [lp] w w'
set_option maxRecDepth 100000 in
set_option maxHeartbeats 8000000 in
theorem area_any (w : World) (h : DH) (B : Nat → Prop) (d : Dk) (lp a : Nat) (x : DskAt w h B d) (hd : d.dead = false) (y : LogAt w lp h.p ⟨a, 0, 0, false⟩) (ht : TabAt w) (hlB : ¬ B lp) (hlp0 : lp ≠ 0) (ha : a ≤ 1) (hN : 16 ≤ d.dur.length) :
    Calls Tryd.prog 49 #[.pointer (some ⟨lp, 0, none⟩)] w (AreaP w h lp a d) := by
  have hmf : ∀ (fn : Fn) (first cap : Array Value) (w : World), (Instr.makeFunc fn first cap).run Tryd.prog w = .ok (.func fn first cap) w := fun _ _ _ _ => rfl
  obtain ⟨iS, hS, hS0, hS1, hS2⟩ := info_parts infoSl
  have hsz := x.ok.size
  have hsecs := x.ok.secs
  have hlt := x.lt
  have hne := y.ne x
  have hll := y.lt
  have hcap := L.cap_room hN
  have hstf := L.st_fits (N := d.dur.length) (a := a) (by omega) ha
  have hk0 : Keeps [] w (w.alloc (.cells #[.int .i64 0] 29)) := (Keeps.refl _ _).alloc _
  have HX0 := Lib.hid (x.keep0 hk0)
  have HY0 := Lib.hid (y.keep hk0 (by simp))
  have HT0 := Lib.hid (ht.keep hk0 (by simp))
  have hbx : (w.alloc (.cells #[.int .i64 0] 29)).heap[w.heap.size]? = some (.cells #[.int .i64 0] 29 (0, 0)) := heap_alloc_new w _
  have HBX := Lib.hid hbx
  have HK0 := Lib.hid hk0
  have HNE := Lib.hid hne
  have HLB := Lib.hid hlB
  have HLOW := Lib.hid x.low
  have HD := Lib.hid hd
  obtain ⟨c0, c1, c2, c3, c4⟩ := (HY0.out).cells
  obtain ⟨st, hst⟩ : ∃ st, st = L.st d.dur.length a := ⟨_, rfl⟩
  obtain ⟨cp, hcp⟩ : ∃ cp, cp = L.cap d.dur.length := ⟨_, rfl⟩
  have HSTART := Lib.hid (start_any _ h B d lp ⟨a, 0, 0, false⟩ HX0.out HY0.out a ha)
  have HCAP := Lib.hid (fun w' (hk : Keeps [] (w.alloc (.cells #[.int .i64 0] 29)) w') => capacity_any w' h B d lp ⟨a, 0, 0, false⟩ (HX0.out.keep0 hk) (HY0.out.keep hk (by simp)) hN)
  rw [← hst] at HSTART hstf
  rw [← hcp] at HCAP hcap
  have HST := Lib.hid hst
  have HCP := Lib.hid hcp
  have e1 : IntKind.i64.wrap ((st : Int) + (cp : Int)) = ((st + cp : Nat) : Int) := by
    rw [show ((st + cp : Nat) : Int) = (st : Int) + (cp : Int) by push_cast; rfl]; exact IntWalk.i64_in _ ⟨by omega, by omega⟩
  clear x y ht hd hlB hne hk0 hbx hst hcp
  go_enter_defers Tryd.func49, Tryd.ntmps49
  go_wp2_with fail
  refine HSTART.out.mono ?_
  rintro e w' ⟨rfl, rfl⟩
  go_wp2_with fail
  refine Reg.wp_region_state (A := ?A) (fun _ w' => Keeps [] (w.alloc (.cells #[.int .i64 0] 29)) w') (Keeps [])
    [Is (.pointer (some ⟨lp, 0, none⟩)), Is (.pointer (some ⟨lp, 0, none⟩)), Is (.pointer (some ⟨lp, 0, none⟩)), Is (.pointer (some ⟨h.p, 0, none⟩)), Is (.int .i64 (st : Int)), Is (.int .i64 (st : Int)), Is (.pointer (some ⟨lp, 0, none⟩)), Is (.int .i64 (cp : Int)), Is (.int .i64 ((st + cp : Nat) : Int)),
     Is (.agg #[.pointer (some ⟨h.p, 0, none⟩), .int .i64 (st : Int), .int .i64 ((st + cp : Nat) : Int), .slice none 0 0]), NewRdr (w.heap.size + 1) h.p st (st + cp), NewRdr (w.heap.size + 1) h.p st (st + cp)]
    (by kernel_rfl) (by kernel_rfl) rfl ?hA ?hC ?ho ?hlast ?hend
  case hA => intro vs; simp only [Reg.fill, if_true, Nat.zero_add, Nat.reduceAdd, Act.put, List.setIfInBounds_toArray, List.set_cons_succ, List.set_cons_zero]; exact rfl
  case hC => exact (Keeps.refl _ _).drew
  case hlast => repeat (first | exact trivial | refine ⟨Is.keep0, ?_⟩ | refine ⟨NewRdr.keep0, ?_⟩)
  case ho =>
    repeat' apply And.intro
    all_goals
      first
        | exact trivial
        | (intro Ls vs w' hC hL hd K hK
           try simp only [Reg.Deps, Reg.at_, List.getD_cons_zero, List.getD_cons_succ, Region.binds, true_implies, Is, and_true] at hd
           have q0 := hC.cell_some c0 (by simp)
           have q1 := hC.cell_some c1 (by simp)
           go_simp
           first
             | exact hK _ _ hC (Keeps.refl _ _) rfl
             | skip)
    · refine (HCAP.out w' hC).mono ?_
      rintro e w'' ⟨rfl, rfl⟩
      exact ⟨_, rfl, hK _ _ hC (Keeps.refl _ _) rfl⟩
    · have hs9 := hC.size
      refine hK _ _ (hC.alloc _) ((Keeps.refl _ _).alloc _) ⟨w'.heap.size, rfl, ?_, by simpa using hs9⟩
      exact heap_alloc_new _ _
    · exact hK _ _ hC (Keeps.refl _ _) (by first | exact hd | exact hd.1)
  case hend =>
    intro vs w1 hk1 hall
    obtain ⟨rp, hv11, hrd, hrp⟩ : NewRdr (w.heap.size + 1) h.p st (st + cp) (vs 11) w1 := hall.2.2.2.2.2.2.2.2.2.2.2.1
    have HK1 := Lib.hid hk1
    have HX1 := Lib.hid (HX0.out.keep0 hk1)
    have HY1 := Lib.hid (HY0.out.keep hk1 (by simp))
    have HT1 := Lib.hid (HT0.out.keep hk1 (by simp))
    have HBX1 := Lib.hid (block_keep HBX.out hk1 (by simp))
    have HRD := Lib.hid hrd
    have hrpl := block_lt hrd
    have hw1 := hk1.size
    simp only [World.size_alloc] at hw1
    obtain ⟨S, hS⟩ : ∃ S, S = L.cat d.last st cp := ⟨_, rfl⟩
    have hsiz : ∀ i, i < d.dur.length → (d.last i).length = d.size := fun i hi => Dk.last_len HX1.out.ok hi
    have hSl : S.length = cp * d.size := by rw [hS]; exact L.cat_length fun j _ h2 => hsiz j (by omega)
    have hcps : cp * d.size ≤ 4096 * 4096 := Nat.mul_le_mul (by omega) hsz.2
    have HS := Lib.hid hS
    have HSL := Lib.hid hSl
    have HSIZ := Lib.hid hsiz
    rw [hv11]
    clear hall hk1 hrd hv11 hS hSl hsiz c0 c1 c2 c3 c4 e1
    go_wp2_with fail
    go_loopw [2] (fun rv wr => ∃ u acc Ar cr lv, rv = .slice Ar acc.length cr ∧ u ≤ cp ∧ 4 * acc.length ≤ u * d.size ∧ RowsOwn wr w1.heap.size (.slice Ar acc.length cr) acc ∧ RdrAt wr rp h.p (st + u) (st + cp) lv ∧ LogAt wr lp h.p ⟨a, u, acc.length, false⟩ ∧ Keeps [lp, rp] w1 wr ∧ (∀ rs' u', L.Reads d.size (S.drop (u * d.size)) rs' u' → L.Reads d.size S (acc ++ rs') (u + u'))) (fun _ wr => st + cp - rdrNext rp wr)
    case atStart => exact ⟨0, [], none, 0, _, rfl, by omega, by simp, RowsOwn.nil _ _, HRD.out, HY1.out, Keeps.refl _ _, fun rs' u' hr => by simpa using hr⟩
    case round =>
      obtain ⟨u, acc, Ar, cr, lv, rfl, huc, hcnt, hown, hrd, hlog, hkp, hreads⟩ := hrel
      have husz : u * d.size ≤ cp * d.size := Nat.mul_le_mul_right _ huc
      have hcnt2 : acc.length ≤ 4194304 := by omega
      have hkd : DskAt wr h B d := HX1.out.keep hkp (fun z hz => by
        simp only [List.mem_cons, List.not_mem_nil, or_false] at hz
        rcases hz with rfl | rfl
        · exact ⟨HNE.out.2.2.2, HLB.out⟩
        · exact ⟨by simp [DH.l]; omega, fun hb => by have := HLOW.out _ hb; omega⟩)
      have htd : TabAt wr := HT1.out.keep hkp (by simp; omega)
      have hdrop : S.drop (u * d.size) = L.cat d.last (st + u) (st + cp - (st + u)) := by
        rw [HS.out, L.cat_drop huc (fun j _ h2 => HSIZ.out j (by omega)), show st + cp - (st + u) = cp - u by omega]
      have HFR := Lib.hid (by
        have := frame_read wr h B d rp (st + u) (st + cp) lv hkd HD.out hrd htd (by omega) (fun z hz => by
          rcases hz with hz | hz
          · simp [DH.l] at hz; omega
          · have := HLOW.out z hz; omega) (by omega) (by omega)
        rw [← hdrop] at this
        exact this)
      have HLG := Lib.hid hlog
      have HKP := Lib.hid hkp
      have HRE := Lib.hid hreads
      have HOW := Lib.hid hown
      have HRN := Lib.hid (rdrNext_of hrd)
      have hwrs := hkp.size
      have HBXR := Lib.hid (block_keep HBX1.out hkp (by simp; omega))
      clear hkd htd hdrop hrd hlog hkp hreads hown
      cases hR : L.readF d.size (S.drop (u * d.size)) with
      | none =>
        have HFN := Lib.hid (HFR.out.mono (fun e w' hq => (by rw [hR] at hq; exact hq : e = .panicked stopped ∧ Keeps [rp] wr w')))
        have HFIN := Lib.hid (HRE.out [] 0 (.stop hR))
        clear hR
        go_wp2_with fail
        refine HFN.out.mono ?_
        rintro e w2 ⟨rfl, hk2⟩
        have HK2 := Lib.hid hk2
        have HBX2 := Lib.hid (block_keep HBXR.out hk2 (by simp; omega))
        clear hk2
        have HOW2 := Lib.hid (HOW.out.keep HK2.out (by simp; omega))
        have HLG2 := Lib.hid (HLG.out.keep HK2.out (by simp; omega))
        go_wp2
        unfold stopped
        refine leaves_cons (f := 60) (args := #[.pointer (some ⟨w.heap.size, 0, none⟩)]) (by simp) (by simp [go_sem]) ?_
        refine (panicking_area w.heap.size _ [] w2 HBX2.out).mono ?_
        rintro e u' w3 ⟨rfl, rfl, hb3, hk3⟩
        have hc3 : w3.cell? ⟨w.heap.size, 0, none⟩ = some (.int .i64 0) := row_cell hb3 0
        have HFA := Lib.hid (show AreaP w h lp a d (.returned (.tuple #[.slice Ar acc.length cr, .int .i64 0])) w3 from by
          refine ⟨acc, u, _, rfl, ?_, (HOW2.out.keep hk3 (by simp; omega)).lower (by omega), HLG2.out.keep hk3 (by simp; omega), ?_⟩
          · have := HFIN.out
            rw [List.append_nil, Nat.add_zero] at this
            rw [← HST.out, ← HCP.out, ← HS.out]; exact this
          · have k1 : Keeps [lp, rp, w.heap.size] w w1 := ((HK0.out.trans HK1.out (by simp)).mono (by simp))
            have k2 : Keeps [lp, rp, w.heap.size] w wr := k1.trans HKP.out (fun i hi _ => by simp at hi ⊢; omega)
            have k3 : Keeps [lp, rp, w.heap.size] w w2 := k2.trans HK2.out (fun i hi _ => by simp at hi ⊢; omega)
            have k4 : Keeps [lp, rp, w.heap.size] w w3 := k3.trans hk3 (fun i hi _ => by simp at hi ⊢; omega)
            exact k4.mono (fun i hi hl => by simp at hi ⊢; omega))
        simp [Leaves, settle, results, Tryd.results49, go_sem, hc3]
        exact HFA.out
      | some p =>
        obtain ⟨rs, k⟩ := p
        have hkp1 := L.readF_pos (by omega) hR
        have HSD := Lib.hid (show (S.drop (u * d.size)).length = (cp - u) * d.size by rw [List.length_drop, HSL.out, Nat.sub_mul])
        have hkf := L.readF_fits (by omega) HSD.out hR
        have hrc := readF_count (by omega) hR
        have hks : k * d.size ≤ cp * d.size := Nat.mul_le_mul_right _ (by omega)
        have HFN := Lib.hid (HFR.out.mono (fun e w' hq => (by rw [hR] at hq; exact hq : ∃ v lv, e = .returned v ∧ RowsOwn w' wr.heap.size v rs ∧ RdrAt w' rp h.p (st + u + k) (st + cp) lv ∧ Keeps [rp] wr w')))
        have HRE2 := Lib.hid (show ∀ rs' u', L.Reads d.size (S.drop ((u + k) * d.size)) rs' u' → L.Reads d.size S ((acc ++ rs) ++ rs') (u + k + u') from fun rs' u' hr => by
          have := HRE.out (rs ++ rs') (k + u') (.more hR (by rw [List.drop_drop, ← Nat.add_mul]; exact hr))
          rw [← List.append_assoc, ← Nat.add_assoc] at this
          exact this)
        have huk : (u + k) * d.size = u * d.size + k * d.size := Nat.add_mul _ _ _
        clear hR
        go_wp2_with fail
        refine HFN.out.mono ?_
        rintro e w2 ⟨v2, lv2, rfl, hown2, hrd2, hk2⟩
        obtain ⟨A2, c2, hv2, hA2, _, _⟩ := hown2.form
        subst hv2
        have hw2 := hk2.size
        obtain ⟨xs, hxo, hxe⟩ := HOW.out.keep hk2 (by simp; omega)
        obtain ⟨ys, hyo, hye⟩ := hown2
        have HXO := Lib.hid hxo
        have HXE := Lib.hid hxe
        have HYL := Lib.hid (show ys.length = rs.length * 1 from hyo.1)
        have HYE := Lib.hid (show ∀ j (hj : j < rs.length), ∃ x, ys[j]? = some x ∧ ElV w2 (fun g => w1.heap.size ≤ g ∧ (Value.slice Ar acc.length cr).ownBlock ≠ some g) x rs[j] from fun j hj => by
          obtain ⟨x, q1, q2⟩ := hye j hj
          refine ⟨x, q1, q2.mono fun z hz => ⟨by omega, fun e => ?_⟩⟩
          obtain ⟨xs0, h0o, _⟩ := HOW.out
          have := (h0o.lt z e).2
          omega)
        have HY1 := Lib.hid (show ∀ u ∈ ys, u.oneCell' = true from fun z hz => by
          obtain ⟨j, hj, rfl⟩ := List.getElem_of_mem hz
          have hl := hyo.1
          obtain ⟨x, q1, q2⟩ := hye j (by omega)
          rw [List.getElem?_eq_getElem hj] at q1
          rw [Option.some.inj q1]; exact q2.one)
        have HYC := Lib.hid (show ∀ ad, A2 = some ad → ∀ j u, ys[j]? = some u → w2.cell? (ad.add j) = some u from fun ad e j z hz => by
          rcases hyo.2 with ⟨hv, _⟩ | ⟨g9, c9, cu9, hv, _⟩
          · rw [e] at hv; cases hv
          · have he : A2 = some ⟨g9, 0, none⟩ := by injection hv
            rw [e] at he
            obtain rfl := Option.some.inj he
            exact hyo.cells (g := g9) (by rw [hv]; rfl) j z hz)
        have HA2 := Lib.hid (show A2 = none → rs.length = 0 from fun e => by rw [hA2 e]; rfl)
        have HK2 := Lib.hid hk2
        have HRD2 := Lib.hid hrd2
        have HLG2 := Lib.hid (HLG.out.keep hk2 (by simp; omega))
        clear hxo hxe hyo hye hk2 hrd2 hA2
        go_wp2_with (at_builtin; refine wpList_append_in _ rfl _ _ 28 rfl w1.heap.size 34 iS (.slice none 0 0) 1 24 Tryd.underlying28 hS hS0 hS1 hS2 rfl (by decide) (.slice Ar acc.length cr) acc.length xs rfl HXO.out A2 rs.length c2 ys rfl HYL.out HA2.out HYC.out HY1.out ?p1 ?p2 ?p3 ?_)
        case p1 => unfold maxLen; omega
        case p2 => omega
        case p3 => omega
        intro v3 w3 ho3 hg3 hat3
        have hmore : RowsOwn w3 w1.heap.size v3 (acc ++ rs) := RowsOwn.more HXO.out HXE.out HYE.out ho3 hg3 hat3
        obtain ⟨Ar3, cr3, hv3, _, _, _⟩ := hmore.form
        have hk3 : Keeps (Value.slice Ar acc.length cr).ownBlock.toList w2 w3 := Keeps.of_grown hg3
        have hob : ∀ z ∈ (Value.slice Ar acc.length cr).ownBlock.toList, w1.heap.size ≤ z := fun z hz => by
          cases hq : (Value.slice Ar acc.length cr).ownBlock with
          | none => rw [hq] at hz; simp at hz
          | some r => rw [hq] at hz; simp at hz; have := HXO.out.lt r hq; omega
        have HRD3 := Lib.hid (HRD2.out.keep hk3 (fun hm => by have := hob _ hm; omega))
        have HLG3 := Lib.hid (HLG2.out.keep hk3 (fun hm => by have := hob _ hm; omega))
        have HMO := Lib.hid hmore
        have HK23 := Lib.hid (show Keeps [lp, rp] w1 w3 from ((HKP.out.trans HK2.out (fun i hi _ => by simp at hi; simp [hi])).mono (T := [lp, rp] ++ (Value.slice Ar acc.length cr).ownBlock.toList) (fun i hi _ => List.mem_append_left _ hi)).trans hk3 (fun i hi _ => by simp [hi]) |>.mono (fun i hi hl => by
          simp only [List.mem_append] at hi
          rcases hi with hi | hi
          · exact hi
          · have := hob i hi; omega))
        have HOB := Lib.hid hob
        subst hv3
        have HHB3 := Lib.hid (show True from trivial)
        obtain ⟨t0, t1, t2, t3⟩ := HRD3.out.cells
        obtain ⟨l0, l1, l2, l3, l4⟩ := HLG3.out.cells
        have f2 := HLG3.out.free 2
        have f3 := HLG3.out.free 3
        have hns : (acc ++ rs).length = acc.length + rs.length := List.length_append
        obtain ⟨nn, hnn⟩ : ∃ nn, nn = (acc ++ rs).length := ⟨_, rfl⟩
        have HNN := Lib.hid hnn
        rw [← hnn]
        obtain ⟨w4, hw4⟩ : ∃ w4, w4 = (w3.setCell ⟨lp, 2, none⟩ (.int .i64 ((st : Int) + (u : Int) + (k : Int) - (st : Int)))).setCell ⟨lp, 3, none⟩ (.int .i64 (nn : Int)) := ⟨_, rfl⟩
        have hk4 : Keeps [lp] w3 w4 := by rw [hw4]; exact ((Keeps.refl _ _).setCell (by simp) _).setCell (by simp) _
        have HLG4 := Lib.hid (show LogAt w4 lp h.p ⟨a, u + k, (acc ++ rs).length, false⟩ by
          unfold LogAt
          rw [hw4, row_set (row_set HLG3.out 2 _) 3 _, ← hnn, show ((u + k : Nat) : Int) = (st : Int) + (u : Int) + (k : Int) - (st : Int) by push_cast; omega]
          rfl)
        have HRD4 := Lib.hid (show RdrAt w4 rp h.p (st + (u + k)) (st + cp) lv2 by have := HRD3.out.keep hk4 (by simp; omega); rwa [Nat.add_assoc] at this)
        have HMO4 := Lib.hid (HMO.out.keep hk4 (by simp; omega))
        have HK4 := Lib.hid (HK23.out.trans hk4 (by simp))
        clear hmore hk3 hob hk4 hnn hg3 hat3 ho3
        subst hw4
        go_wp2_with fail
        go_roundw
        case rel => exact ⟨u + k, acc ++ rs, Ar3, cr3, lv2, by rw [HNN.out], by omega, by rw [huk]; simp only [List.length_append]; omega, HMO4.out, HRD4.out, HLG4.out, HK4.out, HRE2.out⟩
        case measure =>
          rw [rdrNext_of HRD4.out, HRN.out]
          omega
end Go.Proofs.YtgjgnieobbhepaaDoor
