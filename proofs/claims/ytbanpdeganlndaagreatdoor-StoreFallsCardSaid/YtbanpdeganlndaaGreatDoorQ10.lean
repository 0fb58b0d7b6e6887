/- Merged: DTorn -/
import Derived.Test.YtbanpdeganlndaaGreatDoorQ3
import Derived.Test.YtbanpdeganlndaaGreatDoorQ1
import Derived.Test.YtbanpdeganlndaaGreatDoorQ9
import Derived.Test.YtbanpdeganlndaaGreatDoorQ5
import Derived.Deep.DeepCutAuto
namespace Go.Proofs.YtbanpdeganlndaaGreatDoor
open Go.RowKit Go.Maps
open Reg (Is Fact CB)
attribute [local go_sem] Reg.lateFr Reg.wantedV Reg.gives_value Reg.gives_skip Reg.gives_enter

/-- What a crash may leave of the fresh bytes, a sector torn or not: nothing, all, or some first bytes and the rest as it was durable. -/
def Torn (d : Dk) (fr' : Nat → Option (List UInt8)) : Prop := ∀ i, fr' i = none ∨ fr' i = d.fr i ∨ ∃ k b, d.fr i = some b ∧ fr' i = some (b.take k ++ (d.dur.getD i []).drop k)
theorem Torn.refl (d : Dk) : Torn d d.fr := fun _ => .inr (.inl rfl)
theorem Torn.none {d : Dk} {fr' : Nat → Option (List UInt8)} (h : Torn d fr') (i : Nat) : Torn d (fun j => if j = i then Option.none else fr' j) := fun j => by
  dsimp only
  by_cases hj : j = i
  · rw [if_pos hj]; exact .inl rfl
  · rw [if_neg hj]; exact h j
theorem Torn.part {d : Dk} {fr' : Nat → Option (List UInt8)} (h : Torn d fr') {i : Nat} {b : List UInt8} (hb : d.fr i = some b) (k : Nat) : Torn d (fun j => if j = i then some (b.take k ++ (d.dur.getD i []).drop k) else fr' j) := fun j => by
  dsimp only
  by_cases hj : j = i
  · subst hj; exact .inr (.inr ⟨k, b, hb, by rw [if_pos rfl]⟩)
  · rw [if_neg hj]; exact h j
/-- The keys behind k are as they were. -/
def Rest (d : Dk) (k : Nat) (fr' : Nat → Option (List UInt8)) : Prop := ∀ j i, k ≤ j → d.keys[j]? = some i → fr' i = d.fr i
theorem Rest.next {d : Dk} {k i : Nat} {fr' : Nat → Option (List UInt8)} (h : Rest d k fr') (hi : d.keys[k]? = some i) (x : Option (List UInt8)) : Rest d (k + 1) (fun j => if j = i then x else fr' j) := fun j i' hj hi' => by
  have hne : i' ≠ i := by
    rintro rfl
    have h1 := (Dk.rank_keys hi).1
    have h2 := (Dk.rank_keys hi').1
    omega
  dsimp only
  rw [if_neg hne]
  exact h j i' (by omega) hi'
theorem Rest.skip {d : Dk} {k : Nat} {fr' : Nat → Option (List UInt8)} (h : Rest d k fr') : Rest d (k + 1) fr' := fun j i hj hi => h j i (by omega) hi
def Dk.with (d : Dk) (fr' : Nat → Option (List UInt8)) : Dk := { d with fr := fr' }
theorem ok_with {d : Dk} (h : d.Ok) {fr' : Nat → Option (List UInt8)} (ht : Torn d fr') : (d.with fr').Ok := by
  refine ⟨h.size, h.secs, h.len, fun i b hb => ?_, h.left⟩
  have hb' : fr' i = some b := hb
  rcases ht i with h1 | h1 | ⟨k, b0, h1, h2⟩
  · rw [h1] at hb'; cases hb'
  · rw [h1] at hb'; exact h.fr i b hb'
  · have hf := h.fr i b0 h1
    rw [h2] at hb'
    have e := Option.some.inj hb'
    refine ⟨hf.1, ?_⟩
    have hd : (d.dur.getD i []).length = d.size := by
      rw [List.getD_eq_getElem?_getD, List.getElem?_eq_getElem hf.1]
      exact h.len _ (List.getElem_mem hf.1)
    rw [← e, List.length_append, List.length_take, List.length_drop, hd, hf.2]
    show min k d.size + (d.size - k) = d.size
    omega
/-- What lose leaves. -/
def LoseT (w : World) (h : DH) (B : Nat → Prop) (d : Dk) (e : Ending) (w' : World) : Prop :=
  e = .returned (.tuple #[]) ∧ ∃ fr' B', Torn d fr' ∧ DskAt w' h B' (d.with fr') ∧ (∀ x, B x → B' x) ∧ (∀ x, B' x → B x ∨ w.heap.size ≤ x) ∧ Keeps [h.gm] w w'
/-- A round of it. -/
def LoseR (w wr : World) (h : DH) (B : Nat → Prop) (d : Dk) (k : Nat) : Prop :=
  ∃ fr' B', Torn d fr' ∧ Rest d k fr' ∧ DskAt wr h B' (d.with fr') ∧ (∀ x, B x → B' x) ∧ (∀ x, B' x → B x ∨ w.heap.size ≤ x)

/-- Two slices in a new row. -/
def RowG (wr : World) (h : DH) (cs : Array Value) : Fact := fun v w => wr.heap.size ≤ w.heap.size ∧ h.gm < wr.heap.size ∧ ∃ x, v = .slice (some ⟨x, 0, none⟩) 2 2 ∧ (∀ j u, cs[j]? = some u → w.cell? ⟨x, j, none⟩ = some u) ∧ wr.heap.size ≤ x
theorem RowG.lastW {wr : World} {h : DH} {cs : Array Value} : ∀ v w w', RowG wr h cs v w → WG wr h w w' → RowG wr h cs v w' := by
  rintro v w w' ⟨h1, h2, x, hv, hc, hx⟩ hk
  have hk' := hk ⟨h1, h2⟩
  exact ⟨Nat.le_trans h1 hk'.size, h2, x, hv, fun j u hu => hk'.cell_some (hc j u hu) (by simp; omega), hx⟩
theorem slice_high_at {g o n cap k : Nat} (hk : k ≤ n) (hcap : n ≤ cap) (w : World) : (Instr.slice 62 (.slice (some ⟨g, o, none⟩) n cap) none (some (.int .i64 (k : Int))) none).run Tryz.prog w = .ok (.slice (some ⟨g, o, none⟩) k cap) w := by
  have := run_slice_h (P := Tryz.prog) w 62 (some ⟨g, o, none⟩) n cap elemBytes .i64 (k : Int) (by omega) (by omega)
  rw [this]
  have hs : (sizeOf (Tryz.prog.elem 62)).run Tryz.prog w = .ok 1 w := by kernel_rfl
  rw [hs]
  by_cases hc : cap = 0 <;> simp [Result.andThen, sliced, hc, Addr.add_lit]
theorem slice_low_at {g o n cap k : Nat} (hk : k ≤ n) (hcap : n ≤ cap) : ∃ o' : Nat, (∀ w, (Instr.slice 62 (.slice (some ⟨g, o, none⟩) n cap) (some (.int .i64 (k : Int))) none none).run Tryz.prog w = .ok (.slice (some ⟨g, o', none⟩) (n - k) (cap - k)) w) ∧
    ∀ w l, l.length = n → BytesIn w g (some ⟨g, o, none⟩) l → BytesIn w g (some ⟨g, o', none⟩) (l.drop k) := by
  refine ⟨if cap = k then o else o + k, fun w => ?_, fun w l hl h => ?_⟩
  · have := run_slice_l (P := Tryz.prog) w 62 (some ⟨g, o, none⟩) n cap elemBytes .i64 (k : Int) (by omega) (by omega)
    rw [this]
    have hs : (sizeOf (Tryz.prog.elem 62)).run Tryz.prog w = .ok 1 w := by kernel_rfl
    rw [hs]
    by_cases hc : cap = k <;> simp [Result.andThen, sliced, hc, Addr.add_lit]
  · have := BytesIn.drop h k (cap := cap) (by omega)
    by_cases hc : cap = k
    · rw [if_pos hc] at this ⊢; exact this
    · rw [if_neg hc] at this ⊢
      simpa [Addr.add_lit] using this
def TornC (wr : World) (h : DH) (B : Nat → Prop) (d : Dk) (w' : World) : Prop := Keeps [h.gm] wr w' ∧ ∃ B', DskAt w' h B' d ∧ (∀ x, B x → B' x) ∧ (∀ x, B' x → B x ∨ wr.heap.size ≤ x)

set_option maxHeartbeats 8000000 in
set_option maxRecDepth 100000 in
theorem loset_any (w : World) (h : DH) (B : Nat → Prop) (d : Dk) (x : DskAt w h B d) (keep : Nat) (hkeep : keep < 18446744073709551616) (torn pos : Int) :
    Calls Tryz.prog 37 #[.pointer (some ⟨h.p, 0, none⟩), .int .u64 (keep : Int), .int .i64 torn, .int .i64 pos] w (LoseT w h B d) := by
  obtain ⟨cap, c0, c1, c2, _⟩ := x.cells
  have hn := x.ok.secs.2
  have hsz := x.ok.size
  obtain ⟨k0, D, ho0, hk1, hk2⟩ := id x.fresh
  have ho := owns_small ho0 (fun kl hkl => by obtain ⟨j, hj, e, _⟩ := hk1 kl hkl; exact ⟨j, hj, e⟩)
  have hDs := ho.size_le
  have HX := Lib.hid x
  have HO := Lib.hid ho
  have HSK := Lib.hid (fun ss hp => sorted_keys (d := d) (ss := ss) ho hk1 (fun i b hi => (hk2 i b hi).1) (fun i hi => by obtain ⟨b, hb⟩ := Option.isSome_iff_exists.1 hi; exact (x.ok.fr i b hb).1) hp)
  have hlt := x.lt
  have HNE := Lib.hid x.ne
  have hkl := Dk.keys_le d
  obtain ⟨a, hpos⟩ : ∃ a : Nat, min (max pos 0) (d.size : Int) = (a : Int) := ⟨(min (max pos 0) (d.size : Int)).toNat, by omega⟩
  have hasz : a ≤ d.size := by omega
  clear x ho0 ho hk1 hk2
  go_enter Tryz.func37, Tryz.ntmps37
  go_wp2_with fail
  refine (keys_any (some h.gm) w).mono ?_
  rintro e w1 ⟨rfl, rfl⟩
  go_wp2_with fail
  refine (sorted_any h.gm d.dur.length D w HO.out (by unfold maxLen; omega) (by omega)).mono ?_
  rintro e w2 ⟨v, ss, rfl, hperm, hrow, hnil, hkw⟩
  have hsort := HSK.out ss hperm
  rw [hsort] at hrow
  have hlen : ss.length = d.keys.length := by
    have := congrArg List.length hsort
    simpa using this
  rw [hlen] at hrow
  have HROW := Lib.hid hrow
  have HKW := Lib.hid hkw
  obtain ⟨A1, cap1, rfl⟩ : ∃ A1 cap1, v = .slice A1 d.keys.length cap1 := by
    rcases own_form hrow with ⟨rfl, h0⟩ | ⟨g, cp, rfl, _⟩
    · exact ⟨none, 0, by rw [h0]⟩
    · exact ⟨_, cp, rfl⟩
  have HX2 := Lib.hid (HX.out.keep0 hkw)
  clear hperm hrow hnil hkw hsort hlen
  go_wp2_with fail
  go_loopw [24] (fun i wr => ∃ k : Nat, k ≤ d.keys.length ∧ i = .int .i64 (k : Int) ∧ LoseR w wr h B d k ∧ Keeps [h.gm] w2 wr) (fun i _ => d.keys.length - (Go.RowKit.intOf i).toNat)
  case atStart => exact ⟨0, Nat.zero_le _, rfl, ⟨d.fr, B, Torn.refl d, fun _ _ _ _ => rfl, HX2.out, fun _ h => h, fun _ h => .inl h⟩, Keeps.refl _ _⟩
  case round =>
    obtain ⟨k, hk, rfl, hxk, hkk⟩ := hrel
    obtain ⟨fr', B', htn, hrs, hdk, hb1, hb2⟩ := hxk
    have HTN := Lib.hid htn
    have HRS := Lib.hid hrs
    have HXK := Lib.hid hdk
    have HB1 := Lib.hid hb1
    have HB2 := Lib.hid hb2
    have HKK := Lib.hid hkk
    by_cases hkt : k < d.keys.length
    · obtain ⟨i, hi⟩ : ∃ i, d.keys[k]? = some i := ⟨_, List.getElem?_eq_getElem hkt⟩
      have hin := (Dk.rank_keys hi).2.1
      have hfi := (Dk.rank_keys hi).2.2
      obtain ⟨b, hb⟩ := Option.isSome_iff_exists.1 hfi
      obtain ⟨g1, hA, hg1⟩ : ∃ g1, A1 = some ⟨g1, 0, none⟩ ∧ w.heap.size ≤ g1 := by
        rcases own_form HROW.out with ⟨h0, h1⟩ | ⟨g, cp, h0, h1, _⟩
        · omega
        · cases h0; exact ⟨g, rfl, h1⟩
      subst hA
      have hcell : w2.cell? ⟨g1, k, none⟩ = some (.int .i64 (i : Int)) := by
        have := HROW.out.cells (g := g1) rfl k (.int .i64 (i : Int)) (by
          have e : ((d.keys.map fun i : Nat => (i : Int)).map encZ)[k]? = some (.int .i64 (i : Int)) := by
            rw [List.getElem?_map, List.getElem?_map, hi]; rfl
          exact e)
        rw [Addr.add_lit, Nat.zero_add] at this
        exact this
      have hc1 : wr.cell? ⟨g1, k, none⟩ = some (.int .i64 (i : Int)) := hkk.cell_some hcell (by simp; omega)
      obtain ⟨capk, m0, m1, m2, _⟩ := hdk.cells
      have HI := Lib.hid hi
      have HFB := Lib.hid hb
      clear hdk hkk hcell hi hb hfi htn hrs hb1 hb2
      by_cases htk : ((k : Nat) : Int) = torn
      · subst htk
        have et : (((k : Nat) : Int) == ((k : Nat) : Int)) = true := by simp
        go_wp2_with fail
        have hfi : fr' i = some b := by rw [HRS.out k i (Nat.le_refl _) HI.out]; exact HFB.out
        have hbl : b.length = d.size := (HXK.out.ok.fr i b hfi).2
        obtain ⟨kk, Dk1, hok, hq1, hq2⟩ := HXK.out.fresh
        obtain ⟨hhas, v0, hat, fb, fo, fc, hv0, hbf, hfc1, hfc2, hBf⟩ := hq2 i b hfi
        obtain ⟨vs0, hr0, hrv0⟩ := HXK.out.rows
        obtain ⟨v1, hv1, db, dof, dc, hv1', hbd, hdc1, hdc2, hBd⟩ := hrv0 i hin
        have hdl : d.dur[i].length = d.size := HX.out.ok.len _ (List.getElem_mem hin)
        have hbd : BytesIn wr db (some ⟨db, dof, none⟩) d.dur[i] := hbd
        have hdc1 : d.dur[i].length ≤ dc := hdc1
        have hv1' : v1 = .slice (some ⟨db, dof, none⟩) d.dur[i].length dc := hv1'
        subst hv0 hv1'
        rw [hdl] at hdc1 hv1
        rw [hbl] at hfc1 hat
        have HLK := Lib.hid (fun w' (hk' : Keeps [] wr w') => show (Instr.lookup 50 (.map (some h.gm)) (.int .i64 (i : Int)) false).run Tryz.prog w' = .ok (.slice (some ⟨fb, fo, none⟩) d.size fc) w' from by
          obtain ⟨v, ps, hrun, hv⟩ := (owns_keep hok hk' (by simp)).lookup keyLaw Tryz.underlying50 (zeroBytes w') (zd := .held (.slice none 0 0)) (zp := []) rfl (key_of (i := i) (by omega))
          rw [hat] at hv
          simp only [Raw, Option.some.injEq, Prod.mk.injEq, DataW.held.injEq] at hv
          rw [hrun, hv.1])
        have HRC := Lib.hid (show wr.cell? ⟨h.gd, i, none⟩ = some (.slice (some ⟨db, dof, none⟩) d.size dc) by rw [row_cell hr0]; exact hv1)
        obtain ⟨do', hsl, hdb'⟩ := slice_low_at (g := db) (o := dof) (n := d.size) (cap := dc) (k := a) hasz hdc1
        have HB1' := Lib.hid (show BytesIn wr fb (some ⟨fb, fo, none⟩) (b.take a) from BytesIn.take hbf a)
        have HB2' := Lib.hid (show BytesIn wr db (some ⟨db, do', none⟩) (d.dur[i].drop a) from hdb' wr _ hdl hbd)
        have hl1 : (b.take a).length = a := by rw [List.length_take]; omega
        have hl2 : (d.dur[i].drop a).length = d.size - a := by rw [List.length_drop, hdl]
        have hgetD : d.dur.getD i [] = d.dur[i] := by rw [List.getD_eq_getElem?_getD, List.getElem?_eq_getElem hin, Option.getD_some]
        have HNBL := Lib.hid (show (b.take a ++ d.dur[i].drop a).length = d.size by rw [List.length_append, hl1, hl2]; omega)
        have HL1 := Lib.hid hl1
        have HL2 := Lib.hid hl2
        have HSL := Lib.hid hsl
        have HGD := Lib.hid hgetD
        have HM0 := Lib.hid m0
        have HM1 := Lib.hid (show wr.cell? ⟨h.p, 1, none⟩ = some (.slice (some ⟨h.gd, 0, none⟩) d.dur.length capk) from m1)
        have HM2 := Lib.hid m2
        have hltr := HXK.out.lt
        have HTP := Lib.hid (show Torn d (fun j => if j = i then some (b.take a ++ d.dur[i].drop a) else fr' j) by have := HTN.out.part HFB.out a; rwa [hgetD] at this)
        clear hfi hbl hok hq1 hq2 hhas hat hbf hfc2 hBf hr0 hrv0 hv1 hbd hdc2 hBd hdl hsl hdb' hl1 hl2 hgetD m0 m1 m2
        refine Reg.wp_region_last 24 [0, 1, 2, 3, 4, 5, 6, 7, 8, 9, 10, 11, 12, 13, 14, 15, 16, 17, 18, 19, 20, 21, 22, 23] (fun w' => Keeps [] wr w') (fun w' => TornC wr h B' ((d.with fr').put i (b.take a ++ d.dur[i].drop a)) w') (WG wr h) (A := ?A)
          [Is (.pointer (some ⟨h.p, 0, none⟩)), Is (.pointer (some ⟨h.p, 0, none⟩)), Is (.pointer (some ⟨h.p, 2, none⟩)), Is (.map (some h.gm)), Is (.int .i64 (i : Int)), Is (.pointer (some ⟨h.p, 0, none⟩)), Is (.pointer (some ⟨h.p, 0, none⟩)), Is (.pointer (some ⟨h.p, 2, none⟩)), Is (.map (some h.gm)), Is (.int .i64 (i : Int)),
           Is (.slice (some ⟨fb, fo, none⟩) d.size fc), Is (.int .i64 (a : Int)), Is (.slice (some ⟨fb, fo, none⟩) a fc), Is (.pointer (some ⟨h.p, 0, none⟩)), Is (.pointer (some ⟨h.p, 0, none⟩)), Is (.pointer (some ⟨h.p, 1, none⟩)), Is (.slice (some ⟨h.gd, 0, none⟩) d.dur.length capk), Is (.int .i64 (i : Int)), Is (.pointer (some ⟨h.gd, i, none⟩)), Is (.slice (some ⟨db, dof, none⟩) d.size dc),
           Is (.int .i64 (a : Int)), Is (.slice (some ⟨db, do', none⟩) (d.size - a) (dc - a)), RowG wr h #[.slice (some ⟨fb, fo, none⟩) a fc, .slice (some ⟨db, do', none⟩) (d.size - a) (dc - a)], NewG wr h (b.take a ++ d.dur[i].drop a), AnyF]
          (by kernel_rfl) (by kernel_rfl) (by kernel_rfl) rfl ?hA ?hC ?ho ?hlast ?hend
        case hA => intro vs; simp only [Reg.fill, if_true, Nat.zero_add, Nat.reduceAdd, Act.put, List.setIfInBounds_toArray, List.set_cons_succ, List.set_cons_zero]; exact rfl
        case hC => exact (Keeps.refl _ _).drew
        case hlast => repeat (first | exact trivial | refine ⟨Is.lastW, ?_⟩ | refine ⟨NewG.lastW, ?_⟩ | refine ⟨RowG.lastW, ?_⟩ | refine ⟨AnyF.lastW, ?_⟩)
        case ho =>
          repeat' apply And.intro
          all_goals
            first
              | exact trivial
              | (intro bb vs2 w' hC hb hd K hK
                 have hbb : bb = false := by apply hb; decide
                 subst hbb
                 have hC0 := hC.1 rfl
                 try simp only [Reg.Deps, Reg.at_, List.getD_cons_zero, List.getD_cons_succ, Region.binds, true_implies, Is, and_true] at hd
                 have r1 := hC0.cell_some HM1.out (by simp)
                 have r2 := hC0.cell_some HM2.out (by simp)
                 have r3 := hC0.cell_some HRC.out (by simp)
                 have r4 := HLK.out w' hC0
                 have r5 := slice_high_at (g := fb) (o := fo) hasz hfc1 w'
                 have r6 := HSL.out w'
                 go_simp
                 first
                   | exact hK _ _ (CB.pre hC0 rfl) (WG.of (Keeps.refl _ _)) rfl
                   | skip)
          · exact hK _ _ (CB.pre (Keeps.alloc hC0 _) rfl) (WG.of ((Keeps.refl _ _).alloc _)) ⟨by have := hC0.size; rw [World.size_alloc]; omega, hltr.2.2, _, rfl, fun j u hu => by rw [cell_of_row _ _ _ _ _ _ (heap_alloc_new w' _)]; exact hu, hC0.size⟩
          · obtain ⟨hs1, hs2, x, hx, hxc, hx1⟩ := (show RowG wr h _ (vs2 22) w' by first | exact hd | exact hd.1)
            rw [hx]
            have hn := HX.out.ok.size
            refine (concat_any w' x fb db fo do' fc (dc - a) (b.take a) (d.dur[i].drop a) (HB1'.out.keep hC0 (by simp)) (HB2'.out.keep hC0 (by simp)) (by rw [HL1.out]; omega) (by rw [HL2.out]; omega) (by rw [HL1.out]; exact hxc 0 _ rfl) (by rw [HL2.out]; exact hxc 1 _ rfl)).mono ?_
            rintro e w'' ⟨v, g, rfl, ⟨A, c, hv, hbi⟩, hown, hk⟩
            have hnb := HNBL.out
            obtain ⟨g', cp, hv2, hg', hc1', hc2'⟩ : ∃ g' cp, v = .slice (some ⟨g', 0, none⟩) (b.take a ++ d.dur[i].drop a).length cp ∧ w'.heap.size ≤ g' ∧ (b.take a ++ d.dur[i].drop a).length ≤ cp ∧ cp ≤ maxLen := by
              rcases own_form hown with ⟨_, h0⟩ | h1
              · omega
              · exact h1
            rw [hv2] at hv
            cases hv
            obtain rfl : g = g' := by
              rcases hbi with h0 | ⟨off, e, _⟩
              · rw [h0] at hnb; simp at hnb; omega
              · cases e; rfl
            exact ⟨_, rfl, hK _ _ (CB.pre (hC0.trans hk (by simp)) rfl) (WG.of hk) ⟨Nat.le_trans hs1 hk.size, hs2, _, _, g, hv2, hbi, Nat.le_trans hC0.size hg', hc1', hc2', fun h => by cases h⟩⟩
          · obtain ⟨w2', hrun, hk2, B2, q3, q4, q5⟩ := HXK.out.stored (i := i) (b := b.take a ++ d.dur[i].drop a) (v := vs2 23) hin HNBL.out hC0 hd.2.2.1.2.2
            rw [hrun]
            simp only [Result.andThen, Reg.gives_skip]
            exact hK _ _ (CB.post ⟨(hC0.mono (by simp)).trans hk2 (fun _ h _ => h), B2, q3, q4, q5⟩) (fun _ => hk2) trivial
        case hend =>
          intro vs w4 hC hall
          obtain ⟨hk4, B4, q3, q4, q5⟩ := hC
          have HK4 := Lib.hid hk4
          have HD4 := Lib.hid q3
          have HQ4 := Lib.hid q4
          have HQ5 := Lib.hid q5
          clear hall hk4 q3 q4 q5
          go_wp2_with fail
          go_roundw
          case rel => exact ⟨k + 1, by omega, by go_num, ⟨_, B4, HTP.out, HRS.out.next HI.out _, HD4.out, fun y hy => HQ4.out y (HB1.out y hy), fun y hy => by
            rcases HQ5.out y hy with h1 | h1
            · exact HB2.out y h1
            · have := HKK.out.size; have := HKW.out.size; right; omega⟩, HKK.out.trans HK4.out (fun _ h _ => h)⟩
          case measure => simp [Go.RowKit.intOf]; omega
      · have et : (((k : Nat) : Int) == torn) = false := by rw [beq_eq_false_iff_ne]; exact htk
        have hbit : bits .and .u64 ((keep : Int) / 2 ^ (k % 64)) 1 = ((keep / 2 ^ (k % 64) % 2 : Nat) : Int) := bit_of keep (k % 64) hkeep
        clear htk
        by_cases hb : keep / 2 ^ (k % 64) % 2 = 0
        · have eb : (bits .and .u64 ((keep : Int) / 2 ^ (k % 64)) 1 == 0) = true := by rw [hbit, beq_iff_eq]; omega
          obtain ⟨kk, Dk1, hok, hq1, hq2⟩ := HXK.out.fresh
          have HOK := Lib.hid hok
          have HQ1 := Lib.hid hq1
          have HQ2 := Lib.hid hq2
          clear hb hbit hok hq1 hq2
          go_wp2_with (at_delete; refine wpList_delete_own _ rfl _ _ 50 3 rfl 62 keyLaw Tryz.underlying50 Raw h.gm kk Dk1 rfl HOK.out _ (key i) rfl (key_of (by omega)) ?_)
          intro w5 ho5 ht5
          have HF5 := Lib.hid (FrAt.drop_of HQ1.out HQ2.out ho5 ht5 HXK.out.sep.2.2)
          have HK5 := Lib.hid (turned_keeps ht5)
          clear ho5 ht5
          go_wp2_with fail
          go_roundw
          case rel => exact ⟨k + 1, by omega, by go_num, ⟨_, B', HTN.out.none i, HRS.out.next HI.out _, HXK.out.refr (d' := d.with (fun j => if j = i then Option.none else fr' j)) HK5.out (ok_with HX.out.ok (HTN.out.none i)) rfl rfl rfl rfl rfl HF5.out, HB1.out, HB2.out⟩, HKK.out.trans HK5.out (fun _ h _ => h)⟩
          case measure => simp [Go.RowKit.intOf]; omega
        · have eb : (bits .and .u64 ((keep : Int) / 2 ^ (k % 64)) 1 == 0) = false := by rw [hbit, beq_eq_false_iff_ne]; omega
          clear hb hbit
          go_wp2_with fail
          go_roundw
          case rel => exact ⟨k + 1, by omega, by go_num, ⟨fr', B', HTN.out, HRS.out.skip, HXK.out, HB1.out, HB2.out⟩, HKK.out⟩
          case measure => simp [Go.RowKit.intOf]; omega
    · clear htn hrs hdk hb1 hb2 hkk
      go_wp2_with fail
      go_end0
      exact ⟨rfl, fr', B', HTN.out, HXK.out, HB1.out, HB2.out, (HKW.out.mono (T := [h.gm]) (by simp)).trans HKK.out (fun _ h _ => h)⟩
end Go.Proofs.YtbanpdeganlndaaGreatDoor
