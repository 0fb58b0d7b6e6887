/- A disk's Write. -/
import Derived.Test.YtgjgnieobbhepaaDoorDWrite
namespace Go.Proofs.YtgjgnieobbhepaaDoor
open Go.RowKit
open Reg (Is Fact)

attribute [local go_sem] Reg.lateFr Reg.wantedV Reg.gives_value Reg.gives_skip Reg.gives_enter
/-- A copy of bytes in a block that is not older than W. -/
def NewB (W : Nat) (b : List UInt8) : Fact := fun v w => ∃ A cap g, v = .slice A b.length cap ∧ BytesIn w g A b ∧ W ≤ g ∧ b.length ≤ cap ∧ cap ≤ maxLen ∧ (A = none → b = [])
theorem DskAt.stored {wr w1 : World} {h : DH} {B : Nat → Prop} {d : Dk} {i : Nat} {b : List UInt8} {v : Value} (x : DskAt wr h B d) (hi : i < d.dur.length) (hb : b.length = d.size) (hk : Keeps [] wr w1) (hv : NewB wr.heap.size b v w1) :
    ∃ w2, (Instr.mapUpdate 43 (.map (some h.gm)) (.int .i64 (i : Int)) v).run Tryd.prog w1 = .ok () w2 ∧ Keeps [h.gm] w1 w2 ∧
      ∃ B', DskAt w2 h B' (d.put i b) ∧ (∀ x, B x → B' x) ∧ (∀ x, B' x → B x ∨ wr.heap.size ≤ x) := by
  obtain ⟨A, cap, g, rfl, hbi, hg, hc, hm, _⟩ := hv
  have hsz := x.ok.size
  have hsec := x.ok.secs
  have hne := x.ne
  have hlt := x.lt
  have hg1 : g < w1.heap.size := hbi.lt (by omega)
  have hs : SecV w1 (fun x => B x ∨ x = g) (.slice A b.length cap) b := by
    rcases hbi with h0 | ⟨off, rfl, hc2⟩
    · rw [h0] at hb; simp at hb; omega
    · exact ⟨g, off, cap, rfl, .inr ⟨off, rfl, hc2⟩, hc, hm, .inr rfl⟩
  obtain ⟨w2, hrun, hf, ht⟩ := x.fresh.store (B' := fun x => B x ∨ x = g) hsec.2 hi hk hs (fun _ h => .inl h) (by
    rintro (h1 | h1)
    · exact x.sep.2.2 h1
    · omega)
  have hk2 := turned_keeps ht
  have hk3 : Keeps [h.gm] wr w2 := (hk.mono (T := [h.gm]) (by simp)).trans hk2 (fun _ h _ => h)
  refine ⟨w2, hrun, hk2, fun x => B x ∨ x = g, ⟨Dk.ok_put x.ok hi hb, ?_, ?_, hf, ?_, ?_⟩, fun _ h => .inl h, fun y hy => ?_⟩
  · obtain ⟨capb, hbx⟩ := x.box
    exact ⟨capb, block_keep hbx hk3 (by simpa using hne.2.1)⟩
  · obtain ⟨vs, hr, hv⟩ := x.rows
    refine ⟨vs, block_keep hr hk3 (by simpa using hne.2.2), fun j hj => ?_⟩
    obtain ⟨v, q1, q2⟩ := hv j hj
    exact ⟨v, q1, q2.keep hk3 (fun y hy => by simp at hy; rw [hy]; exact x.sep.2.2) (fun _ h => .inl h)⟩
  · refine ⟨?_, ?_, ?_⟩
    · rintro (h1 | h1)
      · exact x.sep.1 h1
      · omega
    · rintro (h1 | h1)
      · exact x.sep.2.1 h1
      · omega
    · rintro (h1 | h1)
      · exact x.sep.2.2 h1
      · omega
  · rintro y (h1 | h1)
    · have := x.low y h1; have := hk3.size; omega
    · have := hk2.size; omega
  · rcases hy with h1 | h1
    · exact .inl h1
    · right; omega
def WriteP (w : World) (h : DH) (B : Nat → Prop) (d : Dk) (i : Int) (b : List UInt8) (e : Ending) (w' : World) : Prop :=
  e = .returned (.int .i64 (d.writeErr i b : Int)) ∧ Keeps h.l w w' ∧ ∃ B', DskAt w' h B' (d.write i b) ∧ (∀ x, B x → B' x) ∧ (∀ x, B' x → B x ∨ w.heap.size ≤ x)
/-- What the region of the store leaves. -/
def WC (wr : World) (h : DH) (B : Nat → Prop) (d' : Dk) (L : Nat → Bool) (w' : World) : Prop :=
  (L 8 = false → Keeps [] wr w') ∧ (L 8 = true → Keeps [h.gm] wr w' ∧ ∃ B', DskAt w' h B' d' ∧ (∀ x, B x → B' x) ∧ (∀ x, B' x → B x ∨ wr.heap.size ≤ x))
def WG (wr : World) (h : DH) (w w' : World) : Prop := wr.heap.size ≤ w.heap.size ∧ h.gm < wr.heap.size → Keeps [h.gm] w w'
theorem Is.lastW {wr : World} {h : DH} {u : Value} : ∀ v w w', Is u v w → WG wr h w w' → Is u v w' := fun _ _ _ h _ => h
def AnyF : Fact := fun _ _ => True
theorem AnyF.lastW {wr : World} {h : DH} : ∀ v w w', AnyF v w → WG wr h w w' → AnyF v w' := fun _ _ _ _ _ => trivial
def NewG (wr : World) (h : DH) (b : List UInt8) : Fact := fun v w => wr.heap.size ≤ w.heap.size ∧ h.gm < wr.heap.size ∧ NewB wr.heap.size b v w
theorem NewG.lastW {wr : World} {h : DH} {b : List UInt8} : ∀ v w w', NewG wr h b v w → WG wr h w w' → NewG wr h b v w' := by
  rintro v w w' ⟨h1, h2, A, cap, g, hv, hb, hg, hc⟩ hk
  have hk' := hk ⟨h1, h2⟩
  exact ⟨Nat.le_trans h1 hk'.size, h2, A, cap, g, hv, hb.keep hk' (by simp; omega), hg, hc⟩
theorem lay_ne {L : Nat → Bool} {i j : Nat} (h : i ≠ j) : Reg.lay L i j = L j := by simp [Reg.lay, Ne.symm h]
theorem lay_eq {L : Nat → Bool} {i : Nat} : Reg.lay L i i = true := by simp [Reg.lay]
section
variable {w1 w w' : World} {h : DH} {B : Nat → Prop} {d' : Dk} {L : Nat → Bool} {i : Nat}
theorem WC.lay (hC : WC w1 h B d' L w) (hi : i ≠ 8) (hk : Keeps [] w w') : WC w1 h B d' (Reg.lay L i) w' := by
  unfold WC
  rw [lay_ne hi]
  refine ⟨fun e => (hC.1 e).trans hk (by simp), fun e => ?_⟩
  obtain ⟨q1, B', q2, q3, q4⟩ := hC.2 e
  exact ⟨q1.trans hk (by simp), B', q2.keep0 hk, q3, q4⟩
theorem WC.keeps (hC : WC w1 h B d' L w) : Keeps [h.gm] w1 w := by
  cases e : L 8 with
  | true => exact (hC.2 e).1
  | false => exact (hC.1 e).mono (by simp)
theorem WG.of (hk : Keeps [] w w') : WG w1 h w w' := fun _ => hk.mono (by simp)
end
theorem gm_apart {w : World} {h : DH} {B : Nat → Prop} {d : Dk} {g : Nat} {A : Option Addr} {b : List UInt8} (x : DskAt w h B d) (hb : BytesIn w g A b) (hl : 0 < b.length) : g ≠ h.gm := by
  rintro rfl
  obtain ⟨k, D, ⟨es, c, hm, _⟩, _⟩ := x.fresh
  rcases hb with h0 | ⟨off, rfl, hc⟩
  · subst h0; simp at hl
  · have := hc 0 hl
    simp [World.cell?, hm] at this
set_option maxHeartbeats 2000000 in
set_option maxRecDepth 100000 in
theorem write_any (w : World) (h : DH) (B : Nat → Prop) (d : Dk) (x : DskAt w h B d) (i : Int) (A : Option Addr) (g cap : Nat) (b : List UInt8) (hb : BytesIn w g A b) (hl : b.length ≤ 140737488355328) :
    Calls Tryd.prog 26 #[.pointer (some ⟨h.p, 0, none⟩), .int .i64 i, .slice A b.length cap] w (WriteP w h B d i b) := by
  obtain ⟨cp, c0, c1, c2, c3, c4, c5⟩ := x.cells
  have HX := Lib.hid x
  have HB := Lib.hid hb
  have hn := x.ok.secs
  have hsz := x.ok.size
  have hltp := x.lt
  cases hd : d.dead with
  | true =>
    rw [hd] at c3
    have HR := Lib.hid (show WriteP w h B d i b (.returned (.int .i64 32)) w from ⟨by simp [Dk.writeErr, hd], Keeps.refl _ _, B, by
      have e : d.write i b = d := by unfold Dk.write; rw [if_pos hd]
      rw [e]; exact x, fun _ h => h, fun _ h => .inl h⟩)
    clear x hd hb
    go_enter Tryd.func26, Tryd.ntmps26
    go_wp2_with fail
    go_ret
    exact HR.out
  | false =>
    rw [hd] at c3
    cases hh : d.has i with
    | false =>
      have hnot : ¬ (0 ≤ i ∧ i < (d.dur.length : Int)) := fun hx => by rw [(d.has_iff i).2 hx] at hh; cases hh
      have HR := Lib.hid (show WriteP w h B d i b (.returned (.int .i64 30)) w from ⟨by unfold Dk.writeErr; rw [if_neg (by rw [hd]; simp), if_pos hnot]; rfl, Keeps.refl _ _, B, by
        have e : d.write i b = d := by unfold Dk.write; rw [if_neg (by rw [hd]; simp), if_pos hnot]
        rw [e]; exact x, fun _ h => h, fun _ h => .inl h⟩)
      have HH := Lib.hid hh
      clear x hd hh hnot hb
      go_enter Tryd.func26, Tryd.ntmps26
      go_wp2_with fail
      refine (has_any w h B d HX.out i).mono ?_
      rintro e w' ⟨rfl, rfl⟩
      rw [HH.out]
      go_wp2_with fail
      go_ret
      exact HR.out
    | true =>
      have hin := (d.has_iff i).1 hh
      have hnn : ¬ ¬ (0 ≤ i ∧ i < (d.dur.length : Int)) := not_not_intro hin
      by_cases hbl : b.length = d.size
      · have e0 : ((b.length : Int) != (d.size : Int)) = false := by rw [bne_eq_false_iff_eq]; omega
        have HBL := Lib.hid hbl
        have HH := Lib.hid hh
        have hib : i.toNat < d.dur.length := by omega
        obtain ⟨n, rfl⟩ : ∃ n : Nat, i = (n : Int) := ⟨i.toNat, by omega⟩
        rw [Int.toNat_natCast] at hib
        cases hp : d.power with
        | false =>
          have HR := Lib.hid (show ∀ w', DskAt w' h B d.drawn → Keeps [h.p] w w' → WriteP w h B d n b (.returned (.int .i64 32)) w' from fun w' q1 q2 => ⟨by unfold Dk.writeErr; rw [if_neg (by rw [hd]; simp), if_neg hnn, if_neg (by simpa using hbl), if_neg (by rw [hp]; simp)]; rfl, q2.mono (by simp [DH.l]), B, by
            have e : d.write n b = d.drawn := by unfold Dk.write; rw [if_neg (by rw [hd]; simp), if_neg hnn, if_neg (by simpa using hbl), if_neg (by rw [hp]; simp)]
            rw [e]; exact q1, fun _ h => h, fun _ h => .inl h⟩)
          have HP := Lib.hid hp
          clear x hd hh hnn hb hp hbl hin
          go_enter Tryd.func26, Tryd.ntmps26
          go_wp2_with fail
          refine (has_any w h B d HX.out n).mono ?_
          rintro e w' ⟨rfl, rfl⟩
          rw [HH.out]
          go_wp2_with fail
          refine (draw_no w h B d HX.out HP.out).mono ?_
          rintro e w1 ⟨rfl, q1, q2⟩
          have HW := Lib.hid (HR.out w1 q1 q2)
          clear q1 q2
          go_wp2_with fail
          go_ret
          exact HW.out
        | true =>
          have HR := Lib.hid (show ∀ w1 w', Keeps [h.p] w w1 → Keeps [h.gm] w1 w' → (∃ B', DskAt w' h B' (d.drawn.put n b) ∧ (∀ x, B x → B' x) ∧ (∀ x, B' x → B x ∨ w1.heap.size ≤ x)) → WriteP w h B d n b (.returned (.int .i64 0)) w' from fun w1 w' q1 q2 ⟨B', q3, q4, q5⟩ => ⟨by unfold Dk.writeErr; rw [if_neg (by rw [hd]; simp), if_neg hnn, if_neg (by simpa using hbl), if_pos hp]; rfl,
            (q1.mono (T := h.l) (by simp [DH.l])).trans q2 (by simp [DH.l]), B', by
            have e : d.write n b = d.drawn.put n b := by unfold Dk.write; rw [if_neg (by rw [hd]; simp), if_neg hnn, if_neg (by simpa using hbl), if_pos hp, Int.toNat_natCast]
            rw [e]; exact q3, q4, fun y hy => (q5 y hy).imp id (fun h9 => by have := q1.size; omega)⟩)
          have HP := Lib.hid hp
          have HBP := Lib.hid (show ∀ w1, Keeps [h.p] w w1 → BytesIn w1 g A b from fun w1 hk => by
            obtain ⟨cb, hbx⟩ := x.box
            by_cases hb0 : b.length = 0
            · exact .inl (List.eq_nil_of_length_eq_zero hb0)
            · refine hb.keep hk ?_
              have := bytes_apart hbx (fun j c => by rcases j with _ | _ | _ | _ | _ | _ | j <;> simp) hb (by omega)
              simpa using this)
          clear x hd hh hnn hb hp hbl hin
          go_enter Tryd.func26, Tryd.ntmps26
          go_wp2_with fail
          refine (has_any w h B d HX.out n).mono ?_
          rintro e w' ⟨rfl, rfl⟩
          rw [HH.out]
          go_wp2_with fail
          refine (draw_yes w h B d HX.out HP.out).mono ?_
          rintro e w1 ⟨rfl, q1, q2⟩
          have HX1 := Lib.hid q1
          have HK1 := Lib.hid q2
          have HB1 := Lib.hid (HBP.out w1 q2)
          have HM1 := Lib.hid (by obtain ⟨_, _, _, h2, _⟩ := q1.cells; exact h2 : w1.cell? ⟨h.p, 2, none⟩ = some (.map (some h.gm)))
          have hlt1 := q1.lt
          have HSM := Lib.hid (Dk.drawn_same d)
          have HGM := Lib.hid (gm_apart q1 (HBP.out w1 q2) (by have := HBL.out; omega))
          have HNE := Lib.hid q1.ne
          clear q1 q2 c0 c1 c2 c3 c4 c5
          go_wp2_with fail
          refine Reg.wp_region_state (A := ?A) (WC w1 h B (d.drawn.put n b)) (WG w1 h)
            [Is (.pointer (some ⟨h.p, 0, none⟩)), Is (.pointer (some ⟨h.p, 0, none⟩)), Is (.pointer (some ⟨h.p, 0, none⟩)), Is (.pointer (some ⟨h.p, 2, none⟩)), Is (.map (some h.gm)), Is (.int .i64 (n : Int)), Is (.slice A b.length cap), NewG w1 h b, AnyF]
            (by kernel_rfl) (by kernel_rfl) rfl ?hA ?hC ?ho ?hlast ?hend
          case hA => intro vs; simp only [Reg.fill, if_true, Nat.zero_add, Nat.reduceAdd, Act.put, List.setIfInBounds_toArray, List.set_cons_succ, List.set_cons_zero]; exact rfl
          case hC => exact ⟨fun _ => (Keeps.refl _ _).drew, fun hl => by simp at hl⟩
          case hlast => repeat (first | exact trivial | refine ⟨Is.lastW, ?_⟩ | refine ⟨NewG.lastW, ?_⟩ | refine ⟨AnyF.lastW, ?_⟩)
          case ho =>
            repeat' apply And.intro
            all_goals
              first
                | exact trivial
                | (intro Ls vs w' hC hL hd K hK
                   try simp only [Reg.Deps, Reg.at_, List.getD_cons_zero, List.getD_cons_succ, Region.binds, true_implies, Is, and_true] at hd
                   have m1 := hC.keeps.cell_some HM1.out (by simpa using HNE.out.2.1)
                   go_simp
                   first
                     | exact hK _ _ (hC.lay (by decide) (Keeps.refl _ _)) (WG.of (Keeps.refl _ _)) rfl
                     | skip)
            · refine (clone_any w' g A b cap (HB1.out.keep hC.keeps (by simpa using HGM.out)) hl).mono ?_
              rintro e w'' ⟨A', cap', g', rfl, r1, r2, r3, r4, r5, r6⟩
              have hs := hC.keeps.size
              exact ⟨_, rfl, hK _ _ (hC.lay (by decide) r6) (WG.of r6) ⟨Nat.le_trans hs r6.size, hlt1.2.2, A', cap', g', rfl, r1, Nat.le_trans hs r2, r3, r4, r5⟩⟩
            · obtain ⟨w2, hrun, hk2, B', q3, q4, q5⟩ := HX1.out.stored (i := n) (b := b) (v := vs 7) (by rw [HSM.out.2.1]; exact hib) (by rw [HSM.out.1]; exact HBL.out) (hC.1 hL) hd.2.2.1.2.2
              rw [hrun]
              simp only [Result.andThen, Reg.gives_skip]
              refine hK _ _ ⟨fun e => (by rw [lay_eq] at e; cases e), fun _ => ⟨((hC.1 hL).mono (by simp)).trans hk2 (fun _ h _ => h), B', q3, q4, q5⟩⟩ (fun _ => hk2) trivial
          case hend =>
            intro vs w4 hC hall
            obtain ⟨q1, q2⟩ := hC.2 rfl
            have HW := Lib.hid (HR.out w1 w4 HK1.out q1 q2)
            clear hC hall q1 q2
            go_wp2_with fail
            go_ret
            exact HW.out
      · have hbl' : b.length ≠ d.size := hbl
        have HR := Lib.hid (show WriteP w h B d i b (.returned (.int .i64 31)) w from ⟨by unfold Dk.writeErr; rw [if_neg (by rw [hd]; simp), if_neg hnn, if_pos hbl']; rfl, Keeps.refl _ _, B, by
          have e : d.write i b = d := by unfold Dk.write; rw [if_neg (by rw [hd]; simp), if_neg hnn, if_pos hbl']
          rw [e]; exact x, fun _ h => h, fun _ h => .inl h⟩)
        have HH := Lib.hid hh
        have e0 : ((b.length : Int) != (d.size : Int)) = true := by rw [bne_iff_ne]; omega
        clear x hd hh hnn hb hbl hbl'
        go_enter Tryd.func26, Tryd.ntmps26
        go_wp2_with fail
        refine (has_any w h B d HX.out i).mono ?_
        rintro e w' ⟨rfl, rfl⟩
        rw [HH.out]
        go_wp2_with fail
        go_ret
        exact HR.out
end Go.Proofs.YtgjgnieobbhepaaDoor
