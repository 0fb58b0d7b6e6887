/- A disk's settle and Flush. -/
import Derived.Test.YtgjgnieobbhepaaDoorDPut
namespace Go.Proofs.YtgjgnieobbhepaaDoor
open Go.RowKit

theorem ranges_keep {S : List Nat} {w w' : World} {gm r n : Nat} {D : DataW Value} {left : Lit → Bool} {cnt : Nat} (h : w.ranges Tryd.prog 3 Raw gm r n D left cnt) (hk : Keeps S w w') (h1 : gm ∉ S) (h2 : r ∉ S) : w'.ranges Tryd.prog 3 Raw gm r n D left cnt := by
  obtain ⟨es, c, since, seen, c0, hb, F, hs, hD, hr, hrest⟩ := h
  exact ⟨es, c, since, seen, c0, block_keep hb hk h1, F, hs, hD, block_keep hr hk h2, hrest⟩
/-- What the loop of settle has done: the sectors that are still to come hold their durable bytes. -/
def SetAt (w wr : World) (h : DH) (B : Nat → Prop) (d : Dk) (left : Lit → Bool) : Prop :=
  Keeps [h.gd] w wr ∧ ∃ vs : Array Value, wr.heap[h.gd]? = some (.cells vs 34 (0, 0)) ∧ ∀ i (hi : i < d.dur.length), ∃ v, vs[i]? = some v ∧ SecV wr B v (if left (key i) then d.dur[i] else d.last i)
theorem SetAt.step {w wr w2 : World} {h : DH} {B : Nat → Prop} {d : Dk} {left : Lit → Bool} (x : SetAt w wr h B d left) (hk : Keeps [w.heap.size] wr w2) (hgd : h.gd < w.heap.size) (hB : ¬ B w.heap.size) : SetAt w w2 h B d left := by
  obtain ⟨h1, vs, h2, h3⟩ := x
  refine ⟨h1.trans hk (fun x hx hl => by simp at hx; omega), vs, block_keep h2 hk (by simp; omega), fun i hi => ?_⟩
  obtain ⟨v, q1, q2⟩ := h3 i hi
  exact ⟨v, q1, q2.keep hk (fun y hy => by simp at hy; rw [hy]; exact hB) (fun _ h => h)⟩
theorem SetAt.store {w wr : World} {h : DH} {B : Nat → Prop} {d : Dk} {left : Lit → Bool} {i : Nat} {v : Value} (x : SetAt w wr h B d left) (hi : i < d.dur.length) (hv : SecV wr B v (d.last i)) (hgd : ¬ B h.gd) :
    SetAt w (wr.setCell ⟨h.gd, i, none⟩ v) h B d (fun z => left z && !z.sameKey (key i)) := by
  obtain ⟨h1, vs, h2, h3⟩ := x
  have hk : Keeps [h.gd] wr (wr.setCell ⟨h.gd, i, none⟩ v) := (Keeps.refl _ _).setCell (by simp) _
  refine ⟨h1.trans hk (by simp), vs.setIfInBounds i v, row_set h2 i v, fun j hj => ?_⟩
  by_cases hji : j = i
  · subst hji
    obtain ⟨u, q1, _⟩ := h3 j hj
    have hlt := (Array.getElem?_eq_some_iff.1 q1).1
    refine ⟨v, by simp [hlt], ?_⟩
    have hs : (key j).sameKey (key j) = true := same_int _
    simp only [hs, Bool.not_true, Bool.and_false, Bool.false_eq_true, if_false]
    exact hv.keep hk (fun y hy => by simp at hy; rw [hy]; exact hgd) (fun _ h => h)
  · obtain ⟨u, q1, q2⟩ := h3 j hj
    refine ⟨u, by rw [Array.getElem?_setIfInBounds_ne (Ne.symm hji)]; exact q1, ?_⟩
    have hne : key j ≠ key i := fun e => hji (key_inj e)
    have hs : (key j).sameKey (key i) = false := Maps.sameKey_ne hne
    simp only [hs, Bool.not_false, Bool.and_true]
    exact q2.keep hk (fun y hy => by simp at hy; rw [hy]; exact hgd) (fun _ h => h)
def SettleP (w : World) (h : DH) (B : Nat → Prop) (d : Dk) (e : Ending) (w' : World) : Prop := e = .returned (.tuple #[]) ∧ DskAt w' h B d.settle ∧ Keeps h.l w w'
/-- What clear leaves behind the loop. -/
theorem SetAt.done {w wr w2 : World} {h : DH} {B : Nat → Prop} {d : Dk} {left : Lit → Bool} (x : DskAt w h B d) (y : SetAt w wr h B d left) (hl : ∀ kl, left kl = false) (hf : FrAt w2 h.gm B d.dur.length (fun _ => none)) (hk : Keeps [h.gm] wr w2) : SettleP w h B d (.returned (.tuple #[])) w2 := by
  obtain ⟨h1, vs, h2, h3⟩ := y
  have hne := x.ne
  have hk2 : Keeps h.l w w2 := (h1.mono (T := h.l) (by simp [DH.l])).trans hk (by simp [DH.l])
  refine ⟨rfl, ⟨Dk.ok_settle x.ok, ?_, ⟨vs, block_keep h2 hk (by simpa using hne.2.2), fun i hi => ?_⟩, by simpa [Dk.settle] using hf, x.sep, fun y hy => Nat.lt_of_lt_of_le (x.low y hy) hk2.size⟩, hk2⟩
  · obtain ⟨cap, hb⟩ := x.box
    refine ⟨cap, ?_⟩
    rw [block_keep (block_keep hb h1 (by simpa using hne.1)) hk (by simpa using hne.2.1)]
    simp [Dk.settle]
  · have hi' : i < d.dur.length := by simpa [Dk.settle] using hi
    obtain ⟨v, q1, q2⟩ := h3 i hi'
    rw [hl (key i)] at q2
    refine ⟨v, q1, ?_⟩
    have e : d.settle.dur[i] = d.last i := by simp [Dk.settle]
    rw [e]
    exact (by simpa using q2 : SecV wr B v (d.last i)).keep hk (fun y hy => by simp at hy; rw [hy]; exact x.sep.2.2) (fun _ h => h)
set_option maxHeartbeats 2000000 in
set_option maxRecDepth 100000 in
theorem settle_any (w : World) (h : DH) (B : Nat → Prop) (d : Dk) (x : DskAt w h B d) : Calls Tryd.prog 43 #[.pointer (some ⟨h.p, 0, none⟩)] w (SettleP w h B d) := by
  obtain ⟨cap, _, c1, c2, _⟩ := x.cells
  have hn := x.ok.secs.2
  obtain ⟨k, D, ho, hk1, hk2⟩ := id x.fresh
  have HX := Lib.hid x
  have HO := Lib.hid ho
  have HK1 := Lib.hid hk1
  have HK2 := Lib.hid hk2
  have hne := x.ne
  have hlt := x.lt
  have HS0 := Lib.hid (show ∀ w0, Keeps [] w w0 → SetAt w w0 h B d (Maps.has D) from fun w0 hk => by
    obtain ⟨vs, hr, hv⟩ := x.rows
    refine ⟨hk.mono (by simp), vs, block_keep hr hk (by simp), fun i hi => ?_⟩
    obtain ⟨v, q1, q2⟩ := hv i hi
    refine ⟨v, q1, ?_⟩
    have e : (if Maps.has D (key i) then d.dur[i] else d.last i) = d.dur[i] := by
      by_cases hh : Maps.has D (key i) = true
      · rw [if_pos hh]
      · rw [if_neg hh]
        unfold Dk.last
        cases hf : d.fr i with
        | some b => exact absurd (hk2 i b hf).1 hh
        | none => show d.dur.getD i [] = _; rw [List.getD_eq_getElem?_getD, List.getElem?_eq_getElem hi, Option.getD_some]
    rw [e]
    exact q2.keep hk (by simp) (fun _ h => h))
  clear x ho hk1 hk2
  have HNE := Lib.hid hne
  clear hne
  go_enter Tryd.func43, Tryd.ntmps43
  go_wp2_with (at_range; refine wpList_range_own _ rfl _ 43 rfl 3 34 keyLaw Tryd.underlying43 Raw h.gm k D rfl HO.out ?_; intro w0 hrg0 hg0 hs0)
  have HRG0 := Lib.hid hrg0
  have HG0 := Lib.hid (show Keeps [] w w0 from (Keeps.of_grown hg0).mono (by simp))
  clear hrg0 hg0 hs0
  go_frame
  go_loopw [] (fun wr => ∃ (left : Lit → Bool) (cnt : Nat), wr.ranges Tryd.prog 3 Raw h.gm w.heap.size k D left cnt ∧ SetAt w wr h B d left) (fun wr => wr.rangeLeft h.gm w.heap.size)
  case atStart => exact ⟨_, _, HRG0.out, HS0.out _ HG0.out⟩
  case round =>
    obtain ⟨left, cnt, hrg, hst⟩ := hrel
    have HRG := Lib.hid hrg
    have HST := Lib.hid hst
    have hkw := hst.1
    have m1 : wr.cell? ⟨h.p, 1, none⟩ = some (.slice (some ⟨h.gd, 0, none⟩) d.dur.length cap) := hkw.cell_some c1 (by simpa using HNE.out.1)
    have m2 : wr.cell? ⟨h.p, 2, none⟩ = some (.map (some h.gm)) := hkw.cell_some c2 (by simpa using HNE.out.1)
    obtain ⟨w2, hcl, hf, ht⟩ := FrAt.clear (w := wr) (gm := h.gm) (n := d.dur.length) (B := B) (fr := d.fr) ⟨k, D, hrg.owns, HK1.out, fun i b hi => by
      obtain ⟨q1, v, q2, q3⟩ := HK2.out i b hi
      exact ⟨q1, v, q2, q3.keep hkw (fun y hy => by simp at hy; rw [hy]; exact HX.out.sep.2.1) (fun _ h => h)⟩⟩
    have HF := Lib.hid hf
    have HT := Lib.hid ht
    clear hst hkw hf ht
    go_wp2_with (at_next; refine wpList_next_ranges _ rfl _ rfl 3 keyLaw Raw (Value.int .i64) (fun v : Value => v) (fun key kl hkey => by obtain ⟨x, rfl, _⟩ := Maps.keyOf_int_inv Tryd.underlying3 hkey; exact ⟨x, rfl⟩) (fun v y _ => ⟨v, rfl⟩) h.gm w.heap.size k D left cnt rfl hrg ?_ ?_)
    · intro _ hl0
      have HL0 := Lib.hid hl0
      clear hl0 hrg
      go_wp2_with fail
      go_end0
      exact SetAt.done HX.out HST.out HL0.out HF.out (turned_keeps HT.out)
    · intro x c kl y ps w1 cnt1 hkey hlk hy hat hrg1 hlt1 hg1 hs1 hen
      obtain ⟨x', ex, rfl, hwx⟩ := Maps.keyOf_int_inv Tryd.underlying3 hkey
      cases ex
      obtain ⟨i, hi, e, hsome⟩ := HK1.out _ (Maps.has_true_of_atKey hat)
      have ex : x = (i : Int) := by unfold key at e; injection e
      subst ex
      obtain ⟨b, hb⟩ := Option.isSome_iff_exists.1 hsome
      obtain ⟨_, v, hat', hsec⟩ := HK2.out i b hb
      have hy2 : y = .held c := by simp only [Raw, Option.some.injEq, Prod.mk.injEq] at hy; exact hy.1.symm
      have hvc : v = c := by
        have h1 := hat (.held c)
        have h2 := hat' (.held c)
        unfold key at h2
        rw [h1, hy2] at h2
        simp only [DataW.held.injEq] at h2
        exact h2.symm
      subst hvc
      have hB0 : ¬ B w.heap.size := fun hh => Nat.lt_irrefl _ (HX.out.low _ hh)
      have hk1 : Keeps [w.heap.size] wr w1 := (Keeps.of_grown hg1).mono (by simp)
      have hst1 := HST.out.step hk1 hlt.2.1 hB0
      have hsec1 : SecV w1 B v (d.last i) := by
        have e2 : d.last i = b := by unfold Dk.last; rw [hb]
        rw [e2]
        exact hsec.keep hst1.1 (fun y hy => by simp at hy; rw [hy]; exact HX.out.sep.2.1) (fun _ h => h)
      obtain ⟨g0, o0, cp0, rfl, _⟩ := id hsec1
      have n1 : w1.cell? ⟨h.p, 1, none⟩ = some (.slice (some ⟨h.gd, 0, none⟩) d.dur.length cap) := hk1.cell_some m1 (by simp; omega)
      obtain ⟨_, vs, hvr, hvs⟩ := id hst1
      obtain ⟨u, hu, g2, o2, cp2, rfl, _⟩ := hvs i hi
      have n2 : w1.cell? ⟨h.gd, i, none⟩ = some (.slice (some ⟨g2, o2, none⟩) (if left (key i) then d.dur[i] else d.last i).length cp2) := by rw [row_cell hvr]; exact hu
      have n3 := row_free hvr i
      have HST1 := Lib.hid (hst1.store hi hsec1 HX.out.sep.2.1)
      have HRG1 := Lib.hid (ranges_keep hrg1 (((Keeps.refl [h.gd] w1).setCell (p := ⟨h.gd, i, none⟩) (by simp) (.slice (some ⟨g0, o0, none⟩) (d.last i).length cp0))) (by simpa using Ne.symm HNE.out.2.2) (by simp; omega))
      clear hkey hlk hy hat hg1 hs1 hat' hsec hy2 hk1 hst1 hsec1 hvr hvs hu e hb hsome hcl m1 m2 hrg hrg1 hB0
      have HLT := Lib.hid hlt1
      clear hlt1
      go_wp2_with fail
      go_roundw
      case rel => exact ⟨_, cnt1, HRG1.out, HST1.out⟩
      case measure => rw [HRG1.out.left_eq, HRG.out.left_eq]; exact HLT.out
def FlushP (w : World) (h : DH) (B : Nat → Prop) (d : Dk) (e : Ending) (w' : World) : Prop := e = .returned (.int .i64 (d.flushErr : Int)) ∧ DskAt w' h B d.flush ∧ Keeps h.l w w'
set_option maxHeartbeats 800000 in
theorem flush_any (w : World) (h : DH) (B : Nat → Prop) (d : Dk) (x : DskAt w h B d) : Calls Tryd.prog 27 #[.pointer (some ⟨h.p, 0, none⟩)] w (FlushP w h B d) := by
  cases hp : d.power with
  | false =>
    have HR := Lib.hid (show ∀ w', DskAt w' h B d.drawn → Keeps [h.p] w w' → FlushP w h B d (.returned (.int .i64 32)) w' from fun w' q1 q2 => ⟨by unfold Dk.flushErr; rw [if_neg (by rw [hp]; simp)]; rfl, by unfold Dk.flush; rw [if_neg (by rw [hp]; simp)]; exact q1, q2.mono (by simp [DH.l])⟩)
    have HX := Lib.hid x
    have HP := Lib.hid hp
    clear x hp
    go_enter Tryd.func27, Tryd.ntmps27
    go_wp2_with fail
    refine (draw_no w h B d HX.out HP.out).mono ?_
    rintro e w1 ⟨rfl, q1, q2⟩
    have HW := Lib.hid (HR.out w1 q1 q2)
    clear q1 q2
    go_wp2_with fail
    go_ret
    exact HW.out
  | true =>
    have HR := Lib.hid (show ∀ w1 w', Keeps [h.p] w w1 → SettleP w1 h B d.drawn (.returned (.tuple #[])) w' → FlushP w h B d (.returned (.int .i64 0)) w' from fun w1 w' q1 q2 => ⟨by unfold Dk.flushErr; rw [if_pos hp]; rfl, by unfold Dk.flush; rw [if_pos hp]; exact q2.2.1, (q1.mono (T := h.l) (by simp [DH.l])).trans q2.2.2 (fun _ h _ => h)⟩)
    have HX := Lib.hid x
    have HP := Lib.hid hp
    clear x hp
    go_enter Tryd.func27, Tryd.ntmps27
    go_wp2_with fail
    refine (draw_yes w h B d HX.out HP.out).mono ?_
    rintro e w1 ⟨rfl, q1, q2⟩
    have HQ1 := Lib.hid q1
    have HQ2 := Lib.hid q2
    clear q1 q2
    go_wp2_with fail
    refine (settle_any w1 h B d.drawn HQ1.out).mono ?_
    rintro e w2 ⟨rfl, q1, q2⟩
    have HW := Lib.hid (HR.out w1 w2 HQ2.out ⟨rfl, q1, q2⟩)
    clear q1 q2
    go_wp2_with fail
    go_ret
    exact HW.out
end Go.Proofs.YtgjgnieobbhepaaDoor
