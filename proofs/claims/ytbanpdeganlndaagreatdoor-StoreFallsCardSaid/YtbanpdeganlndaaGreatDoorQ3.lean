/- Merged: DSettle DShelf DKeys DLose DCrash -/
import Derived.Test.YtbanpdeganlndaaGreatDoorQ1
import Derived.Shelf.SlIterI.Nil
import Derived.Shelf.SortM.Plain
import Derived.Shelf.SortM.SortNone
import Derived.Shelf.SlMaps.Clone
import Derived.Ground.GgzProg
import Derived.Ground.SlgmProg
import Derived.Ground.SlmcProg
import Derived.Test.YtbanpdeganlndaaGreatDoorProg
namespace Go.Proofs.YtbanpdeganlndaaGreatDoor
open Go.RowKit

theorem ranges_keep {S : List Nat} {w w' : World} {gm r n : Nat} {D : DataW Value} {left : Lit → Bool} {cnt : Nat} (h : w.ranges Tryz.prog 3 Raw gm r n D left cnt) (hk : Keeps S w w') (h1 : gm ∉ S) (h2 : r ∉ S) : w'.ranges Tryz.prog 3 Raw gm r n D left cnt := by
  obtain ⟨es, c, since, seen, c0, hb, F, hs, hD, hr, hrest⟩ := h
  exact ⟨es, c, since, seen, c0, block_keep hb hk h1, F, hs, hD, block_keep hr hk h2, hrest⟩
/-- What the loop of settle has done: the sectors that are still to come hold their durable bytes. -/
def SetAt (w wr : World) (h : DH) (B : Nat → Prop) (d : Dk) (left : Lit → Bool) : Prop :=
  Keeps [h.gd] w wr ∧ ∃ vs : Array Value, wr.heap[h.gd]? = some (.cells vs 62 (0, 0)) ∧ ∀ i (hi : i < d.dur.length), ∃ v, vs[i]? = some v ∧ SecV wr B v (if left (key i) then d.dur[i] else d.last i)
theorem SetAt.step {w wr w2 : World} {h : DH} {B : Nat → Prop} {d : Dk} {left : Lit → Bool} (x : SetAt w wr h B d left) (hk : Keeps [w.heap.size] wr w2) (hgd : h.gd < w.heap.size) (hB : ¬ B w.heap.size) : SetAt w w2 h B d left := by
  obtain ⟨h1, vs, h2, h3⟩ := x
  refine ⟨h1.trans hk (fun x hx hl => by simp at hx; omega), vs, block_keep h2 hk (by simp; omega), fun i hi => ?_⟩
  obtain ⟨v, q1, q2⟩ := h3 i hi
  exact ⟨v, q1, q2.keep hk (fun y hy => by simp at hy; rw [hy]; exact hB) (fun _ h => h)⟩
theorem SetAt.store {w wr : World} {h : DH} {B : Nat → Prop} {d : Dk} {left : Lit → Bool} {i : Nat} {v : Value} (x : SetAt w wr h B d left) (hi : i < d.dur.length) (hv : SecV wr B v (d.last i)) (hgd : ¬ B h.gd) :
    SetAt w (wr.setCell ⟨h.gd, i, none⟩ v) h B d (fun z => left z && !z.sameKey (key i)) := by
  obtain ⟨h1, vs, h2, h3⟩ := x
  have hk : Keeps [h.gd] wr (wr.setCell ⟨h.gd, i, none⟩ v) := (Keeps.refl _ _).setCell (by simp) _
  refine ⟨h1.trans hk (by simp), vs.setIfInBounds i v, row_set h2 i v, fun j hj => ?_⟩
  by_cases hji : j = i
  · subst hji
    obtain ⟨u, q1, _⟩ := h3 j hj
    have hlt := (Array.getElem?_eq_some_iff.1 q1).1
    refine ⟨v, by simp [hlt], ?_⟩
    have hs : (key j).sameKey (key j) = true := same_int _
    simp only [hs, Bool.not_true, Bool.and_false, Bool.false_eq_true, if_false]
    exact hv.keep hk (fun y hy => by simp at hy; rw [hy]; exact hgd) (fun _ h => h)
  · obtain ⟨u, q1, q2⟩ := h3 j hj
    refine ⟨u, by rw [Array.getElem?_setIfInBounds_ne (Ne.symm hji)]; exact q1, ?_⟩
    have hne : key j ≠ key i := fun e => hji (key_inj e)
    have hs : (key j).sameKey (key i) = false := Maps.sameKey_ne hne
    simp only [hs, Bool.not_false, Bool.and_true]
    exact q2.keep hk (fun y hy => by simp at hy; rw [hy]; exact hgd) (fun _ h => h)
def SettleP (w : World) (h : DH) (B : Nat → Prop) (d : Dk) (e : Ending) (w' : World) : Prop := e = .returned (.tuple #[]) ∧ DskAt w' h B d.settle ∧ Keeps h.l w w'
/-- What clear leaves behind the loop. -/
theorem SetAt.done {w wr w2 : World} {h : DH} {B : Nat → Prop} {d : Dk} {left : Lit → Bool} (x : DskAt w h B d) (y : SetAt w wr h B d left) (hl : ∀ kl, left kl = false) (hf : FrAt w2 h.gm B d.dur.length (fun _ => none)) (hk : Keeps [h.gm] wr w2) : SettleP w h B d (.returned (.tuple #[])) w2 := by
  obtain ⟨h1, vs, h2, h3⟩ := y
  have hne := x.ne
  have hk2 : Keeps h.l w w2 := (h1.mono (T := h.l) (by simp [DH.l])).trans hk (by simp [DH.l])
  refine ⟨rfl, ⟨Dk.ok_settle x.ok, ?_, ⟨vs, block_keep h2 hk (by simpa using hne.2.2), fun i hi => ?_⟩, by simpa [Dk.settle] using hf, x.sep, fun y hy => Nat.lt_of_lt_of_le (x.low y hy) hk2.size⟩, hk2⟩
  · obtain ⟨cap, hb⟩ := x.box
    refine ⟨cap, ?_⟩
    rw [block_keep (block_keep hb h1 (by simpa using hne.1)) hk (by simpa using hne.2.1)]
    simp [Dk.settle]
  · have hi' : i < d.dur.length := by simpa [Dk.settle] using hi
    obtain ⟨v, q1, q2⟩ := h3 i hi'
    rw [hl (key i)] at q2
    refine ⟨v, q1, ?_⟩
    have e : d.settle.dur[i] = d.last i := by simp [Dk.settle]
    rw [e]
    exact (by simpa using q2 : SecV wr B v (d.last i)).keep hk (fun y hy => by simp at hy; rw [hy]; exact x.sep.2.2) (fun _ h => h)
set_option maxHeartbeats 2000000 in
set_option maxRecDepth 100000 in
theorem settle_any (w : World) (h : DH) (B : Nat → Prop) (d : Dk) (x : DskAt w h B d) : Calls Tryz.prog 38 #[.pointer (some ⟨h.p, 0, none⟩)] w (SettleP w h B d) := by
  obtain ⟨cap, _, c1, c2, _⟩ := x.cells
  have hn := x.ok.secs.2
  obtain ⟨k, D, ho, hk1, hk2⟩ := id x.fresh
  have HX := Lib.hid x
  have HO := Lib.hid ho
  have HK1 := Lib.hid hk1
  have HK2 := Lib.hid hk2
  have hne := x.ne
  have hlt := x.lt
  have HS0 := Lib.hid (show ∀ w0, Keeps [] w w0 → SetAt w w0 h B d (Maps.has D) from fun w0 hk => by
    obtain ⟨vs, hr, hv⟩ := x.rows
    refine ⟨hk.mono (by simp), vs, block_keep hr hk (by simp), fun i hi => ?_⟩
    obtain ⟨v, q1, q2⟩ := hv i hi
    refine ⟨v, q1, ?_⟩
    have e : (if Maps.has D (key i) then d.dur[i] else d.last i) = d.dur[i] := by
      by_cases hh : Maps.has D (key i) = true
      · rw [if_pos hh]
      · rw [if_neg hh]
        unfold Dk.last
        cases hf : d.fr i with
        | some b => exact absurd (hk2 i b hf).1 hh
        | none => show d.dur.getD i [] = _; rw [List.getD_eq_getElem?_getD, List.getElem?_eq_getElem hi, Option.getD_some]
    rw [e]
    exact q2.keep hk (by simp) (fun _ h => h))
  clear x ho hk1 hk2
  have HNE := Lib.hid hne
  clear hne
  go_enter Tryz.func38, Tryz.ntmps38
  go_wp2_with (at_range; refine wpList_range_own _ rfl _ 50 rfl 3 62 keyLaw Tryz.underlying50 Raw h.gm k D rfl HO.out ?_; intro w0 hrg0 hg0 hs0)
  have HRG0 := Lib.hid hrg0
  have HG0 := Lib.hid (show Keeps [] w w0 from (Keeps.of_grown hg0).mono (by simp))
  clear hrg0 hg0 hs0
  go_frame
  go_loopw [] (fun wr => ∃ (left : Lit → Bool) (cnt : Nat), wr.ranges Tryz.prog 3 Raw h.gm w.heap.size k D left cnt ∧ SetAt w wr h B d left) (fun wr => wr.rangeLeft h.gm w.heap.size)
  case atStart => exact ⟨_, _, HRG0.out, HS0.out _ HG0.out⟩
  case round =>
    obtain ⟨left, cnt, hrg, hst⟩ := hrel
    have HRG := Lib.hid hrg
    have HST := Lib.hid hst
    have hkw := hst.1
    have m1 : wr.cell? ⟨h.p, 1, none⟩ = some (.slice (some ⟨h.gd, 0, none⟩) d.dur.length cap) := hkw.cell_some c1 (by simpa using HNE.out.1)
    have m2 : wr.cell? ⟨h.p, 2, none⟩ = some (.map (some h.gm)) := hkw.cell_some c2 (by simpa using HNE.out.1)
    obtain ⟨w2, hcl, hf, ht⟩ := FrAt.clear (w := wr) (gm := h.gm) (n := d.dur.length) (B := B) (fr := d.fr) ⟨k, D, hrg.owns, HK1.out, fun i b hi => by
      obtain ⟨q1, v, q2, q3⟩ := HK2.out i b hi
      exact ⟨q1, v, q2, q3.keep hkw (fun y hy => by simp at hy; rw [hy]; exact HX.out.sep.2.1) (fun _ h => h)⟩⟩
    have HF := Lib.hid hf
    have HT := Lib.hid ht
    clear hst hkw hf ht
    go_wp2_with (at_next; refine wpList_next_ranges _ rfl _ rfl 3 keyLaw Raw (Value.int .i64) (fun v : Value => v) (fun key kl hkey => by obtain ⟨x, rfl, _⟩ := Maps.keyOf_int_inv Tryz.underlying3 hkey; exact ⟨x, rfl⟩) (fun v y _ => ⟨v, rfl⟩) h.gm w.heap.size k D left cnt rfl hrg ?_ ?_)
    · intro _ hl0
      have HL0 := Lib.hid hl0
      clear hl0 hrg
      go_wp2_with fail
      go_end0
      exact SetAt.done HX.out HST.out HL0.out HF.out (turned_keeps HT.out)
    · intro x c kl y ps w1 cnt1 hkey hlk hy hat hrg1 hlt1 hg1 hs1 hen
      obtain ⟨x', ex, rfl, hwx⟩ := Maps.keyOf_int_inv Tryz.underlying3 hkey
      cases ex
      obtain ⟨i, hi, e, hsome⟩ := HK1.out _ (Maps.has_true_of_atKey hat)
      have ex : x = (i : Int) := by unfold key at e; injection e
      subst ex
      obtain ⟨b, hb⟩ := Option.isSome_iff_exists.1 hsome
      obtain ⟨_, v, hat', hsec⟩ := HK2.out i b hb
      have hy2 : y = .held c := by simp only [Raw, Option.some.injEq, Prod.mk.injEq] at hy; exact hy.1.symm
      have hvc : v = c := by
        have h1 := hat (.held c)
        have h2 := hat' (.held c)
        unfold key at h2
        rw [h1, hy2] at h2
        simp only [DataW.held.injEq] at h2
        exact h2.symm
      subst hvc
      have hB0 : ¬ B w.heap.size := fun hh => Nat.lt_irrefl _ (HX.out.low _ hh)
      have hk1 : Keeps [w.heap.size] wr w1 := (Keeps.of_grown hg1).mono (by simp)
      have hst1 := HST.out.step hk1 hlt.2.1 hB0
      have hsec1 : SecV w1 B v (d.last i) := by
        have e2 : d.last i = b := by unfold Dk.last; rw [hb]
        rw [e2]
        exact hsec.keep hst1.1 (fun y hy => by simp at hy; rw [hy]; exact HX.out.sep.2.1) (fun _ h => h)
      obtain ⟨g0, o0, cp0, rfl, _⟩ := id hsec1
      have n1 : w1.cell? ⟨h.p, 1, none⟩ = some (.slice (some ⟨h.gd, 0, none⟩) d.dur.length cap) := hk1.cell_some m1 (by simp; omega)
      obtain ⟨_, vs, hvr, hvs⟩ := id hst1
      obtain ⟨u, hu, g2, o2, cp2, rfl, _⟩ := hvs i hi
      have n2 : w1.cell? ⟨h.gd, i, none⟩ = some (.slice (some ⟨g2, o2, none⟩) (if left (key i) then d.dur[i] else d.last i).length cp2) := by rw [row_cell hvr]; exact hu
      have n3 := row_free hvr i
      have HST1 := Lib.hid (hst1.store hi hsec1 HX.out.sep.2.1)
      have HRG1 := Lib.hid (ranges_keep hrg1 (((Keeps.refl [h.gd] w1).setCell (p := ⟨h.gd, i, none⟩) (by simp) (.slice (some ⟨g0, o0, none⟩) (d.last i).length cp0))) (by simpa using Ne.symm HNE.out.2.2) (by simp; omega))
      clear hkey hlk hy hat hg1 hs1 hat' hsec hy2 hk1 hst1 hsec1 hvr hvs hu e hb hsome hcl m1 m2 hrg hrg1 hB0
      have HLT := Lib.hid hlt1
      clear hlt1
      go_wp2_with fail
      go_roundw
      case rel => exact ⟨_, cnt1, HRG1.out, HST1.out⟩
      case measure => rw [HRG1.out.left_eq, HRG.out.left_eq]; exact HLT.out
def FlushP (w : World) (h : DH) (B : Nat → Prop) (d : Dk) (e : Ending) (w' : World) : Prop := e = .returned (.int .i64 (d.flushErr : Int)) ∧ DskAt w' h B d.flush ∧ Keeps h.l w w'
set_option maxHeartbeats 800000 in
theorem flush_any (w : World) (h : DH) (B : Nat → Prop) (d : Dk) (x : DskAt w h B d) : Calls Tryz.prog 45 #[.pointer (some ⟨h.p, 0, none⟩)] w (FlushP w h B d) := by
  cases hp : d.power with
  | false =>
    have HR := Lib.hid (show ∀ w', DskAt w' h B d.drawn → Keeps [h.p] w w' → FlushP w h B d (.returned (.int .i64 32)) w' from fun w' q1 q2 => ⟨by unfold Dk.flushErr; rw [if_neg (by rw [hp]; simp)]; rfl, by unfold Dk.flush; rw [if_neg (by rw [hp]; simp)]; exact q1, q2.mono (by simp [DH.l])⟩)
    have HX := Lib.hid x
    have HP := Lib.hid hp
    clear x hp
    go_enter Tryz.func45, Tryz.ntmps45
    go_wp2_with fail
    refine (draw_no w h B d HX.out HP.out).mono ?_
    rintro e w1 ⟨rfl, q1, q2⟩
    have HW := Lib.hid (HR.out w1 q1 q2)
    clear q1 q2
    go_wp2_with fail
    go_ret
    exact HW.out
  | true =>
    have HR := Lib.hid (show ∀ w1 w', Keeps [h.p] w w1 → SettleP w1 h B d.drawn (.returned (.tuple #[])) w' → FlushP w h B d (.returned (.int .i64 0)) w' from fun w1 w' q1 q2 => ⟨by unfold Dk.flushErr; rw [if_pos hp]; rfl, by unfold Dk.flush; rw [if_pos hp]; exact q2.2.1, (q1.mono (T := h.l) (by simp [DH.l])).trans q2.2.2 (fun _ h _ => h)⟩)
    have HX := Lib.hid x
    have HP := Lib.hid hp
    clear x hp
    go_enter Tryz.func45, Tryz.ntmps45
    go_wp2_with fail
    refine (draw_yes w h B d HX.out HP.out).mono ?_
    rintro e w1 ⟨rfl, q1, q2⟩
    have HQ1 := Lib.hid q1
    have HQ2 := Lib.hid q2
    clear q1 q2
    go_wp2_with fail
    refine (settle_any w1 h B d.drawn HQ1.out).mono ?_
    rintro e w2 ⟨rfl, q1, q2⟩
    have HW := Lib.hid (HR.out w1 w2 HQ2.out ⟨rfl, q1, q2⟩)
    clear q1 q2
    go_wp2_with fail
    go_ret
    exact HW.out
end Go.Proofs.YtbanpdeganlndaaGreatDoor
namespace Go.Proofs
open Go.Shelf
def Tryz.keysA_ren : Go.Shelf.Ren := ⟨fun | 7 => 63 | 10 => 96 | n => n, fun | 23 => 50 | 26 => 3 | 3 => 62 | 28 => 122 | 0 => 0 | 27 => 121 | 33 => 152 | 4 => 4 | n => n, fun | n => n⟩
theorem Tryz.keysA : Go.Proofs.SlLaysZI.n7 Tryz.prog Tryz.keysA_ren := {
  mixed := by kernel_rfl
  f7 := ⟨Tryz.f63.name, by decide, Tryz.func63.trans (congrArg some (by kernel_rfl))⟩
  f10 := ⟨Tryz.f96.name, by decide, Tryz.func96.trans (congrArg some (by kernel_rfl))⟩
  t0 := Tryz.underlying0
  a0 := Tryz.isAgg0
  z0 := Tryz.sizeOf0
  v0 := Tryz.zeroValue0
  t4 := Tryz.underlying4
  a4 := Tryz.isAgg4
  z4 := Tryz.sizeOf4
  v4 := Tryz.zeroValue4
  t23 := Tryz.underlying50
  a23 := Tryz.isAgg50
  z23 := Tryz.sizeOf50
  v23 := Tryz.zeroValue50
  t26 := Tryz.underlying3
  a26 := Tryz.isAgg3
  z26 := Tryz.sizeOf3
  v26 := Tryz.zeroValue3
  t27 := Tryz.underlying121
  a27 := Tryz.isAgg121
  z27 := Tryz.sizeOf121
  v27 := Tryz.zeroValue121
  t28 := Tryz.underlying122
  a28 := Tryz.isAgg122
  z28 := Tryz.sizeOf122
  v28 := Tryz.zeroValue122
  t33 := Tryz.underlying152
  a33 := Tryz.isAgg152
  z33 := Tryz.sizeOf152
  v33 := Tryz.zeroValue152 }
def Tryz.sortedA_ren : Go.Shelf.Ren := ⟨fun | 6 => 62 | 8 => 94 | 9 => 95 | 11 => 130 | 13 => 67 | 12 => 131 | 23 => 107 | 24 => 108 | 14 => 154 | 15 => 155 | 16 => 156 | 17 => 157 | 18 => 158 | 19 => 159 | 20 => 160 | 21 => 161 | 22 => 162 | 25 => 167 | 26 => 133 | 27 => 134 | 28 => 168 | 29 => 169 | 30 => 170 | 31 => 172 | n => n, fun | 26 => 3 | 28 => 122 | 24 => 119 | 0 => 0 | 3 => 3 | 37 => 94 | 48 => 127 | 50 => 47 | 4 => 4 | 40 => 156 | 39 => 155 | 45 => 160 | 5 => 5 | 9 => 9 | 51 => 193 | 55 => 197 | 57 => 219 | 58 => 220 | 33 => 152 | n => n, fun | n => n⟩
theorem Tryz.sortedA : Go.Proofs.SlLaysZI.n6 Tryz.prog Tryz.sortedA_ren := {
  mixed := by kernel_rfl
  f6 := ⟨Tryz.f62.name, by decide, Tryz.func62.trans (congrArg some (by kernel_rfl))⟩
  f8 := ⟨Tryz.f94.name, by decide, Tryz.func94.trans (congrArg some (by kernel_rfl))⟩
  f11 := ⟨Tryz.f130.name, by decide, Tryz.func130.trans (congrArg some (by kernel_rfl))⟩
  t0 := Tryz.underlying0
  a0 := Tryz.isAgg0
  z0 := Tryz.sizeOf0
  v0 := Tryz.zeroValue0
  t24 := Tryz.underlying119
  a24 := Tryz.isAgg119
  z24 := Tryz.sizeOf119
  v24 := Tryz.zeroValue119
  t26 := Tryz.underlying3
  a26 := Tryz.isAgg3
  z26 := Tryz.sizeOf3
  v26 := Tryz.zeroValue3
  t28 := Tryz.underlying122
  a28 := Tryz.isAgg122
  z28 := Tryz.sizeOf122
  v28 := Tryz.zeroValue122
  i26 := by kernel_rfl }
def Tryz.sortA_ren : Go.Shelf.Ren := ⟨fun | 5 => 95 | 8 => 67 | 7 => 131 | 19 => 107 | 20 => 108 | 10 => 154 | 11 => 155 | 12 => 156 | 13 => 157 | 14 => 158 | 15 => 159 | 16 => 160 | 17 => 161 | 18 => 162 | 30 => 167 | 31 => 133 | 32 => 134 | 33 => 168 | 34 => 169 | 35 => 170 | 40 => 172 | n => n, fun | 23 => 119 | 25 => 3 | 3 => 3 | 32 => 94 | 22 => 119 | 0 => 0 | 44 => 127 | 46 => 47 | 4 => 4 | 36 => 156 | 35 => 155 | 41 => 160 | 5 => 5 | 9 => 9 | 53 => 193 | 57 => 197 | 63 => 219 | 64 => 220 | n => n, fun | n => n⟩
theorem Tryz.sortA : Go.Proofs.SlLaysM.n5 Tryz.prog Tryz.sortA_ren := {
  mixed := by kernel_rfl
  f5 := ⟨Tryz.f95.name, by decide, Tryz.func95.trans (congrArg some (by kernel_rfl))⟩
  f7 := ⟨Tryz.f131.name, by decide, Tryz.func131.trans (congrArg some (by kernel_rfl))⟩
  f8 := Tryz.func67.trans (congrArg some (by kernel_rfl))
  f10 := ⟨Tryz.f154.name, by decide, Tryz.func154.trans (congrArg some (by kernel_rfl))⟩
  f11 := ⟨Tryz.f155.name, by decide, Tryz.func155.trans (congrArg some (by kernel_rfl))⟩
  f12 := ⟨Tryz.f156.name, by decide, Tryz.func156.trans (congrArg some (by kernel_rfl))⟩
  f13 := ⟨Tryz.f157.name, by decide, Tryz.func157.trans (congrArg some (by kernel_rfl))⟩
  f14 := ⟨Tryz.f158.name, by decide, Tryz.func158.trans (congrArg some (by kernel_rfl))⟩
  f15 := ⟨Tryz.f159.name, by decide, Tryz.func159.trans (congrArg some (by kernel_rfl))⟩
  f16 := ⟨Tryz.f160.name, by decide, Tryz.func160.trans (congrArg some (by kernel_rfl))⟩
  f17 := ⟨Tryz.f161.name, by decide, Tryz.func161.trans (congrArg some (by kernel_rfl))⟩
  f18 := ⟨Tryz.f162.name, by decide, Tryz.func162.trans (congrArg some (by kernel_rfl))⟩
  f19 := Tryz.func107.trans (congrArg some (by kernel_rfl))
  f20 := Tryz.func108.trans (congrArg some (by kernel_rfl))
  f30 := ⟨Tryz.f167.name, by decide, Tryz.func167.trans (congrArg some (by kernel_rfl))⟩
  f31 := Tryz.func133.trans (congrArg some (by kernel_rfl))
  f32 := Tryz.func134.trans (congrArg some (by kernel_rfl))
  f33 := ⟨Tryz.f168.name, by decide, Tryz.func168.trans (congrArg some (by kernel_rfl))⟩
  f34 := ⟨Tryz.f169.name, by decide, Tryz.func169.trans (congrArg some (by kernel_rfl))⟩
  f35 := ⟨Tryz.f170.name, by decide, Tryz.func170.trans (congrArg some (by kernel_rfl))⟩
  f40 := ⟨Tryz.f172.name, by decide, Tryz.func172.trans (congrArg some (by kernel_rfl))⟩
  t0 := Tryz.underlying0
  a0 := Tryz.isAgg0
  z0 := Tryz.sizeOf0
  v0 := Tryz.zeroValue0
  t3 := Tryz.underlying3
  a3 := Tryz.isAgg3
  z3 := Tryz.sizeOf3
  v3 := Tryz.zeroValue3
  t4 := Tryz.underlying4
  a4 := Tryz.isAgg4
  z4 := Tryz.sizeOf4
  v4 := Tryz.zeroValue4
  t5 := Tryz.underlying5
  a5 := Tryz.isAgg5
  z5 := Tryz.sizeOf5
  v5 := Tryz.zeroValue5
  t9 := Tryz.underlying9
  a9 := Tryz.isAgg9
  z9 := Tryz.sizeOf9
  v9 := Tryz.zeroValue9
  t22 := Tryz.underlying119
  a22 := Tryz.isAgg119
  z22 := Tryz.sizeOf119
  v22 := Tryz.zeroValue119
  t23 := Tryz.underlying119
  a23 := Tryz.isAgg119
  z23 := Tryz.sizeOf119
  v23 := Tryz.zeroValue119
  t25 := Tryz.underlying3
  a25 := Tryz.isAgg3
  z25 := Tryz.sizeOf3
  v25 := Tryz.zeroValue3
  t32 := Tryz.underlying94
  a32 := Tryz.isAgg94
  z32 := Tryz.sizeOf94
  v32 := Tryz.zeroValue94
  t35 := Tryz.underlying155
  a35 := Tryz.isAgg155
  z35 := Tryz.sizeOf155
  v35 := Tryz.zeroValue155
  t36 := Tryz.underlying156
  a36 := Tryz.isAgg156
  z36 := Tryz.sizeOf156
  v36 := Tryz.zeroValue156
  t41 := Tryz.underlying160
  a41 := Tryz.isAgg160
  z41 := Tryz.sizeOf160
  v41 := Tryz.zeroValue160
  t44 := Tryz.underlying127
  a44 := Tryz.isAgg127
  z44 := Tryz.sizeOf127
  v44 := Tryz.zeroValue127
  t46 := Tryz.underlying47
  a46 := Tryz.isAgg47
  z46 := Tryz.sizeOf47
  v46 := Tryz.zeroValue47
  t53 := Tryz.underlying193
  a53 := Tryz.isAgg193
  z53 := Tryz.sizeOf193
  v53 := Tryz.zeroValue193
  t57 := Tryz.underlying197
  a57 := Tryz.isAgg197
  z57 := Tryz.sizeOf197
  v57 := Tryz.zeroValue197
  t63 := Tryz.underlying219
  a63 := Tryz.isAgg219
  z63 := Tryz.sizeOf219
  v63 := Tryz.zeroValue219
  t64 := Tryz.underlying220
  a64 := Tryz.isAgg220
  z64 := Tryz.sizeOf220
  v64 := Tryz.zeroValue220 }
end Go.Proofs
namespace Go.Proofs.YtbanpdeganlndaaGreatDoor
open Go.RowKit Go.Maps Go.Sort Go.Shelf

theorem sorts (m : Nat) : AnyZI.SortsIn Tryz.prog Tryz.sortedA_ren Fence.wide m :=
  ⟨fun blk off cap ss W hH hblk hsz => callsIn_wide.2 (AnyM.slices_Sort_int Tryz.sortA blk off cap ss W hH hblk hsz),
   fun p cap W => callsIn_wide.2 (AnyM.slices_Sort_int_none Tryz.sortA p cap W)⟩
theorem keys_any (mb : Option Nat) (W : World) : Calls Tryz.prog 63 #[.map mb] W fun e w' => e = .returned (.func (.func 96) #[] #[.pointer (some ⟨W.heap.size, 0, none⟩)]) ∧ w' = W.alloc (.cells #[.map mb] 50) :=
  (callsIn_wide (n := 5)).1 (AnyZI.keys_in Tryz.keysA Fence.wide 5 trivial rfl mb W)
/-- What slices.Sorted gives of a map's keys. -/
def SortedP (D0 : DataW Value) (w : World) (e : Ending) (w' : World) : Prop := ∃ (v : Value) (ss : List Int), e = .returned v ∧ ss.Perm (intKeys D0) ∧
      w'.ownsRow w.heap.size 3 1 v ss.length ((ss.mergeSort (fun x y => decide (x ≤ y))).map encZ) ∧ (v = .slice none 0 0 ↔ ss = []) ∧ Keeps [] w w'
theorem sorted_any (b nn : Nat) (D0 : DataW Value) (w : World) (hown : w.ownsMap Tryz.prog 3 Raw b nn D0) (hmax : Maps.size D0 ≤ maxLen) (hbytes : Maps.size D0 * 8 ≤ 140737488355328) :
    Calls Tryz.prog 62 #[.func (.func 96) #[] #[.pointer (some ⟨w.heap.size, 0, none⟩)]] (w.alloc (.cells #[.map (some b)] 50)) (SortedP D0 w) := by
  have hbl := hown.lt
  have hseq : SeqGives Fence.wide 2 Tryz.prog 96 #[.pointer (some ⟨w.heap.size, 0, none⟩)] encZ (fun ss => ss.Perm (intKeys D0)) (Maps.size D0) (w.alloc (.cells #[.map (some b)] 50)) :=
    AnyZI.keys_gives (ρ := Tryz.keysA_ren) { Tryz.keysA with } Fence.wide _ trivial rfl (by omega) w.heap.size b nn D0 _ (by simp) (by simp) (by
      obtain ⟨es, clock, hb, Ft, hs, hD⟩ := hown
      exact ⟨es, clock, (Below.heap_alloc _ _ b hbl).trans hb, Ft, hs, hD⟩)
  have cS := AnyZI.sorted_in Tryz.sortedA Fence.wide 5 trivial trivial trivial trivial rfl (by omega) (sorts _) (enters_of Tryz.func95 (by kernel_rfl) rfl) 96 #[.pointer (some ⟨w.heap.size, 0, none⟩)] trivial (enters_of Tryz.func96 (by kernel_rfl) rfl) _ _ hmax hbytes _ hseq
  change CallsIn _ _ Tryz.prog 62 _ _ _ at cS
  refine ((callsIn_wide (n := 5)).1 cS).mono ?_
  rintro e w' ⟨v, ss, rfl, hS, hrow, hnil, hb⟩
  refine ⟨v, ss, rfl, hS, ownsRow_base_a hrow (by simp), hnil, ?_⟩
  exact Keeps.of_below (((Below.refl _ w).alloc (Nat.le_refl _) _).trans (hb.mono (by simp))) []
end Go.Proofs.YtbanpdeganlndaaGreatDoor
namespace Go.Proofs.YtbanpdeganlndaaGreatDoor
open Go.RowKit Go.Maps

theorem leI_trans : ∀ a b c : Int, (fun x y : Int => decide (x ≤ y)) a b = true → (fun x y : Int => decide (x ≤ y)) b c = true → (fun x y : Int => decide (x ≤ y)) a c = true := fun a b c h1 h2 => by simp only [decide_eq_true_eq] at *; omega
theorem leI_total : ∀ a b : Int, ((fun x y : Int => decide (x ≤ y)) a b || (fun x y : Int => decide (x ≤ y)) b a) = true := fun a b => by simp only [Bool.or_eq_true, decide_eq_true_eq]; omega
/-- The sorted keys are the fresh sectors' numbers. -/
theorem sorted_keys {w : World} {gm k : Nat} {D : DataW Value} {d : Dk} {ss : List Int} (ho : w.ownsMap Tryz.prog 3 Raw gm k D) (h1 : ∀ kl, Maps.has D kl = true → ∃ i, i < d.dur.length ∧ kl = key i ∧ (d.fr i).isSome)
    (h2 : ∀ i b, d.fr i = some b → Maps.has D (key i) = true) (h3 : ∀ i, (d.fr i).isSome → i < d.dur.length) (hp : ss.Perm (intKeys D)) : ss.mergeSort (fun x y => decide (x ≤ y)) = d.keys.map fun i : Nat => (i : Int) := by
  obtain ⟨L, hD, hd, hL⟩ := own_entries ho
  subst hD
  have hk : ∀ kl, Maps.has (.map L) kl = true → ∃ i, i < d.dur.length ∧ kl = key i := fun kl h => by obtain ⟨i, q1, q2, _⟩ := h1 kl h; exact ⟨i, q1, q2⟩
  have hki : intKeys (.map L) = (L.map idx).map fun i : Nat => (i : Int) := by
    show L.map (fun p => Go.intOf p.1) = _
    rw [List.map_map]
    refine List.map_congr_left fun p hp => ?_
    obtain ⟨e, _⟩ := idx_key hk hL hp
    show Go.intOf p.1 = ((idx p : Nat) : Int)
    rw [e]; rfl
  have hperm : (ss.mergeSort (fun x y => decide (x ≤ y))).Perm ((L.map idx).map fun i : Nat => (i : Int)) := (List.mergeSort_perm ss _).trans (hki ▸ hp)
  obtain ⟨ks, hks⟩ : ∃ ks : List Nat, ss.mergeSort (fun x y => decide (x ≤ y)) = ks.map fun i : Nat => (i : Int) := by
    refine ⟨(ss.mergeSort (fun x y => decide (x ≤ y))).map Int.toNat, ?_⟩
    rw [List.map_map]
    conv => lhs; rw [← List.map_id (ss.mergeSort (fun x y => decide (x ≤ y)))]
    refine List.map_congr_left fun x hx => ?_
    obtain ⟨i, _, rfl⟩ := List.mem_map.1 (hperm.mem_iff.1 hx)
    simp
  rw [hks] at hperm ⊢
  have hinj : ∀ (l m : List Nat), (l.map fun i : Nat => (i : Int)).Perm (m.map fun i : Nat => (i : Int)) → l.Perm m := fun l m h => by
    have := h.map Int.toNat
    simpa [List.map_map, Function.comp_def] using this
  have hp2 := hinj _ _ hperm
  have hnd : ks.Nodup := hp2.nodup_iff.2 (idx_nodup hk hL hd)
  have hle : ks.Pairwise (· ≤ ·) := by
    have := List.pairwise_mergeSort leI_trans leI_total ss
    rw [hks, List.pairwise_map] at this
    exact this.imp fun {a b} h => by simp only [decide_eq_true_eq] at h; omega
  have hlt : ks.Pairwise (· < ·) := (hle.and hnd).imp fun {a b} h => by have := h.1; have := h.2; omega
  rw [rising_eq hlt (Dk.keys_sorted d) fun x => ?_]
  rw [hp2.mem_iff]
  simp only [Dk.keys, List.mem_filter, List.mem_range]
  constructor
  · intro hx
    obtain ⟨p, hp, rfl⟩ := List.mem_map.1 hx
    obtain ⟨e, hi⟩ := idx_key hk hL hp
    obtain ⟨i, q1, q2, q3⟩ := h1 p.1 (entries_has hL hp)
    have : i = idx p := key_inj (by rw [← q2, e])
    subst this
    exact ⟨hi, q3⟩
  · rintro ⟨hx, hs⟩
    obtain ⟨b, hb⟩ := Option.isSome_iff_exists.1 hs
    have h9 := h2 x b hb
    rw [Maps.has_eq, List.any_eq_true] at h9
    obtain ⟨p, hp, hsk⟩ := h9
    refine List.mem_map.2 ⟨p, hp, ?_⟩
    have e1 := WideAt.sameKey_eq hsk
    exact key_inj (by rw [← (idx_key hk hL hp).1, e1])
/-- The first k of the fresh sectors have been asked. -/
def Dk.loseTo (d : Dk) (keep k : Nat) : Dk := { d with fr := fun i => if Dk.rank d.fr i < k ∧ keep / 2 ^ (Dk.rank d.fr i % 64) % 2 = 0 then none else d.fr i }
theorem Dk.loseTo_zero (d : Dk) (keep : Nat) : d.loseTo keep 0 = d := by unfold loseTo; simp
theorem Dk.loseTo_all (d : Dk) (h : d.Ok) (keep k : Nat) (hk : d.keys.length ≤ k) : d.loseTo keep k = d.lose keep := by
  unfold loseTo lose
  congr 1
  funext i
  cases hf : d.fr i with
  | none => simp
  | some b =>
    have hi := (h.fr i b hf).1
    have hm : i ∈ d.keys := by simp [keys, hi, hf]
    obtain ⟨j, hj, e⟩ := List.getElem_of_mem hm
    have h9 : d.keys[j]? = some i := by rw [List.getElem?_eq_getElem hj, e]
    have := (rank_keys h9).1
    have hr : rank d.fr i < k := by omega
    simp [hr]
theorem Dk.loseTo_keep (d : Dk) (keep k i : Nat) (h : d.keys[k]? = some i) (hb : keep / 2 ^ (k % 64) % 2 ≠ 0) : d.loseTo keep (k + 1) = d.loseTo keep k := by
  unfold loseTo
  congr 1
  funext j
  by_cases hj : rank d.fr j = k
  · have e1 : ¬ (rank d.fr j < k + 1 ∧ keep / 2 ^ (rank d.fr j % 64) % 2 = 0) := by rw [hj]; exact fun x => hb x.2
    have e2 : ¬ (rank d.fr j < k ∧ keep / 2 ^ (rank d.fr j % 64) % 2 = 0) := by rw [hj]; omega
    rw [if_neg e1, if_neg e2]
  · by_cases hlt : rank d.fr j < k
    · have h1 : rank d.fr j < k + 1 := by omega
      simp [hlt, h1]
    · have h1 : ¬ rank d.fr j < k + 1 := by omega
      simp [hlt, h1]
theorem Dk.loseTo_drop (d : Dk) (hok : d.Ok) (keep k i : Nat) (h : d.keys[k]? = some i) (hb : keep / 2 ^ (k % 64) % 2 = 0) : d.loseTo keep (k + 1) = { d.loseTo keep k with fr := fun j => if j = i then none else (d.loseTo keep k).fr j } := by
  unfold loseTo
  congr 1
  funext j
  have hr := (rank_keys h).1
  by_cases hji : j = i
  · subst hji
    have e1 : rank d.fr j < k + 1 ∧ keep / 2 ^ (rank d.fr j % 64) % 2 = 0 := by rw [hr]; exact ⟨by omega, hb⟩
    rw [if_pos e1, if_pos rfl]
  · rw [if_neg hji]
    by_cases hj : rank d.fr j = k
    · -- another sector of the same rank is not fresh
      cases hf : d.fr j with
      | none => simp [hf]
      | some b =>
        have hjl := (hok.fr j b hf).1
        have hm : j ∈ d.keys := by simp [keys, hjl, hf]
        obtain ⟨m, hm1, e⟩ := List.getElem_of_mem hm
        have h9 : d.keys[m]? = some j := by rw [List.getElem?_eq_getElem hm1, e]
        have := (rank_keys h9).1
        have : m = k := by omega
        subst this
        rw [h9] at h
        exact absurd (Option.some.inj h) hji
    · by_cases hlt : rank d.fr j < k
      · have h1 : rank d.fr j < k + 1 := by omega
        simp [hlt, h1]
      · have h1 : ¬ rank d.fr j < k + 1 := by omega
        simp [hlt, h1]
theorem ok_loseTo {d : Dk} (h : d.Ok) (keep k : Nat) : (d.loseTo keep k).Ok := by
  refine ⟨h.size, h.secs, h.len, fun i b hb => ?_, h.left⟩
  simp only [Dk.loseTo] at hb ⊢
  split at hb
  · cases hb
  · exact h.fr i b hb
theorem DskAt.refr {w w' : World} {h : DH} {B : Nat → Prop} {d d' : Dk} (x : DskAt w h B d) (hk : Keeps [h.gm] w w') (hok : d'.Ok) (h1 : d'.size = d.size) (h2 : d'.dur = d.dur) (h3 : d'.dead = d.dead) (h4 : d'.cut = d.cut) (h5 : d'.left = d.left) (hf : FrAt w' h.gm B d.dur.length d'.fr) : DskAt w' h B d' := by
  have hne := x.ne
  have hS : ∀ y ∈ [h.gm], ¬ B y := fun y hy => by simp at hy; rw [hy]; exact x.sep.2.2
  obtain ⟨cap, hb⟩ := x.box
  obtain ⟨vs, hr, hv⟩ := x.rows
  refine ⟨hok, ⟨cap, by rw [h1, h2, h3, h4, h5]; exact block_keep hb hk (by simpa using hne.2.1)⟩, ⟨vs, block_keep hr hk (by simpa using hne.2.2), fun i hi => ?_⟩, by rw [h2]; exact hf, x.sep, fun y hy => Nat.lt_of_lt_of_le (x.low y hy) hk.size⟩
  obtain ⟨v, q1, q2⟩ := hv i (by rw [h2] at hi; exact hi)
  refine ⟨v, q1, ?_⟩
  have e : d'.dur[i] = d.dur[i]'(by rw [h2] at hi; exact hi) := by simp only [h2]
  rw [e]
  exact q2.keep hk hS (fun _ h => h)
/-- Behind 'delete(m, i)'. -/
theorem FrAt.drop_of {w w2 : World} {gm n i k : Nat} {B : Nat → Prop} {fr : Nat → Option (List UInt8)} {D : DataW Value} (h1 : ∀ kl, Maps.has D kl = true → ∃ i, i < n ∧ kl = key i ∧ (fr i).isSome)
    (h2 : ∀ i b, fr i = some b → Maps.has D (key i) = true ∧ ∃ v, (∀ z, D.atKey (key i) z = .held v) ∧ SecV w B v b) (ho2 : w2.ownsMap Tryz.prog 3 Raw gm k (D.del (key i))) (ht : w.mapTurned w2 gm) (hgm : ¬ B gm) : FrAt w2 gm B n (fun j => if j = i then none else fr j) := by
  have hk2 : Keeps [gm] w w2 := turned_keeps ht
  refine ⟨k, _, ho2, fun kl hkl => ?_, fun j c hj => ?_⟩
  · by_cases e : kl = key i
    · rw [e, Maps.has_del_same] at hkl; cases hkl
    · rw [Maps.has_del_other e] at hkl
      obtain ⟨j, hj, e2, hjs⟩ := h1 kl hkl
      refine ⟨j, hj, e2, ?_⟩
      have hji : j ≠ i := fun e3 => e (by rw [e2, e3])
      simp [hji, hjs]
  · by_cases hji : j = i
    · simp [hji] at hj
    · simp only [hji, if_false] at hj
      have hne : key j ≠ key i := fun e => hji (key_inj e)
      obtain ⟨h3, v', h4, h5⟩ := h2 j c hj
      exact ⟨by rw [Maps.has_del_other hne]; exact h3, v', fun z => by rw [Maps.atKey_del_other hne]; exact h4 z, h5.keep hk2 (fun x hx => by simp at hx; rw [hx]; exact hgm) (fun _ h => h)⟩
theorem owns_size {w : World} {gm k : Nat} {D : DataW Value} (h : w.ownsMap Tryz.prog 3 Raw gm k D) : Maps.size D ≤ k := h.size_le
def LoseP (w : World) (h : DH) (B : Nat → Prop) (d' : Dk) (e : Ending) (w' : World) : Prop := e = .returned (.tuple #[]) ∧ DskAt w' h B d' ∧ Keeps [h.gm] w w'
theorem bit_of (keep j : Nat) (h : keep < 18446744073709551616) : bits .and .u64 ((keep : Int) / 2 ^ j) 1 = ((keep / 2 ^ j % 2 : Nat) : Int) := by
  have h0 : keep / 2 ^ j ≤ keep := Nat.div_le_self _ _
  have h1 := u64_and_nat (keep / 2 ^ j) 1 (by omega) (by omega)
  rw [Nat.and_one_is_mod] at h1
  have e : ((keep : Int) / 2 ^ j) = ((keep / 2 ^ j : Nat) : Int) := by simp
  rw [e]
  exact h1
set_option maxHeartbeats 4000000 in
set_option maxRecDepth 100000 in
theorem lose_any (w : World) (h : DH) (B : Nat → Prop) (d : Dk) (x : DskAt w h B d) (keep : Nat) (hkeep : keep < 18446744073709551616) (torn : Int) (ht : torn < 0) : Calls Tryz.prog 37 #[.pointer (some ⟨h.p, 0, none⟩), .int .u64 (keep : Int), .int .i64 torn, .int .i64 0] w (LoseP w h B (d.lose keep)) := by
  obtain ⟨cap, c0, c1, c2, _⟩ := x.cells
  have hn := x.ok.secs.2
  have hsz := x.ok.size
  obtain ⟨k0, D, ho0, hk1, hk2⟩ := id x.fresh
  have ho := owns_small ho0 (fun kl hkl => by obtain ⟨j, hj, e, _⟩ := hk1 kl hkl; exact ⟨j, hj, e⟩)
  have hDs := ho.size_le
  have HX := Lib.hid x
  have HO := Lib.hid ho
  have HSK := Lib.hid (fun ss hp => sorted_keys (d := d) (ss := ss) ho hk1 (fun i b hi => (hk2 i b hi).1) (fun i hi => by obtain ⟨b, hb⟩ := Option.isSome_iff_exists.1 hi; exact (x.ok.fr i b hb).1) hp)
  have hlt := x.lt
  have HNE := Lib.hid x.ne
  have hkl := Dk.keys_le d
  clear x ho0 ho hk1 hk2
  go_enter Tryz.func37, Tryz.ntmps37
  go_wp2_with fail
  refine (keys_any (some h.gm) w).mono ?_
  rintro e w1 ⟨rfl, rfl⟩
  go_wp2_with fail
  refine (sorted_any h.gm d.dur.length D w HO.out (by unfold maxLen; omega) (by omega)).mono ?_
  rintro e w2 ⟨v, ss, rfl, hperm, hrow, hnil, hkw⟩
  have hsort := HSK.out ss hperm
  rw [hsort] at hrow
  have hlen : ss.length = d.keys.length := by
    have := congrArg List.length hsort
    simpa using this
  rw [hlen] at hrow
  have HROW := Lib.hid hrow
  have HKW := Lib.hid hkw
  obtain ⟨A1, cap1, rfl⟩ : ∃ A1 cap1, v = .slice A1 d.keys.length cap1 := by
    rcases own_form hrow with ⟨rfl, h0⟩ | ⟨g, cp, rfl, _⟩
    · exact ⟨none, 0, by rw [h0]⟩
    · exact ⟨_, cp, rfl⟩
  have HX2 := Lib.hid (HX.out.keep0 hkw)
  clear hperm hrow hnil hkw hsort hlen
  go_wp2_with fail
  go_loopw [24] (fun i wr => ∃ k : Nat, k ≤ d.keys.length ∧ i = .int .i64 (k : Int) ∧ DskAt wr h B (d.loseTo keep k) ∧ Keeps [h.gm] w2 wr) (fun i _ => d.keys.length - (Go.RowKit.intOf i).toNat)
  case atStart => exact ⟨0, Nat.zero_le _, rfl, by rw [Dk.loseTo_zero]; exact HX2.out, Keeps.refl _ _⟩
  case round =>
    obtain ⟨k, hk, rfl, hxk, hkk⟩ := hrel
    have HXK := Lib.hid hxk
    have HKK := Lib.hid hkk
    by_cases hkt : k < d.keys.length
    · obtain ⟨i, hi⟩ : ∃ i, d.keys[k]? = some i := ⟨_, List.getElem?_eq_getElem hkt⟩
      have hin := (Dk.rank_keys hi).2.1
      obtain ⟨g1, hA, hg1⟩ : ∃ g1, A1 = some ⟨g1, 0, none⟩ ∧ w.heap.size ≤ g1 := by
        rcases own_form HROW.out with ⟨h0, h1⟩ | ⟨g, cp, h0, h1, _⟩
        · omega
        · cases h0; exact ⟨g, rfl, h1⟩
      subst hA
      have hcell : w2.cell? ⟨g1, k, none⟩ = some (.int .i64 (i : Int)) := by
        have := HROW.out.cells (g := g1) rfl k (.int .i64 (i : Int)) (by
          have e : ((d.keys.map fun i : Nat => (i : Int)).map encZ)[k]? = some (.int .i64 (i : Int)) := by
            rw [List.getElem?_map, List.getElem?_map, hi]; rfl
          exact e)
        rw [Addr.add_lit, Nat.zero_add] at this
        exact this
      have hc1 : wr.cell? ⟨g1, k, none⟩ = some (.int .i64 (i : Int)) := hkk.cell_some hcell (by simp; omega)
      obtain ⟨capk, _, _, m2, _⟩ := hxk.cells
      have et : (((k : Nat) : Int) == torn) = false := by rw [beq_eq_false_iff_ne]; omega
      have HI := Lib.hid hi
      clear hxk hkk hcell hi
      have hbit : bits .and .u64 ((keep : Int) / 2 ^ (k % 64)) 1 = ((keep / 2 ^ (k % 64) % 2 : Nat) : Int) := bit_of keep (k % 64) hkeep
      by_cases hb : keep / 2 ^ (k % 64) % 2 = 0
      · have eb : (bits .and .u64 ((keep : Int) / 2 ^ (k % 64)) 1 == 0) = true := by rw [hbit, beq_iff_eq]; omega
        have HEQ := Lib.hid (d.loseTo_drop HX.out.ok keep k i HI.out hb)
        obtain ⟨kk, Dk1, hok, hq1, hq2⟩ := HXK.out.fresh
        have HOK := Lib.hid hok
        have HQ1 := Lib.hid hq1
        have HQ2 := Lib.hid hq2
        clear hb hbit hok hq1 hq2
        go_wp2_with (at_delete; refine wpList_delete_own _ rfl _ _ 50 3 rfl 62 keyLaw Tryz.underlying50 Raw h.gm kk Dk1 rfl HOK.out _ (key i) rfl (key_of (by omega)) ?_)
        intro w5 ho5 ht5
        have HF5 := Lib.hid (FrAt.drop_of HQ1.out HQ2.out ho5 ht5 HX.out.sep.2.2)
        have HK5 := Lib.hid (turned_keeps ht5)
        clear ho5 ht5
        go_wp2_with fail
        go_roundw
        case rel => exact ⟨k + 1, by omega, by go_num, by rw [HEQ.out]; exact HXK.out.refr HK5.out (by rw [← HEQ.out]; exact ok_loseTo HX.out.ok keep _) rfl rfl rfl rfl rfl HF5.out, HKK.out.trans HK5.out (fun _ h _ => h)⟩
        case measure => simp [Go.RowKit.intOf]; omega
      · have eb : (bits .and .u64 ((keep : Int) / 2 ^ (k % 64)) 1 == 0) = false := by rw [hbit, beq_eq_false_iff_ne]; omega
        have hb1 : keep / 2 ^ (k % 64) % 2 ≠ 0 := hb
        have HEQ := Lib.hid (d.loseTo_keep keep k i HI.out hb1)
        clear hb hb1 hbit
        go_wp2_with fail
        go_roundw
        case rel => exact ⟨k + 1, by omega, by go_num, by rw [HEQ.out]; exact HXK.out, HKK.out⟩
        case measure => simp [Go.RowKit.intOf]; omega
    · have HE := Lib.hid (show d.loseTo keep k = d.lose keep from d.loseTo_all HX.out.ok keep k (by omega))
      clear hxk hkk
      go_wp2_with fail
      go_end0
      rw [HE.out] at HXK
      exact ⟨rfl, HXK.out, (HKW.out.mono (T := [h.gm]) (by simp)).trans HKK.out (fun _ h _ => h)⟩
end Go.Proofs.YtbanpdeganlndaaGreatDoor
namespace Go.Proofs.YtbanpdeganlndaaGreatDoor
open Go.RowKit

def CrashP (w : World) (h : DH) (B : Nat → Prop) (d' : Dk) (e : Ending) (w' : World) : Prop := e = .returned (.tuple #[]) ∧ DskAt w' h B d' ∧ Keeps h.l w w'
theorem crashP_of {w w2 w3 : World} {h : DH} {B : Nat → Prop} {d : Dk} {keep : Nat} (x : DskAt w h B d) (hk : Keeps h.l w w2) (x2 : DskAt w2 h B (d.lose keep).settle) (hw : w3 = ((w2.setCell ⟨h.p, 3, none⟩ (.bool false)).setCell ⟨h.p, 4, none⟩ (.bool false)).setCell ⟨h.p, 5, none⟩ (.int .i64 0)) : CrashP w h B (d.crash keep) (.returned (.tuple #[])) w3 := by
  obtain ⟨capb, hb⟩ := x2.box
  have hk3 : Keeps [h.p] w2 w3 := by rw [hw]; exact (((Keeps.refl _ _).setCell (by simp) _).setCell (by simp) _).setCell (by simp) _
  refine ⟨rfl, x2.turn hk3 (Dk.ok_crash x.ok keep) rfl rfl rfl ⟨capb, ?_⟩, hk.trans hk3 (by simp [DH.l])⟩
  rw [hw, six_set (six_set (six_set hb 3 _) 4 _) 5 _]
  rfl
set_option maxHeartbeats 1000000 in
theorem crash_any (w : World) (h : DH) (B : Nat → Prop) (d : Dk) (x : DskAt w h B d) (keep : Nat) (hkeep : keep < 18446744073709551616) (torn : Int) (ht : torn < 0) : Calls Tryz.prog 20 #[.pointer (some ⟨h.p, 0, none⟩), .int .u64 (keep : Int), .int .i64 torn, .int .i64 0] w (CrashP w h B (d.crash keep)) := by
  have HX := Lib.hid x
  clear x
  go_enter Tryz.func20, Tryz.ntmps20
  go_wp2_with fail
  refine (lose_any w h B d HX.out keep hkeep torn ht).mono ?_
  rintro e w1 ⟨rfl, q1, q2⟩
  have HX1 := Lib.hid q1
  have HK1 := Lib.hid (q2.mono (T := h.l) (by simp [DH.l]))
  clear q1 q2
  go_wp2_with fail
  refine (settle_any w1 h B _ HX1.out).mono ?_
  rintro e w2 ⟨rfl, q1, q2⟩
  have HX2 := Lib.hid q1
  have HK2 := Lib.hid (HK1.out.trans q2 (fun _ h _ => h))
  obtain ⟨capk, _, _, _, m3, m4, m5⟩ := q1.cells
  have z3 := q1.free 3
  have z4 := q1.free 4
  have z5 := q1.free 5
  clear q1 q2
  go_wp2_with fail
  go_end0
  exact crashP_of HX.out HK2.out HX2.out rfl
end Go.Proofs.YtbanpdeganlndaaGreatDoor
