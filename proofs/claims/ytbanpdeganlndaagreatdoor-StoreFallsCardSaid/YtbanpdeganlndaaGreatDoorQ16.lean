/- Merged: SVals SColl -/
import Derived.Test.YtbanpdeganlndaaGreatDoorQ13
import Derived.RangeFuncNested
import Derived.RangeFuncBound
import Derived.RangeFuncCalls
import Derived.RangeFuncLeaves
import Derived.Shelf.Abstract
import Derived.Shelf.RegionOpen
import Derived.OwnWalkIn
import Derived.TacticsInMore
import Derived.LoopNIn
import Derived.LoopIn
import Derived.Sort.MapsRangeIn
import Derived.Maps.OwnIn
import Derived.Maps.AppendAt
namespace Go.Proofs.YtbanpdeganlndaaGreatDoor
open Go.RowKit Go.Shelf
open St (Tx As)
attribute [local go_sem] Oper.semAt_some

section
variable {F : Fence} {nF : Nat}
theorem inList_range_map {P : Program} (hP : P = Tryz.prog) (w : World) {ops : Array Oper} {rest : List Oper} {o : Oper} {a : Act} {Q : Exit → Act → World → Prop} (hg : o.guard = none) (m : Operand) (t : TypeId) (hop : o.op = Op.range t m) (e : TypeId) (ht : Tryz.prog.underlying t = some (.map 9 e)) (b : Nat) (E : Tx → Tx → Value) (l : As)
    (hm : a.eval m = .map (some b)) (h : MapAt w b E l)
    (hK : ∀ w', Ranging w' b w.heap.size E l l → w.grownBy w' none → w'.heap.size = w.heap.size + 1 → wpListIn F nF P ops Q rest (a.put o.dst (.pointer (some ⟨w.heap.size, 0, none⟩))) w') :
    wpListIn F nF P ops Q (o :: rest) a w := by
  subst hP
  obtain ⟨h1, h2, n, L, ho, hp⟩ := h
  refine wpListIn_range_own w hg m t hop 9 e strKey ht Raw b n (.map L) hm ho fun w' hr hgr hs => hK w' ⟨h1, h2, n, L, _, _, hr, hp, ?_, fun _ h => h⟩ hgr hs
  rw [List.filter_eq_self.2]
  intro p hpm
  rw [has_map h1 hp, St.mem_look h1 (k := p.1) (v := p.2) hpm]; rfl
theorem inList_next_map {P : Program} (hP : P = Tryz.prog) (w : World) {ops : Array Oper} {rest : List Oper} {o : Oper} {a : Act} {Q : Exit → Act → World → Prop} (hg : o.guard = none) (it : Operand) (hop : o.op = Op.next it false) (b r : Nat) (E : Tx → Tx → Value) (l todo : As)
    (hit : a.eval it = .pointer (some ⟨r, 0, none⟩)) (h : Ranging w b r E l todo)
    (hDone : todo = [] → wpListIn F nF P ops Q rest (a.put o.dst (.tuple #[.bool false])) w)
    (hMore : ∀ (k v : Tx) (todo' : As) (w' : World), todo.Perm ((k, v) :: todo') → (k, v) ∈ l → k.length ≤ maxLen → Ranging w' b r E l todo' → w'.rangeLeft b r < w.rangeLeft b r → w.grownBy w' (some r) → w'.heap.size = w.heap.size →
      (Instr.entry (.pointer (some ⟨r, 0, none⟩))).run P w' = .ok (.tuple #[.string (strO k), E k v]) w' → wpListIn F nF P ops Q rest (a.put o.dst (.tuple #[.bool true, .string (strO k), E k v])) w') :
    wpListIn F nF P ops Q (o :: rest) a w := by
  subst hP
  obtain ⟨h1, h2, n, L, left, cnt, hr, hp, ht, hl⟩ := h
  refine wpListIn_next_ranges w hg it hop 9 strKey Raw (fun k : Tx => .string (strO k)) (fun v : Value => v) (fun key kl hkey => by
    obtain ⟨s, rfl, _, _⟩ := WideMaps.string_of_keyOf Tryz.underlying9 hkey
    exact ⟨s.data.toList, by rw [strO_data]⟩) (fun v _ _ => ⟨v, rfl⟩) b r n (.map L) left cnt hit hr (fun _ h0 => hDone ?_) ?_
  · have : (l.filter fun p => left (.string p.1)) = [] := by
      rw [List.filter_eq_nil_iff]
      intro p _
      rw [h0]; simp
    rw [this] at ht
    exact ht.eq_nil
  · intro k c kl y w' cnt' hkey hlk hy hat hr' hlt hgr hs hen
    obtain ⟨s, es, hkl, hsz⟩ := WideMaps.string_of_keyOf Tryz.underlying9 hkey
    have hks : s = strO k := (Value.string.inj es).symm
    subst hks
    rw [strO_list] at hkl
    rw [strO_len] at hsz
    subst hkl
    have hh := hl _ hlk
    rw [has_map h1 hp] at hh
    obtain ⟨v, hv⟩ := Option.isSome_iff_exists.1 hh
    have hc : c = E k v := by
      have e := hat (.held c)
      rw [atKey_map h1 hp, hv] at e
      simp only [Raw, Option.some.injEq] at hy
      rw [← hy] at e
      exact (DataW.held.inj e).symm
    subst hc
    have hm := St.look_mem hv
    have hmt : (k, v) ∈ todo := ht.mem_iff.2 (List.mem_filter.2 ⟨hm, hlk⟩)
    obtain ⟨todo', hpt⟩ := perm_head hmt
    refine hMore k v todo' w' hpt hm hsz ⟨h1, h2, n, L, _, _, hr', hp, ?_, fun kl hkl => hl kl (by
      simp only [Bool.and_eq_true] at hkl
      exact hkl.1)⟩ (by rw [hr.left_eq, hr'.left_eq]; exact hlt) hgr hs hen
    have hnd : ((k, v) :: todo').Nodup := (hpt.nodup_iff).1 ((ht.nodup_iff).2 (h1.nodup.filter _))
    have hp2 : ((k, v) :: todo').Perm (l.filter fun p => left (.string p.1)) := hpt.symm.trans ht
    have hnd2 := List.nodup_cons.1 hnd
    refine (List.perm_ext_iff_of_nodup hnd2.2 (h1.nodup.filter _)).2 fun p => ?_
    have hm2 := hp2.mem_iff (a := p)
    rw [List.mem_cons, List.mem_filter] at hm2
    rw [List.mem_filter]
    simp only [sameKey_str, Bool.and_eq_true, Bool.not_eq_true', decide_eq_false_iff_not]
    constructor
    · intro hpm
      obtain ⟨g1, g2⟩ := hm2.1 (.inr hpm)
      refine ⟨g1, g2, fun e => ?_⟩
      obtain ⟨p1, p2⟩ := p
      simp only at e
      subst e
      have := h1.inj g1 hm
      subst this
      exact hnd2.1 hpm
    · rintro ⟨g1, g2, g3⟩
      rcases hm2.2 ⟨g1, g2⟩ with e | e
      · exact absurd (by rw [e]) g3
      · exact e
end
theorem Ranging.walks {w w' : World} {b r : Nat} {E : Tx → Tx → Value} {l todo : As} (h : Ranging w b r E l todo) (hk : KeepsWalks w w') : Ranging w' b r E l todo ∧ w'.rangeLeft b r = w.rangeLeft b r := by
  obtain ⟨q1, q2, n, L, left, cnt, hr, q3⟩ := h
  have hr' := hr.of_walks hk
  exact ⟨⟨q1, q2, n, L, left, cnt, hr', q3⟩, by rw [hr.left_eq, hr'.left_eq]⟩
theorem Ranging.iter {w : World} {b r : Nat} {E : Tx → Tx → Value} {l todo : As} (h : Ranging w b r E l todo) : ∃ o : Obj, w.heap[r]? = some o ∧ o.isWalk = true := by
  obtain ⟨q1, q2, n, L, left, cnt, hr, q3⟩ := h
  exact hr.iter_walk
def encV (p : Tx × Tx) : Value := EP p.1 p.2
set_option maxRecDepth 100000 in
set_option maxHeartbeats 1000000 in
/-- maps.Values' iterator: the values come, each once, in some order. -/
theorem vals_in (l Bm mb : Nat) (m : As) (J Jx : As → World → Prop)
    (hY : ∀ pre x W, J pre W → pre.length < m.length → YieldAt Fence.wide 9 Tryz.prog l #[encV x] W fun e W' => (e = .returned (.bool true) ∧ J (pre ++ [x]) W' ∧ KeepsWalks W W') ∨ (e = .returned (.bool false) ∧ Jx (pre ++ [x]) W'))
    (W : World) (hJ : AbidesFrom W.heap.size J) (hm : W.cell? ⟨Bm, 0, none⟩ = some (.map (some mb))) (hmap : MapAt W mb EP m) (h0 : J [] W) :
    CallsIn Fence.wide 10 Tryz.prog 90 #[.func (.yield l) #[] #[], .pointer (some ⟨Bm, 0, none⟩)] W fun e W' => (∃ v, e = .returned v) ∧ ((∃ xs : As, xs.Perm m ∧ J xs W') ∨ (∃ pre, Jx pre W')) := by
  refine callsIn_of_wp Tryz.func90 rfl trivial ?_ rfl
  simp only [Tryz.ntmps90, List.size_toArray, List.length_cons, List.length_nil, Nat.reduceAdd, Nat.reduceSub, Array.replicate_succ, Array.replicate_zero, List.push_toArray, List.append_toArray, List.nil_append, List.cons_append]
  gi_wp2_with (first
    | (gi_at_range; refine inList_range_map rfl _ rfl _ 41 rfl 66 Tryz.underlying41 mb EP m rfl hmap ?_; intro w0 hrg0 hg0 hs0)
    | gi_in)
  go_frame
  have HM := Lib.hid hmap
  have HJ := Lib.hid hJ
  have HY := Lib.hid hY
  clear hmap hY
  gi_loopw [4] (fun _ wr => ∃ (todo done : As), Ranging wr mb W.heap.size EP m todo ∧ (done ++ todo).Perm m ∧ J done wr) (fun _ wr => wr.rangeLeft mb W.heap.size)
  case atStart => exact ⟨m, [], hrg0, by simp, HJ.out [] W w0 none h0 hg0 (fun r e => by cases e)⟩
  case round =>
    obtain ⟨todo, done, hrg, hperm, hJs⟩ := hrel
    have HP := Lib.hid hperm
    have HRG := Lib.hid hrg
    clear hperm
    gi_wp2_with (first
      | (gi_at_next; refine inList_next_map rfl _ rfl _ rfl mb W.heap.size EP m todo rfl hrg ?_ ?_)
      | gi_in)
    · intro hn
      gi_wp2
      go_end0
      exact ⟨⟨_, rfl⟩, .inl ⟨done, by have := HP.out; rw [hn] at this; simpa using this, hJs⟩⟩
    · intro k v todo' w2 hp hmem hkl hrg2 hlt hg2 hs2 hen
      have hJ2 : J done w2 := HJ.out _ wr w2 (some W.heap.size) hJs hg2 (fun r e => by cases e; exact ⟨Nat.le_refl _, HRG.out.iter⟩)
      have HLT := Lib.hid hlt
      have HP2 := Lib.hid (show (done ++ [(k, v)] ++ todo').Perm m from by
        rw [List.append_assoc]
        exact (List.Perm.append_left done hp.symm).trans HP.out)
      have HLN := Lib.hid (show done.length < m.length by
        have := HP2.out.length_eq
        simp at this
        omega)
      have HJ2 := Lib.hid hJ2
      have HRG2 := Lib.hid hrg2
      obtain ⟨ka, hka⟩ : ∃ a, a = strO k := ⟨_, rfl⟩
      obtain ⟨va, hva⟩ : ∃ a, a = strO v := ⟨_, rfl⟩
      have e1 : EP k v = .agg #[.string ka, .string va, .bool false] := by rw [hka, hva]; rfl
      rw [← hka, e1] at hen
      rw [← hka, e1]
      have HKA := Lib.hid hka
      have HVA := Lib.hid hva
      clear hs2 hp hmem hkl hlt hJ2 hrg2 hka hva hrg hg2
      have hJ3 : J done (w2.alloc (.cells #[.string ka, .string va, .bool false] 66)) := HJ.out _ w2 _ none HJ2.out (World.grownBy_alloc w2 _ none) (fun r e => by cases e)
      obtain ⟨w3, hw3⟩ : ∃ w3, w3 = w2.alloc (.cells #[.string ka, .string va, .bool false] 66) := ⟨_, rfl⟩
      have HRG3 := Lib.hid (HRG2.out.walks (w' := w3) (by rw [hw3]; exact KeepsWalks.alloc _ _))
      rw [← hw3] at hJ3
      obtain ⟨fn, tmps, assign, body, hy, hR⟩ := HY.out done (k, v) w3 hJ3 HLN.out
      rw [show encV (k, v) = .agg #[.string ka, .string va, .bool false] from e1, hw3] at hy
      clear e1
      gi_wp2
      rw [← hw3]
      refine hR.mono ?_
      rintro e W3 (⟨rfl, hJ4, hk3⟩ | ⟨rfl, hJx3⟩)
      · have HRG4 := Lib.hid (HRG3.out.1.walks hk3)
        gi_wp2
        go_roundw
        case rel => exact ⟨todo', done ++ [(k, v)], HRG4.out.1, HP2.out, hJ4⟩
        case measure => rw [HRG4.out.2, HRG3.out.2]; exact HLT.out
      · gi_wp2
        refine bodyPost_ret (results_none rfl _ _ _) rfl ?_
        exact ⟨⟨_, rfl⟩, .inr ⟨_, hJx3⟩⟩
/-- maps.Values of a store's contents: an iterator that gives what the map holds. -/
theorem vals_stops (Bm mb : Nat) (m : As) (w : World) (hBm : Bm < w.heap.size) (hm : w.cell? ⟨Bm, 0, none⟩ = some (.map (some mb))) (hmap : MapAt w mb EP m) :
    SeqStops Fence.wide 10 Tryz.prog 90 #[.pointer (some ⟨Bm, 0, none⟩)] encV (fun xs => xs.Perm m) (fun _ => True) m.length w := fun l J Jx W hW hJ _ hY h0 => by
  have hmap' : MapAt W mb EP m := by
    have hlt := hmap.lt
    obtain ⟨q1, q2, n, L, ⟨es, c, hb, q3⟩, q4⟩ := hmap
    exact ⟨q1, q2, n, L, ⟨es, c, (hW.block mb hlt).trans hb, q3⟩, q4⟩
  refine (vals_in l Bm mb m J Jx hY W hJ ((hW.cell (p := ⟨Bm, 0, none⟩) hBm).trans hm) hmap' h0).mono ?_
  rintro e W' ⟨h1, h2 | ⟨pre, h2⟩⟩
  · exact ⟨h1, .inl h2⟩
  · exact ⟨h1, .inr ⟨pre, trivial, h2⟩⟩
set_option maxHeartbeats 1000000 in
theorem values_call (mb : Nat) (w : World) :
    CallsIn Fence.wide 10 Tryz.prog 56 #[.map (some mb)] w fun e w' => e = .returned (.func (.func 90) #[] #[.pointer (some ⟨w.heap.size, 0, none⟩)]) ∧ w' = w.alloc (.cells #[.map (some mb)] 41) := by
  refine callsIn_of_wp Tryz.func56 rfl trivial ?_ rfl
  simp only [Tryz.ntmps56, List.size_toArray, List.length_cons, List.length_nil, Nat.reduceAdd, Nat.reduceSub, Array.replicate_succ, Array.replicate_zero, List.push_toArray, List.append_toArray, List.nil_append, List.cons_append]
  gi_wp2
  go_ret
  exact ⟨rfl, rfl⟩
end Go.Proofs.YtbanpdeganlndaaGreatDoor
namespace Go.Proofs.YtbanpdeganlndaaGreatDoor
open Go.RowKit Go.Shelf
open St (Tx As Ch)
attribute [local go_sem] Oper.semAt_some

set_option maxRecDepth 100000 in
set_option maxHeartbeats 1000000 in
theorem appendSeq_in (g : Nat) (lb : Array Value) (eg : ∀ args w, (callFunc g args).run Tryz.prog w = .ok (.enter g args) w) (S Sp : As → Prop) (N : Nat) (hN : N ≤ 1000000) (w : World) (hseq : SeqStops Fence.wide 10 Tryz.prog g lb encV S Sp N w) :
    CallsIn Fence.wide 11 Tryz.prog 127 #[.slice none 0 0, .func (.func g) #[] lb] w fun e w' => ∃ v xs, e = .returned v ∧ S xs ∧ w'.ownsRow w.heap.size 66 3 v xs.length (pcells (St.news xs)) ∧ Below w.heap.size w w' := by
  obtain ⟨iP, hP, hP0, hP1, hP2⟩ := info_parts infoPair
  refine callsIn_of_wp_marks Tryz.func127 rfl trivial ?_ rfl
  simp only [Tryz.ntmps127, List.size_toArray, List.length_cons, List.length_nil, Nat.reduceAdd, Nat.reduceSub, Array.replicate_succ, Array.replicate_zero, List.push_toArray, List.append_toArray, List.nil_append, List.cons_append]
  gi_wp2
  have hb1 : Below w.heap.size w (w.alloc (.cells #[.slice none 0 0] 37)) := (Below.refl _ w).alloc (Nat.le_refl _) _
  refine wpIn_rangeFunc_ownH rfl (by omega) (gf := g) (lb := lb) rfl trivial eg (Kp := KeepsWalks) (show SeqStopsK _ _ _ g lb (fun x => #[encV x]) KeepsWalks S Sp N w from hseq) walksK_t walksK_b hb1 (fun _ => rfl)
    (fun pre W => (∃ v, Boxed W w.heap.size 37 v ∧ W.ownsRow w.heap.size 66 3 v pre.length (pcells (St.news pre)) ∧ True) ∧ Below w.heap.size w W) (fun _ _ _ => False)
    (OwnFrom.and (Own.from (holdsRow_own w.heap.size w.heap.size 37 66 3 (fun pre : As => pre.length) (fun pre => pcells (St.news pre)) (fun _ _ => True)) _) (ownFrom_below (Nat.le_refl _) (by simp)))
    (fun _ _ _ _ _ h _ _ => h) ⟨⟨_, Boxed.new w _ _, World.ownsRow_nil _ _ _ _, trivial⟩, hb1⟩
    (fun x a' W => ∃ Bx, w.heap.size < Bx ∧ W.heap[Bx]? = some (.cells #[.string (strO x.1), .string (strO x.2), .bool false] 66 (0, 0)) ∧ a' = { tmps := #[.slice none 0 0, .func (.func g) #[] lb, .pointer (some ⟨w.heap.size, 0, none⟩), undef, .slice none 0 0, .pointer (some ⟨Bx, 0, none⟩), .func (.func g) #[] lb, encV x, undef, undef, undef, undef, undef], defers := [] })
    (fun x a' => ?hAx) ?hassign ?hbody ?hdone ?hstop
  case hAx =>
    rintro _ W W' row ⟨Bx, h1, h2, h3⟩ hg hr
    refine ⟨Bx, h1, (hg.block Bx (block_lt h2) (fun e => ?_)).trans h2, h3⟩
    obtain ⟨_, o, ho, hc⟩ := hr Bx e.symm
    rw [h2] at ho; cases ho; cases hc
  case hassign =>
    rintro l pre x W K ⟨⟨v, hv, hrow, -⟩, hB⟩ hK
    rw [show encV x = .agg #[.string (strO x.1), .string (strO x.2), .bool false] from rfl] at hK ⊢
    gi_wp2
    exact hK _ _ ((KeepsOthers.alloc _ _).from _) (KeepsWalks.alloc _ _) ⟨⟨v, hv.alloc _, hrow.alloc _, trivial⟩, hB.alloc hB.size _⟩ ⟨W.heap.size, hv.lt, heap_alloc_new W _, rfl⟩
  case hbody =>
    rintro l pre x a' W hlw ⟨r, hr⟩ ⟨⟨v, hv, hrow, -⟩, hB⟩ ⟨Bx, hBx, hbox, rfl⟩ hlen
    have hc := hv.cell
    have hf := hv.frozen
    have x0 : W.cell? ⟨Bx, 0, none⟩ = some (.string (strO x.1)) := by rw [row_cell hbox]; rfl
    have x1 : W.cell? ⟨Bx, 1, none⟩ = some (.string (strO x.2)) := by rw [row_cell hbox]; rfl
    have x2 : W.cell? ⟨Bx, 2, none⟩ = some (.bool false) := by rw [row_cell hbox]; rfl
    have hsz := hB.size
    gi_wp2_with (first
      | (gi_at_builtin
         refine wpListIn_append_own _ rfl _ _ 37 rfl w.heap.size 66 iP (.agg #[.string .empty, .string .empty, .bool false]) 3 40 Tryz.underlying37 hP hP0 hP1 hP2 rfl (by decide) v pre.length (pcells (St.news pre)) rfl (hrow.alloc _) ⟨W.heap.size, 0, none⟩ 1 1 [.string (strO x.1), .string (strO x.2), .bool false] rfl rfl ?qa1 ?qa2 ?qa3 ?qa4 ?qa5 ?_
         case qa1 =>
           intro j u hj
           rw [Addr.add_lit, Nat.zero_add, row_cell (heap_alloc_new W _)]
           match j, hj with
           | 0, hj => simpa using hj
           | 1, hj => simpa using hj
           | 2, hj => simpa using hj
           | j + 3, hj => simp at hj
         case qa2 => intro u hu; simp at hu; rcases hu with rfl | rfl | rfl <;> rfl
         case qa3 => unfold maxLen; omega
         case qa4 => omega
         case qa5 => simp; omega
         intro v' w1 hown' hgrow _
         obtain ⟨g', cap', rfl⟩ := ownsRow_succ hown'
         obtain ⟨hv1, hv2, hr2, hk2, hb2⟩ := hv.appended (by decide) hrow hB.size (Nat.le_refl _) hown' hgrow
         have hc1 := hv1.cell
         have hf1 := hv1.frozen)
      | gi_in)
    have e9 : pcells (St.news (pre ++ [x])) = pcells (St.news pre) ++ [.string (strO x.1), .string (strO x.2), .bool false] := by
      rw [show St.news (pre ++ [x]) = St.news pre ++ [⟨x.1, x.2, false⟩] by simp [St.news], pcells_snoc]
    exact ⟨hk2.from _, hk2.walks, ⟨_, hv2, by rw [e9, List.length_append]; exact hr2, trivial⟩, hB.trans hb2⟩
  case hdone =>
    rintro D xs W hD hS ⟨⟨v, hv, hrow, -⟩, hB⟩ hK
    have hc := hv.cell
    have hf := hv.frozen
    gi_wp2
    refine ⟨by simp, .inl ⟨_, _, rfl, run_takeDeferred hK, ?_⟩⟩
    exact ⟨_, results_tmp rfl _ _ _, v, xs, rfl, hS, ownsRow_putObj hrow _ hK rfl, hB.trans (belowK_b (w := w) (Nat.le_refl _) W D _ _ (by simp at hD; omega) hK rfl rfl)⟩
  case hstop =>
    rintro D c pre W _ _ h _
    exact h.elim
set_option maxHeartbeats 1000000 in
theorem collect_in (g : Nat) (lb : Array Value) (eg : ∀ args w, (callFunc g args).run Tryz.prog w = .ok (.enter g args) w) (S Sp : As → Prop) (N : Nat) (hN : N ≤ 1000000) (w : World) (hseq : SeqStops Fence.wide 10 Tryz.prog g lb encV S Sp N w) :
    CallsIn Fence.wide 12 Tryz.prog 88 #[.func (.func g) #[] lb] w fun e w' => ∃ v xs, e = .returned v ∧ S xs ∧ w'.ownsRow w.heap.size 66 3 v xs.length (pcells (St.news xs)) ∧ Below w.heap.size w w' := by
  refine callsIn_of_wp Tryz.func88 rfl trivial ?_ rfl
  simp only [Tryz.ntmps88, List.size_toArray, List.length_cons, List.length_nil, Nat.reduceAdd, Nat.reduceSub, Array.replicate_succ, Array.replicate_zero, List.push_toArray, List.append_toArray, List.nil_append, List.cons_append]
  gi_wp2
  refine ⟨trivial, (appendSeq_in g lb eg S Sp N hN _ hseq).mono ?_⟩
  rintro e w' ⟨v, xs, rfl, hS, hrow, hb⟩
  gi_wp2
  go_ret
  exact ⟨v, xs, rfl, hS, hrow, hb⟩
end Go.Proofs.YtbanpdeganlndaaGreatDoor
