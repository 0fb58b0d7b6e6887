/- Merged: DConc -/
import Derived.Test.YtbanpdeganlndaaGreatDoorQ0
import Derived.IntWalk
namespace Go.Proofs.YtbanpdeganlndaaGreatDoor
open Go.RowKit

theorem run_append_make (w : World) (ty : TypeId) (n : Nat) (h0 : 0 < n) (hn : n ≤ 1000000) :
    (Builtin.append_ #[62, 3] ty #[.slice none 0 0, .int .i64 (n : Int)]).run Tryz.prog w =
      .ok (.slice (some ⟨w.heap.size, 0, none⟩) n (grownCap w n 0 5)) (w.drew.alloc (.cells (Builtin.zeroCells #[.int .u8 0] n ++ Builtin.zeroCells #[.int .u8 0] (grownCap w n 0 5 - n)) 5)) := by
  obtain ⟨i, hi, hz, hs, hb⟩ := info_parts infoU8
  have hn0 : n ≠ 0 := by omega
  have h63 : ¬ (9223372036854775807 < (n : Int)) := by omega
  have h48 : ¬ (281474976710656 < Builtin.nextslicecap n 0 * i.bytes) := by rw [nextslicecap_zero h0, hb]; omega
  have hw : IntKind.i64.wrap (n : Int) = (n : Int) := IntWalk.i64_in _ ⟨by omega, by omega⟩
  have hneg : ¬ ((n : Int) < 0) := by omega
  have hbig : ¬ (281474976710656 < (n : Int) * (i.bytes : Int)) := by rw [hb]; omega
  have hcells : (Value.int .u8 0).cells = #[Value.int .u8 0] := rfl
  have hle : ¬ ((n : Int) ≤ 0) := by omega
  have hmax : max (n : Int) 0 = (n : Int) := by omega
  have hbig2 : ¬ (281474976710656 < (n : Int)) := by omega
  rw [hb, Nat.mul_one] at h48
  clear hbig
  simp [asIntOf, hle, hmax, hbig2, Builtin.append_, run_underlying Tryz.underlying62, run_underlying Tryz.underlying3, sizeOf, typeInfo, zeroValue, hi, hz, hs, hb, asInt, hw, hneg, hn0, h63, h48, Question.forced, run_firstCells_none, newRow, grownCap, hcells]
theorem wpList_append_make {ops : Array Oper} {rest : List Oper} {o : Oper} {a : Act} {Q : Exit → Act → World → Prop} {w : World} (hgd : o.guard = none) (s x : Operand)
    (ho : o.op = .call { callee := .builtin .append, args := #[s, x], argTypes := #[62, 3] }) (n : Nat) (h0 : 0 < n) (hn : n ≤ 1000000) (hs : a.eval s = .slice none 0 0) (hx : a.eval x = .int .i64 (n : Int))
    (h : ∀ c cs, Hid (n ≤ c ∧ c ≤ maxLen ∧ Array.size cs = c) → wpList Tryz.prog ops Q rest (a.put o.dst (.slice (some ⟨w.heap.size, 0, none⟩) n c)) (w.drew.alloc (.cells cs 5))) : wpList Tryz.prog ops Q (o :: rest) a w :=
  wpList_plain hgd fun _ hK => by
    have hr := run_append_make w o.type n h0 hn
    unfold Oper.wp execOp
    simp only [ho, resolve, invoke, builtin, Sem.run_bind, Sem.run_pure, Result.andThen_ok, List.map_toArray, List.map_cons, List.map_nil, hs, hx, hr]
    refine hK _ _ (h _ _ (Lib.hid ⟨grownCap_ge w n 0 5, grownCap_le_maxLen w n 0 5 (by unfold maxLen; omega), ?_⟩))
    have := grownCap_ge w n 0 5
    rw [Array.size_append, size_zeroCells, size_zeroCells]
    simp; omega
/-- A row of one's own, of no bytes. -/
def GrowP (w : World) (e : Ending) (w' : World) : Prop := ∃ v, e = .returned v ∧ w'.ownsRow w.heap.size 5 1 v 0 [] ∧ Keeps [] w w'
set_option maxHeartbeats 1000000 in
set_option maxRecDepth 100000 in
theorem grow_any (w : World) (n : Nat) (hn : n ≤ 1000000) :
    Calls Tryz.prog 97 #[.slice none 0 0, .int .i64 (n : Int)] w (GrowP w) := by
  by_cases h0 : n = 0
  · subst h0
    go_enter Tryz.func97, Tryz.ntmps97
    go_wp2
    go_ret
    exact ⟨_, rfl, World.ownsRow_nil _ _ _ _, Keeps.refl _ _⟩
  · have hsl : ∀ (c : Nat) (w2 : World), n ≤ c → (Instr.slice 62 (.slice (some ⟨w.heap.size, 0, none⟩) n c) none (some (.int .i64 0)) none).run Tryz.prog w2 = .ok (.slice (some ⟨w.heap.size, 0, none⟩) 0 c) w2 := fun c w2 hc => by
      have := run_slice_h (P := Tryz.prog) w2 62 (some ⟨w.heap.size, 0, none⟩) n c elemBytes .i64 0 (by omega) (by omega)
      rw [this]
      have hs : (sizeOf (Tryz.prog.elem 62)).run Tryz.prog w2 = .ok 1 w2 := by kernel_rfl
      rw [hs]
      have hcn : ¬ c = 0 := by omega
      simp [Result.andThen, sliced, hcn, Addr.add_lit]
    have HSL := Lib.hid hsl
    have hpos : 0 < n := by omega
    have hposd : decide ((0 : Int) < (n : Int)) = true := by simp; omega
    clear hsl
    go_enter Tryz.func97, Tryz.ntmps97
    go_wp2_with (at_builtin; refine wpList_append_make rfl _ _ rfl n hpos hn rfl rfl ?_)
    intro c cs HC
    have hs2 := fun w2 => HSL.out c w2 HC.out.1
    go_wp2_with fail
    go_ret
    refine ⟨_, rfl, ⟨rfl, .inr ⟨w.heap.size, c, cs, rfl, Nat.le_refl _, heap_alloc_new w.drew _, Nat.zero_le _, HC.out.2.1, by rw [Nat.mul_one]; exact HC.out.2.2, rfl⟩⟩, ((Keeps.refl [] w).drew).alloc _⟩
/-! ### Concat of two -/
def ConcP (w : World) (l : List UInt8) (e : Ending) (w' : World) : Prop := ∃ v g, e = .returned v ∧ (∃ A c, v = .slice A l.length c ∧ BytesIn w' g A l) ∧ w'.ownsRow w.heap.size 5 1 v l.length (u8s l) ∧ Keeps [] w w'
theorem bytes_cells {w w' : World} {g o : Nat} {l : List UInt8} (h : BytesIn w g (some ⟨g, o, none⟩) l) (hk : Keeps [] w w') : ∀ j u, (u8s l)[j]? = some u → w'.cell? ((⟨g, o, none⟩ : Addr).add j) = some u := by
  intro j u hj
  have hjl : j < l.length := by
    have := (List.getElem?_eq_some_iff.1 hj).1
    simpa [u8s] using this
  rcases h with h | ⟨off, h, hc⟩
  · subst h; simp at hjl
  · cases h
    rw [u8s_get hjl] at hj
    obtain rfl := Option.some.inj hj
    rw [Addr.add_lit]
    exact hk.cell_some (hc j hjl) (by simp)
set_option maxHeartbeats 4000000 in
set_option maxRecDepth 100000 in
theorem concat_any (w : World) (x g1 g2 o1 o2 c1 c2 : Nat) (l1 l2 : List UInt8) (r1 : BytesIn w g1 (some ⟨g1, o1, none⟩) l1) (r2 : BytesIn w g2 (some ⟨g2, o2, none⟩) l2) (h1 : l1.length ≤ 400000) (h2 : l2.length ≤ 400000)
    (hx1 : w.cell? ⟨x, 0, none⟩ = some (.slice (some ⟨g1, o1, none⟩) l1.length c1)) (hx2 : w.cell? ⟨x, 1, none⟩ = some (.slice (some ⟨g2, o2, none⟩) l2.length c2)) :
    Calls Tryz.prog 64 #[.slice (some ⟨x, 0, none⟩) 2 2] w (ConcP w (l1 ++ l2)) := by
  have HR1 := Lib.hid r1
  have HR2 := Lib.hid r2
  have HX1 := Lib.hid hx1
  have HX2 := Lib.hid hx2
  obtain ⟨n1, hn1⟩ : ∃ n, n = l1.length := ⟨_, rfl⟩
  obtain ⟨n2, hn2⟩ : ∃ n, n = l2.length := ⟨_, rfl⟩
  rw [← hn1] at HX1 h1
  rw [← hn2] at HX2 h2
  have HN1 := Lib.hid hn1
  have HN2 := Lib.hid hn2
  clear r1 r2 hx1 hx2 hn1 hn2
  go_enter Tryz.func64, Tryz.ntmps64
  have e1 : IntKind.i64.wrap ((n1 : Int) + (n2 : Int)) = (n1 : Int) + (n2 : Int) := IntWalk.i64_in _ ⟨by omega, by omega⟩
  have q1 : decide ((n1 : Int) < 0) = false := by simp
  have q2 : decide ((n1 : Int) + (n2 : Int) < 0) = false := by simp; omega
  obtain ⟨iU, hU, hU0, hU1, hU2⟩ := info_parts infoU8
  go_wp2_with fail
  go_loop [3, 11] (fun sv iv => (iv = .int .i64 0 ∧ sv = .int .i64 0) ∨ (iv = .int .i64 1 ∧ sv = .int .i64 (n1 : Int)) ∨ (iv = .int .i64 2 ∧ sv = .int .i64 ((n1 : Int) + (n2 : Int)))) (fun _ iv => 2 - (RowKit.intOf iv).toNat)
  case atStart => exact .inl ⟨rfl, rfl⟩
  case round =>
    rcases hrel with ⟨rfl, rfl⟩ | ⟨rfl, rfl⟩ | ⟨rfl, rfl⟩
    · have y1 := HX1.out
      go_wp2_with fail
      go_round
      case rel => exact .inr (.inl ⟨rfl, rfl⟩)
      case measure => decide
    · have y2 := HX2.out
      go_wp2_with fail
      go_round
      case rel => exact .inr (.inr ⟨rfl, rfl⟩)
      case measure => decide
    · have HG := Lib.hid (grow_any w (n1 + n2) (by omega))
      have ec : (((n1 + n2 : Nat)) : Int) = (n1 : Int) + (n2 : Int) := by omega
      rw [ec] at HG
      go_wp2_with fail
      refine (HG.out).mono ?_
      rintro e w1 ⟨v, rfl, ho, hk⟩
      have HO := Lib.hid ho
      have HK := Lib.hid hk
      clear ho hk ec HG
      go_wp2_with fail
      go_loopw [6, 27] (fun vv iv wq => ((iv = .int .i64 0 ∧ wq.ownsRow w.heap.size 5 1 vv 0 []) ∨ (iv = .int .i64 1 ∧ wq.ownsRow w.heap.size 5 1 vv n1 (u8s l1)) ∨ (iv = .int .i64 2 ∧ wq.ownsRow w.heap.size 5 1 vv (n1 + n2) (u8s (l1 ++ l2)))) ∧ Keeps [] w wq) (fun _ iv _ => 2 - (RowKit.intOf iv).toNat)
      case atStart => exact ⟨.inl ⟨rfl, HO.out⟩, HK.out⟩
      case round =>
        obtain ⟨hrel, hkq⟩ := hrel
        have HKQ := Lib.hid hkq
        rcases hrel with ⟨rfl, ho⟩ | ⟨rfl, ho⟩ | ⟨rfl, ho⟩
        · have y1 := hkq.cell_some HX1.out (by simp)
          have HOQ := Lib.hid ho
          clear hkq ho
          go_wp2_with (at_builtin; refine wpList_append_own _ rfl _ _ 62 rfl w.heap.size 5 iU (.int .u8 0) 1 1 Tryz.underlying62 hU hU0 hU1 hU2 rfl (by decide) u6 0 [] rfl HOQ.out ⟨g1, o1, none⟩ n1 c1 (u8s l1) rfl (by rw [u8s_length, HN1.out]; omega) (bytes_cells HR1.out HKQ.out) (u8s_one l1) (by unfold maxLen; omega) (by omega) HKQ.out.size ?_)
          intro v' w' hown hgr _
          have HO2 := Lib.hid hown
          have HK2 := Lib.hid (show Keeps [] w w' from ((HKQ.out.mono (T := u6.ownBlock.toList) (by simp)).trans (Keeps.of_grown hgr) (fun _ h _ => h)).mono (fun i hi hl => by have := (HOQ.out.lt i (by simpa using hi)).1; omega))
          clear hown hgr
          go_wp2_with fail
          go_roundw
          case rel => exact ⟨.inr (.inl ⟨rfl, by simpa using HO2.out⟩), HK2.out⟩
          case measure => decide
        · have y2 := hkq.cell_some HX2.out (by simp)
          have HOQ := Lib.hid ho
          clear hkq ho
          go_wp2_with (at_builtin; refine wpList_append_own _ rfl _ _ 62 rfl w.heap.size 5 iU (.int .u8 0) 1 1 Tryz.underlying62 hU hU0 hU1 hU2 rfl (by decide) u6 n1 (u8s l1) rfl HOQ.out ⟨g2, o2, none⟩ n2 c2 (u8s l2) rfl (by rw [u8s_length, HN2.out]; omega) (bytes_cells HR2.out HKQ.out) (u8s_one l2) (by unfold maxLen; omega) (by omega) HKQ.out.size ?_)
          intro v' w' hown hgr _
          have HO2 := Lib.hid hown
          have HK2 := Lib.hid (show Keeps [] w w' from ((HKQ.out.mono (T := u6.ownBlock.toList) (by simp)).trans (Keeps.of_grown hgr) (fun _ h _ => h)).mono (fun i hi hl => by have := (HOQ.out.lt i (by simpa using hi)).1; omega))
          clear hown hgr
          go_wp2_with fail
          go_roundw
          case rel => exact ⟨.inr (.inr ⟨rfl, by rw [u8s_append]; exact HO2.out⟩), HK2.out⟩
          case measure => decide
        · have HOQ := Lib.hid ho
          clear hkq ho
          go_wp2_with fail
          go_ret
          have hlen : (l1 ++ l2).length = n1 + n2 := by rw [List.length_append, ← HN1.out, ← HN2.out]
          have ho := HOQ.out
          rw [← hlen] at ho
          rcases own_form ho with ⟨rfl, h0⟩ | ⟨g, cp, rfl, _⟩
          · have hnil : l1 ++ l2 = [] := List.eq_nil_of_length_eq_zero h0
            exact ⟨.slice none 0 0, 0, rfl, ⟨none, 0, by rw [h0], .inl hnil⟩, ho, HKQ.out⟩
          · exact ⟨.slice (some ⟨g, 0, none⟩) (l1 ++ l2).length cp, g, rfl, ⟨_, cp, rfl, BytesIn.of_own ho (.inr ⟨0, rfl⟩)⟩, ho, HKQ.out⟩
end Go.Proofs.YtbanpdeganlndaaGreatDoor
