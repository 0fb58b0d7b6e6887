/- split: the records of a body, each in memory of its own. -/
import Derived.Test.YtgjgnieobbhepaaDoorWReset
namespace Go.Proofs.YtgjgnieobbhepaaDoor
open Go.RowKit

/-- A row of records that was made since W blocks. -/
def RowsOwn (w : World) (W : Nat) (v : Value) (rs : List (List UInt8)) : Prop :=
  ∃ xs, w.ownsRow W 34 1 v rs.length xs ∧ ∀ j (h : j < rs.length), ∃ x, xs[j]? = some x ∧ ElV w (fun g => W ≤ g ∧ v.ownBlock ≠ some g) x rs[j]
theorem ElV.lt {w : World} {G : Nat → Prop} {v : Value} {l : List UInt8} (h : ElV w G v l) : ElV w (fun g => G g ∧ g < w.heap.size) v l := by
  obtain ⟨A, g, cap, hv, hb, h1, h2, h3⟩ := h
  refine ⟨A, g, cap, hv, hb, h1, h2, ?_⟩
  rcases h3 with h3 | h3
  · exact .inl h3
  · by_cases hl : l.length = 0
    · exact .inl (List.eq_nil_of_length_eq_zero hl)
    · exact .inr ⟨h3, hb.lt (by omega)⟩
theorem ElV.mono {w : World} {G G' : Nat → Prop} {v : Value} {l : List UInt8} (h : ElV w G v l) (hG : ∀ x, G x → G' x) : ElV w G' v l := by
  obtain ⟨A, g, cap, hv, hb, h1, h2, h3⟩ := h
  exact ⟨A, g, cap, hv, hb, h1, h2, h3.imp id (hG g)⟩
/-- A store, an append into row r. -/
theorem ElV.grown {w w' : World} {G G' : Nat → Prop} {v : Value} {l : List UInt8} {row : Option Nat} (h : ElV w G v l) (hg : w.grownBy w' row) (hr : ∀ x, G x → row ≠ some x) (hG : ∀ x, G x → G' x) : ElV w' G' v l := by
  refine h.keep (Keeps.of_grown hg) (fun x hx hGx => ?_) hG
  cases row with
  | none => simp at hx
  | some r => 
    have : x = r := by simpa using hx
    exact hr x hGx (by rw [this])
theorem RowsOwn.nil (w : World) (W : Nat) : RowsOwn w W (.slice none 0 0) [] := ⟨[], World.ownsRow_nil w W _ 1, fun j h => by simp at h⟩
theorem RowsOwn.keep {S : List Nat} {w w' : World} {W : Nat} {v : Value} {rs : List (List UInt8)} (h : RowsOwn w W v rs) (hk : Keeps S w w') (hS : ∀ x ∈ S, x < W ∨ w.heap.size ≤ x) : RowsOwn w' W v rs := by
  obtain ⟨xs, ho, he⟩ := h
  refine ⟨xs, owned_keep ho hk (fun g hg hm => ?_), fun j hj => ?_⟩
  · have := ho.lt g hg
    have := hS g hm
    omega
  · obtain ⟨x, h1, h2⟩ := he j hj
    refine ⟨x, h1, (h2.lt.keep hk (fun y hy hG => ?_) (fun y hy => hy.1))⟩
    have := hS y hy
    have := hG.1.1
    have := hG.2
    omega
theorem RowsOwn.more {w w' : World} {W : Nat} {v v' : Value} {rs ns : List (List UInt8)} {xs ys : List Value} (ho : w.ownsRow W 34 1 v rs.length xs) (he : ∀ j (h : j < rs.length), ∃ x, xs[j]? = some x ∧ ElV w (fun g => W ≤ g ∧ v.ownBlock ≠ some g) x rs[j])
    (hn : ∀ j (h : j < ns.length), ∃ x, ys[j]? = some x ∧ ElV w (fun g => W ≤ g ∧ v.ownBlock ≠ some g) x ns[j]) (ho' : w'.ownsRow W 34 1 v' (rs.length + ns.length) (xs ++ ys)) (hg : w.grownBy w' v.ownBlock) (hat : v'.ownBlock = v.ownBlock ∨ v'.ownBlock = some w.heap.size) : RowsOwn w' W v' (rs ++ ns) := by
  have hxl : xs.length = rs.length := by simpa using ho.1
  have step : ∀ {x : Value} {l : List UInt8}, ElV w (fun g => W ≤ g ∧ v.ownBlock ≠ some g) x l → ElV w' (fun g => W ≤ g ∧ v'.ownBlock ≠ some g) x l := fun h => by
    refine h.lt.grown hg (fun y hy => hy.1.2) (fun y hy => ⟨hy.1.1, ?_⟩)
    rcases hat with e | e
    · rw [e]; exact hy.1.2
    · rw [e]; intro e2; have : w.heap.size = y := by simpa using e2
      have := hy.2; omega
  refine ⟨xs ++ ys, by rw [List.length_append]; exact ho', fun j hj => ?_⟩
  by_cases hl : j < rs.length
  · obtain ⟨x, h1, h2⟩ := he j hl
    refine ⟨x, by rw [List.getElem?_append_left (by omega)]; exact h1, ?_⟩
    rw [List.getElem_append_left hl]; exact step h2
  · have hj' : j - rs.length < ns.length := by rw [List.length_append] at hj; omega
    obtain ⟨x, h1, h2⟩ := hn (j - rs.length) hj'
    refine ⟨x, by rw [List.getElem?_append_right (by omega), hxl]; exact h1, ?_⟩
    rw [List.getElem_append_right (by omega)]; exact step h2
/-- As a row that comes in. -/
theorem RowsOwn.form {w : World} {W : Nat} {v : Value} {rs : List (List UInt8)} (h : RowsOwn w W v rs) : ∃ A cap, v = .slice A rs.length cap ∧ (A = none → rs = []) ∧ RowsIn w (fun g => W ≤ g) A rs ∧ rs.length ≤ maxLen := by
  obtain ⟨xs, ho, he⟩ := h
  rcases ho.2 with ⟨hv, h0⟩ | ⟨g, cap, cur, hv, hb, hg, hn, hm, _⟩
  · have hr : rs = [] := List.eq_nil_of_length_eq_zero h0
    exact ⟨none, 0, by rw [hv, h0], fun _ => hr, .inl hr, by omega⟩
  · refine ⟨some ⟨g, 0, none⟩, cap, hv, (fun e => by cases e), .inr ⟨g, 0, rfl, hb, fun j hj => ?_⟩, by omega⟩
    obtain ⟨x, h1, h2⟩ := he j hj
    have := ho.cells (g := g) (by rw [hv]; rfl) j x h1
    rw [Addr.add_lit] at this
    exact ⟨x, this, h2.mono (fun y hy => hy.1)⟩
def SplitP (w : World) (R : Option (List (List UInt8))) (e : Ending) (w' : World) : Prop :=
  match R with
  | some rs => ∃ v, e = .returned v ∧ RowsOwn w' w.heap.size v rs ∧ Keeps [] w w'
  | none => e = .panicked stopped ∧ Keeps [] w w'
theorem splitP_none {w w' : World} {R : Option (List (List UInt8))} (h : R = none) (hk : Keeps [] w w') : SplitP w R (.panicked stopped) w' := by subst h; exact ⟨rfl, hk⟩
theorem splitP_some {w w' : World} {R : Option (List (List UInt8))} {rs : List (List UInt8)} {v : Value} (h : R = some rs) (hr : RowsOwn w' w.heap.size v rs) (hk : Keeps [] w w') : SplitP w R (.returned v) w' := by subst h; exact ⟨v, rfl, hr, hk⟩
def sliceLen : Value → Nat
  | .slice _ n _ => n
  | _ => 0
theorem infoSl : (Tryd.prog.info? 34).map (fun i => (i.zero, i.size, i.bytes)) = some (some (.slice none 0 0), 1, 24) := by kernel_rfl
set_option maxRecDepth 100000 in
set_option maxHeartbeats 2000000 in
theorem split_any (w : World) (g cap : Nat) (A : Option Addr) (l : List UInt8) (hr : BytesIn w g A l) (hcap : l.length ≤ cap) (hcm : cap ≤ maxLen) (hl : l.length ≤ 1073741824) :
    Calls Tryd.prog 70 #[.slice A l.length cap] w (SplitP w (L.split l)) := by
  obtain ⟨iS, hS, hS0, hS1, hS2⟩ := info_parts infoSl
  obtain ⟨R, hR⟩ : ∃ R, R = L.split l := ⟨_, rfl⟩
  rw [← hR]
  have HR := Lib.hid hR
  have HB := Lib.hid hr
  unfold maxLen at hcm
  clear hR hr
  go_enter Tryd.func70, Tryd.ntmps70
  go_wp2
  go_loopw [0, 2] (fun bv rv wr => ∃ A' l' cap' done Ar cr, bv = .slice A' l'.length cap' ∧ rv = .slice Ar done.length cr ∧ BytesIn wr g A' l' ∧ l'.length ≤ cap' ∧ cap' ≤ 9223372036854775807 ∧ l'.length ≤ l.length ∧ done.length + l'.length ≤ l.length ∧ RowsOwn wr w.heap.size rv done ∧ Keeps [] w wr ∧ R = (L.split l').map (done ++ ·)) (fun bv _ _ => sliceLen bv)
  case atStart => exact ⟨A, l, cap, [], none, 0, rfl, rfl, HB.out, hcap, by simpa using hcm, Nat.le_refl _, by simp, RowsOwn.nil _ _, Keeps.refl _ _, by rw [HR.out]; simp⟩
  case round =>
    obtain ⟨A', l', cap', done, Ar, cr, rfl, rfl, hb, hc, hm, hll, hdl, ho, hk, hRR⟩ := hrel
    have HBB := Lib.hid hb
    have HO := Lib.hid ho
    have HK := Lib.hid hk
    have HRR := Lib.hid hRR
    clear hb ho hk hRR
    obtain ⟨n', hn'⟩ : ∃ n', n' = l'.length := ⟨_, rfl⟩
    have HN := Lib.hid hn'
    rw [← hn'] at hc hll hdl ⊢
    clear hn'
    by_cases h0 : 0 < n'
    · by_cases h4 : 4 ≤ n'
      · have HD := Lib.hid (L.de32_lt l')
        obtain ⟨n, hn⟩ : ∃ n, n = L.de32 l' := ⟨_, rfl⟩
        have hnl : n < 4294967296 := by rw [hn]; exact HD.out
        have HNUM := Lib.hid (by
          have := number_any wr g cap' A' l' HBB.out (by have := HN.out; omega)
          rw [← hn, ← HN.out] at this
          exact this)
        obtain ⟨A4, hS4, hB4⟩ := slice_low_k (A := A') (n := n') (cap := cap') (k := 4) .i64 h4 hc
        have hS4' : ∀ w, (Instr.slice 34 (.slice A' n' cap') (some (.int .i64 4)) none none).run Tryd.prog w = .ok (.slice A4 (n' - 4) (cap' - 4)) w := hS4
        have HB4 := Lib.hid (hB4 wr g l' HN.out.symm HBB.out)
        have HDN := Lib.hid hn
        have h4i : (4 : Int) ≤ (n' : Int) := by omega
        have d4 : decide (4 ≤ n') = true := by simpa using h4
        clear hS4 hB4 hn
        by_cases hfit : n ≤ n' - 4
        · obtain ⟨A5, hS5, hB5⟩ := slice_high_k (A := A4) (n := n' - 4) (cap := cap' - 4) (k := n) .i64 hfit (by omega)
          obtain ⟨A6, hS6, hB6⟩ := slice_low_k (A := A4) (n := n' - 4) (cap := cap' - 4) (k := n) .i64 hfit (by omega)
          have HL4 := Lib.hid (show (l'.drop 4).length = n' - 4 by rw [List.length_drop, HN.out])
          have HB5 := Lib.hid (hB5 wr g (l'.drop 4) HL4.out HB4.out)
          have HB6 := Lib.hid (fun w' (hk : Keeps [] wr w') => hB6 w' g (l'.drop 4) HL4.out (HB4.out.keep hk (by simp)))
          have HL5 := Lib.hid (show ((l'.drop 4).take n).length = n by rw [List.length_take, HL4.out]; omega)
          have HCL := Lib.hid (clone_any wr g A5 ((l'.drop 4).take n) (cap' - 4) HB5.out (by rw [HL5.out]; omega))
          rw [HL5.out] at HCL
          have HNX := Lib.hid (show R = (L.split ((l'.drop 4).drop n)).map ((done ++ [(l'.drop 4).take n]) ++ ·) by
            rw [HRR.out, L.split_next (by rw [← HN.out]; exact h4) (by rw [← HDN.out, ← HN.out]; omega), ← HDN.out, Option.map_map]
            congr 1
            funext z
            simp)
          have d5 : decide (n ≤ n' - 4) = true := by simpa using hfit
          clear hB5 hB6
          go_wp2_with fail
          refine (need_yes wr).mono ?_
          rintro e w' ⟨rfl, rfl⟩
          go_wp2_with fail
          refine HNUM.out.mono ?_
          rintro e w' ⟨rfl, rfl⟩
          go_wp2_with fail
          refine (need_yes wr).mono ?_
          rintro e w' ⟨rfl, rfl⟩
          go_wp2_with fail
          refine HCL.out.mono ?_
          rintro e w2 ⟨Ac, cc, gc, rfl, hbc, hgc, hcc1, hcc2, _, hkc⟩
          rw [HL5.out] at hcc1 ⊢
          have HBC := Lib.hid hbc
          have HKC := Lib.hid hkc
          have hs2 := hkc.size
          have hs1 := HK.out.size
          have ho2 := HO.out.keep hkc (by simp)
          obtain ⟨xs, hxo, hxe⟩ := ho2
          have HXO := Lib.hid hxo
          have HXE := Lib.hid hxe
          have HEL := Lib.hid (show ElV w2 (fun y => w.heap.size ≤ y ∧ (Value.slice Ar done.length cr).ownBlock ≠ some y) (.slice Ac n cc) ((l'.drop 4).take n) from ⟨Ac, gc, cc, by rw [HL5.out], hbc, by rw [HL5.out]; exact hcc1, hcc2, .inr ⟨by omega, fun e => by
            obtain ⟨xs0, h0o, _⟩ := HO.out
            have := h0o.lt gc e
            omega⟩⟩)
          clear hbc hkc hxo hxe
          go_wp2_with (at_builtin; refine wpList_append_own_at _ rfl _ _ 28 rfl w.heap.size 34 iS (.slice none 0 0) 1 24 Tryd.underlying28 hS hS0 hS1 hS2 rfl (by decide) (.slice Ar done.length cr) done.length xs rfl (HXO.out.alloc _) ⟨w2.heap.size, 0, none⟩ 1 1 [.slice Ac n cc] rfl rfl ?d1 ?d2 ?d3 ?d4 ?d5 ?_)
          case d1 =>
            intro j u hj
            match j, hj with
            | 0, hj => 
              simp at hj
              subst hj
              rw [Addr.add_lit, row_cell (heap_alloc_new w2 _)]; rfl
            | j + 1, hj => simp at hj
          case d2 => intro u hu; simp at hu; rw [hu]; rfl
          case d3 => unfold maxLen; omega
          case d4 => omega
          case d5 => simp; omega
          intro v3 w3 ho3 hg3 _ hat3
          have HO3 := Lib.hid (show RowsOwn w3 w.heap.size v3 (done ++ [(l'.drop 4).take n]) by
            refine RowsOwn.more (w := w2.alloc (.cells #[.slice Ac n cc] 34)) (xs := xs) (ys := [.slice Ac n cc]) (by simpa using HXO.out.alloc _) (fun j hj => ?_) (fun j hj => ?_) (by simpa using ho3) hg3 (by simpa using hat3)
            · obtain ⟨x, q1, q2⟩ := HXE.out j hj
              exact ⟨x, q1, q2.keep ((Keeps.refl [] _).alloc _) (by simp) (fun _ h => h)⟩
            · match j, hj with
              | 0, _ => exact ⟨_, rfl, HEL.out.keep ((Keeps.refl [] _).alloc _) (by simp) (fun _ h => h)⟩)
          have HK3 := Lib.hid (show Keeps [] w w3 from ((HK.out.trans HKC.out (by simp)).alloc _).trans (Keeps.of_grown hg3) (fun i hi hl => by
            have h9 : (Value.slice Ar done.length cr).ownBlock = some i := by
              cases hob : (Value.slice Ar done.length cr).ownBlock with
              | none => rw [hob] at hi; simp at hi
              | some r => rw [hob] at hi; simp at hi; rw [hi]
            have := HXO.out.lt i h9
            omega))
          have hk23 : Keeps [] w2 w2 := Keeps.refl _ _
          have HB63 := Lib.hid (show BytesIn w3 g A6 ((l'.drop 4).drop n) by
            have hk3 : Keeps (Value.slice Ar done.length cr).ownBlock.toList w2 w3 := (((Keeps.refl [] w2).alloc (.cells #[.slice Ac n cc] 34)).mono (T := (Value.slice Ar done.length cr).ownBlock.toList) (by simp)).trans (Keeps.of_grown hg3) (fun _ h _ => h)
            have hb0 := HB6.out w2 HKC.out
            by_cases hl0 : ((l'.drop 4).drop n).length = 0
            · exact .inl (List.eq_nil_of_length_eq_zero hl0)
            · refine hb0.keep hk3 (fun hm => ?_)
              have h9 : (Value.slice Ar done.length cr).ownBlock = some g := by
                cases hob : (Value.slice Ar done.length cr).ownBlock with
                | none => rw [hob] at hm; simp at hm
                | some r => rw [hob] at hm; simp at hm; rw [hm]
              have h8 := HXO.out.lt g h9
              have h7 := HB.out.lt (by omega)
              omega)
          obtain ⟨Ar3, cr3, hv3, _, _, _⟩ := HO3.out.form
          subst hv3
          have HRE := Lib.hid (show n' - 4 - n = ((l'.drop 4).drop n).length by rw [List.length_drop, HL4.out])
          clear ho3 hg3 hat3
          go_wp2_with fail
          go_roundw
          case rel => exact ⟨A6, (l'.drop 4).drop n, cap' - 4 - n, done ++ [(l'.drop 4).take n], Ar3, cr3, by rw [HRE.out], rfl, HB63.out, by have := HRE.out; omega, by omega, by have := HRE.out; omega, by have := HRE.out; simp only [List.length_append, List.length_singleton]; omega, HO3.out, HK3.out, HNX.out⟩
          case measure => have := HRE.out; simp [sliceLen]; omega
        · have HNX := Lib.hid (show R = none by
            rw [HRR.out, L.split_cut (by rw [← HN.out]; exact h4) (by rw [← HDN.out, ← HN.out]; omega)]; rfl)
          have d5 : decide (n ≤ n' - 4) = false := by simpa using hfit
          go_wp2_with fail
          refine (need_yes wr).mono ?_
          rintro e w' ⟨rfl, rfl⟩
          go_wp2_with fail
          refine HNUM.out.mono ?_
          rintro e w' ⟨rfl, rfl⟩
          go_wp2_with fail
          refine (need_no wr).mono ?_
          rintro e w' ⟨rfl, rfl⟩
          go_wp2
          exact ⟨rfl, splitP_none HNX.out HK.out⟩
      · have HNX := Lib.hid (show R = none by
          rw [HRR.out, L.split_short (by intro e; have := HN.out; rw [e] at this; simp at this; omega) (by rw [← HN.out]; omega)]; rfl)
        have d4 : decide (4 ≤ n') = false := by simpa using h4
        have d4i : decide ((4 : Int) ≤ (n' : Int)) = false := by simp; omega
        go_wp2_with fail
        refine (need_no wr).mono ?_
        rintro e w' ⟨rfl, rfl⟩
        go_wp2
        exact ⟨rfl, splitP_none HNX.out HK.out⟩
    · have HNX := Lib.hid (show R = some done by
        have : l' = [] := List.eq_nil_of_length_eq_zero (by have := HN.out; omega)
        rw [HRR.out, this, L.split_nil]; simp)
      go_wp2_with fail
      go_ret
      exact splitP_some HNX.out HO.out HK.out
end Go.Proofs.YtgjgnieobbhepaaDoor
