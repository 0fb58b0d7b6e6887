/- known: two records that are there again. -/
import Derived.Test.YtgjgnieobbhepaaDoorWLawB
import Derived.Test.YtgjgnieobbhepaaDoorDNew
import Derived.Test.YtgjgnieobbhepaaDoorDCrash
import Derived.Lib.SlBytesConst
namespace Go.Proofs.YtgjgnieobbhepaaDoor
open Go.RowKit
open Reg (Is Fact CB)

def newD (n s : Nat) : Dk := Dk.new n s
theorem newD_any (w : World) (n s : Nat) (hn : 1 ≤ n ∧ n ≤ 4096) (hs : 64 ≤ s ∧ s ≤ 4096) : Calls Tryd.prog 12 #[.int .i64 (n : Int), .int .i64 (s : Int)] w (NewP w (newD n s)) := new_any w n s hn hs
/-- What Open yields of a new disk. -/
def FirstP (w : World) (h : DH) (B : Nat → Prop) (n s : Nat) (e : Ending) (w' : World) : Prop :=
  ∃ lp A c d', e = .returned (.tuple #[.pointer (some ⟨lp, 0, none⟩), .slice A 0 c, .int .i64 0]) ∧ d'.dur.length = n ∧ d'.size = s ∧ Lit_ d' ∧ Live w' h B lp d' ⟨0, 0, 0, false⟩ [] ∧ w.heap.size ≤ lp ∧ Keeps h.l w w'
theorem open_first {w : World} {h : DH} {B : Nat → Prop} {n s : Nat} (x : DskAt w h B (newD n s)) (ht : TabAt w) (hh0 : 0 ∉ h.l) (hn : 16 ≤ n ∧ n ≤ 4096) (hs : 128 ≤ s ∧ s ≤ 4096) :
    Calls Tryd.prog 13 #[.pointer (some ⟨h.p, 0, none⟩)] w (FirstP w h B n s) := by
  obtain ⟨e1, e2, hl⟩ := new_loads n s hs (by omega)
  have e1' : (newD n s).dur.length = n := e1
  have e2' : (newD n s).size = s := e2
  refine (open_go x ht hh0 (new_lit _ _).power (by rw [e1']; omega) (by rw [e2']; omega) (by rw [e1', e2']; exact hl)).mono ?_
  rintro e w2 ⟨lp, v, d2, rfl, hF, hd, _, hL, hR, hlp, hk⟩
  obtain ⟨A, c, rfl, _⟩ := hR.form
  exact ⟨lp, A, c, d2, rfl, by rw [hF.len, e1'], by rw [hF.size, e2'], ⟨hd, hF.cut⟩, hL, hlp, hk⟩
theorem row_elem {w : World} {g : Nat} {l : List UInt8} (h : U8At w g l) (hm : l.length ≤ maxLen) : ElV w (fun _ => True) (.slice (some ⟨g, 0, none⟩) l.length l.length) l := ⟨_, g, _, rfl, h.bytes, Nat.le_refl _, hm, .inr trivial⟩
theorem commit_two {w : World} {h : DH} {B : Nat → Prop} {lp : Nat} {d : Dk} {g : Lg} (x : Live w h B lp d g []) (hd : Lit_ d) (ht : TabAt w) (c : Nat) (t1 t2 t3 : TypeId) :
    Calls Tryd.prog 19 #[.pointer (some ⟨lp, 0, none⟩), .slice (some ⟨w.heap.size + 2, 0, none⟩) 2 c] (((w.alloc (.cells #[.int .u8 97] t1 (1, 2))).alloc (.cells #[.int .u8 98, .int .u8 99] t2 (2, 3))).alloc (.cells #[.slice (some ⟨w.heap.size, 0, none⟩) 1 1, .slice (some ⟨w.heap.size + 1, 0, none⟩) 2 2] t3))
      (CommitP (((w.alloc (.cells #[.int .u8 97] t1 (1, 2))).alloc (.cells #[.int .u8 98, .int .u8 99] t2 (2, 3))).alloc (.cells #[.slice (some ⟨w.heap.size, 0, none⟩) 1 1, .slice (some ⟨w.heap.size + 1, 0, none⟩) 2 2] t3)) h B lp d g [] [[97], [98, 99]]) := by
  have hk : Keeps [] w (((w.alloc (.cells #[.int .u8 97] t1 (1, 2))).alloc (.cells #[.int .u8 98, .int .u8 99] t2 (2, 3))).alloc (.cells #[.slice (some ⟨w.heap.size, 0, none⟩) 1 1, .slice (some ⟨w.heap.size + 1, 0, none⟩) 2 2] t3)) := (((Keeps.refl _ _).alloc _).alloc _).alloc _
  have k1 : Keeps [] (w.alloc (.cells #[.int .u8 97] t1 (1, 2))) (((w.alloc (.cells #[.int .u8 97] t1 (1, 2))).alloc (.cells #[.int .u8 98, .int .u8 99] t2 (2, 3))).alloc (.cells #[.slice (some ⟨w.heap.size, 0, none⟩) 1 1, .slice (some ⟨w.heap.size + 1, 0, none⟩) 2 2] t3)) := ((Keeps.refl _ _).alloc _).alloc _
  have k2 : Keeps [] ((w.alloc (.cells #[.int .u8 97] t1 (1, 2))).alloc (.cells #[.int .u8 98, .int .u8 99] t2 (2, 3))) (((w.alloc (.cells #[.int .u8 97] t1 (1, 2))).alloc (.cells #[.int .u8 98, .int .u8 99] t2 (2, 3))).alloc (.cells #[.slice (some ⟨w.heap.size, 0, none⟩) 1 1, .slice (some ⟨w.heap.size + 1, 0, none⟩) 2 2] t3)) := (Keeps.refl _ _).alloc _
  have s1 : (w.alloc (.cells #[.int .u8 97] t1 (1, 2))).heap.size = w.heap.size + 1 := by simp
  have s2 : ((w.alloc (.cells #[.int .u8 97] t1 (1, 2))).alloc (.cells #[.int .u8 98, .int .u8 99] t2 (2, 3))).heap.size = w.heap.size + 2 := by simp
  have b1 : BytesIn (w.alloc (.cells #[.int .u8 97] t1 (1, 2))) w.heap.size (some ⟨w.heap.size, 0, none⟩) [97] := .inr ⟨0, rfl, fun k hk => by
    rw [cell_of_row _ _ _ _ _ _ (heap_alloc_new w _)]
    match k, hk with
    | 0, _ => rfl⟩
  have b2 : BytesIn ((w.alloc (.cells #[.int .u8 97] t1 (1, 2))).alloc (.cells #[.int .u8 98, .int .u8 99] t2 (2, 3))) (w.heap.size + 1) (some ⟨w.heap.size + 1, 0, none⟩) [98, 99] := .inr ⟨0, rfl, fun k hk => by
    rw [← s1, cell_of_row _ _ _ _ _ _ (heap_alloc_new (w.alloc (.cells #[.int .u8 97] t1 (1, 2))) _)]
    match k, hk with
    | 0, _ => rfl
    | 1, _ => rfl⟩
  have hm : 2 ≤ maxLen := by simp [maxLen]
  refine commit_go (ls := [[97], [98, 99]]) (G := fun _ => True) c (x.keep0 hk) hd (ht.keep hk (by simp)) (.inr ⟨w.heap.size + 2, 0, rfl, trivial, fun j hj => ?_⟩) (by simp [L.body_cons_len]; decide) (by simp)
  rw [← s2, cell_of_row _ _ _ _ _ _ (heap_alloc_new ((w.alloc (.cells #[.int .u8 97] t1 (1, 2))).alloc (.cells #[.int .u8 98, .int .u8 99] t2 (2, 3))) _)]
  match j, hj with
  | 0, _ => exact ⟨_, rfl, _, w.heap.size, 1, rfl, b1.keep k1 (by simp), Nat.le_refl _, Nat.le_trans (by omega) hm, .inr trivial⟩
  | 1, _ => exact ⟨_, rfl, _, w.heap.size + 1, 2, rfl, b2.keep k2 (by simp), Nat.le_refl _, hm, .inr trivial⟩
/-- A log whose disk was opened once more. -/
theorem Live.again {w w' : World} {h : DH} {B : Nat → Prop} {lp : Nat} {d d' : Dk} {g : Lg} {rs : List (List UInt8)} (x : Live w h B lp d g rs) (hk : Keeps h.l w w') (hx : DskAt w' h B d') (F : L.Flat d d') (hl : ∀ i, d'.last i = d.last i) : Live w' h B lp d' g rs := by
  have hn := x.log.ne x.disk
  have e : d.last = d'.last := funext fun i => (hl i).symm
  refine ⟨hx, x.log.keep hk hn.2.2.2, x.sep, F.ok, by rw [F.len]; exact x.good.secs, by rw [F.size]; exact x.good.size, F.fr, ?_, ?_, x.good.count⟩
  · rw [F.len, F.size, ← e]; exact x.good.loads
  · rw [F.len, F.size, ← e]; exact x.good.sure
theorem open_live {w : World} {h : DH} {B : Nat → Prop} {lp : Nat} {d : Dk} {g : Lg} {rs : List (List UInt8)} (x : Live w h B lp d g rs) (hd : Lit_ d) (ht : TabAt w) (hh0 : 0 ∉ h.l) :
    Calls Tryd.prog 13 #[.pointer (some ⟨h.p, 0, none⟩)] w (OpenedP w h B d g.area g.used rs) :=
  open_go x.disk ht hh0 hd.power x.good.secs x.good.size x.good.loads
theorem run_big (w : World) (s : Nat) (hs : s ≤ 4000000) : ∃ w', (Instr.makeSlice 34 (.int .i64 (s : Int)) (.int .i64 (s : Int))).run Tryd.prog w = .ok (.slice (some ⟨w.heap.size, 0, none⟩) s s) w' ∧ ∃ l : List UInt8, l.length = s ∧ U8At w' w.heap.size l ∧ Keeps [] w w' := by
  obtain ⟨iU, hU, hU0, hU1, hU2⟩ := info_parts infoU8
  obtain ⟨w', hrun, ho, hg⟩ := run_make_full (P := Tryd.prog) w w.heap.size 34 5 iU (.int .u8 0) 1 Tryd.underlying34 hU hU0 hU1 .i64 .i64 s (by rw [hU2]; omega) (by unfold maxLen; omega) (Nat.le_refl _)
  exact ⟨w', hrun, _, List.length_replicate, made_row (by rw [Nat.mul_one] at ho; exact ho), (Keeps.of_grown hg).mono (by simp)⟩
theorem fit_two : fitErr (L.cap 60 - 0) 256 [[97], [98, 99]] = 0 := by decide
theorem commit_big {w : World} {h : DH} {B : Nat → Prop} {lp : Nat} {d : Dk} {g : Lg} {rs : List (List UInt8)} {l : List UInt8} {gb n : Nat} (x : Live w h B lp d g rs) (hd : Lit_ d) (ht : TabAt w) (hc : rs.length ≤ 1000) (c : Nat) (t : TypeId) (hl : l.length = n) (hn : n ≤ 4000000) (hu : U8At w gb l) :
    Calls Tryd.prog 19 #[.pointer (some ⟨lp, 0, none⟩), .slice (some ⟨w.heap.size, 0, none⟩) 1 c] (w.alloc (.cells #[.slice (some ⟨gb, 0, none⟩) n n] t))
      (CommitP (w.alloc (.cells #[.slice (some ⟨gb, 0, none⟩) n n] t)) h B lp d g rs [l]) := by
  have hk : Keeps [] w (w.alloc (.cells #[.slice (some ⟨gb, 0, none⟩) n n] t)) := (Keeps.refl _ _).alloc _
  have hm : n ≤ maxLen := by unfold maxLen; omega
  refine commit_go (ls := [l]) (G := fun _ => True) c (x.keep0 hk) hd (ht.keep hk (by simp)) (.inr ⟨w.heap.size, 0, rfl, trivial, fun j hj => ?_⟩) (by rw [L.body_cons_len]; simp [L.body]; omega) (by omega)
  match j, hj with
  | 0, _ =>
    rw [row_cell (heap_alloc_new w _)]
    refine ⟨_, rfl, ?_⟩
    subst hl
    exact row_elem (hu.keep hk (by simp)) hm
set_option maxRecDepth 100000 in
set_option maxHeartbeats 4000000 in
theorem known_any (w : World) (ht : TabAt w) (hw : 0 < w.heap.size) :
    Calls Tryd.prog 10 #[] w fun e w' => e = .returned (.bool true) ∧ Keeps [] w w' := by
  have kc := fun (w : World) (C : Array Value) (n c : Nat) => Lib.run_convert_bytes_const (P := Tryd.prog) w 34 5 C n c Tryd.underlying34 Tryd.underlying5
  have kc2 : ∀ (w : World) (o : Obj) (C : Array Value) (n c : Nat), (convert 34 34 (.slice (some ⟨w.heap.size + 1, 0, none⟩) n c)).run Tryd.prog ((w.alloc o).alloc (.cells C 5)) = .ok (.slice (some ⟨w.heap.size + 1, 0, none⟩) n c) ((w.alloc o).alloc (.cells C 5 (C.size, C.size + 1))) := by
    intro w o C n c
    have := kc (w.alloc o) C n c
    simpa using this
  have HT := Lib.hid ht
  have HN1 := Lib.hid (newD_any w 60 256 (by omega) (by omega))
  clear ht
  go_enter Tryd.func10, Tryd.ntmps10
  go_wp2_with fail
  refine HN1.out.mono ?_
  rintro e w1 ⟨h, B, rfl, hx, hh, hB, hk1⟩
  have HO := Lib.hid (open_first hx (HT.out.keep hk1 (by simp)) (fun hm => by have := hh 0 hm; omega) (by omega) (by omega))
  have HK1 := Lib.hid hk1
  have HH := Lib.hid hh
  clear hx hB hk1 hh
  go_wp2_with fail
  refine HO.out.mono ?_
  rintro e w2 ⟨lp, A, c, d2, rfl, hn2, hs2, hd2, hL, hlp, hk2⟩
  have HN2 := Lib.hid hn2
  have HS2 := Lib.hid hs2
  have HD2 := Lib.hid hd2
  have HL2 := Lib.hid hL
  have HK2 := Lib.hid hk2
  have HLP := Lib.hid hlp
  clear hn2 hs2 hd2 hL hk2 hlp
  go_wp2_with fail
  refine (commit_two HL2.out HD2.out ((HT.out.keep HK1.out (by simp)).keep HK2.out (fun hm => by have := HH.out 0 hm; omega)) _ _ _ _).mono ?_
  rintro e w3 ⟨n, B', rfl, hk3, hB3, hor⟩
  rcases hor with ⟨hne, _⟩ | ⟨_, rfl, d3, hF3, hd3, hL3⟩
  · exact absurd (by rw [HN2.out, HS2.out]; exact fit_two) hne
  obtain ⟨g3, hg3⟩ : ∃ g3 : Lg, g3 = ⟨(⟨0, 0, 0, false⟩ : Lg).area, (⟨0, 0, 0, false⟩ : Lg).used + L.nsec [[97], [98, 99]] d2.size, ([] ++ [[97], [98, 99]] : List (List UInt8)).length, true⟩ := ⟨_, rfl⟩
  rw [← hg3] at hL3
  have HK23 := Lib.hid (show Keeps (lp :: h.l) w2 w3 from (((((Keeps.refl [] w2).alloc _).alloc _).alloc _).mono (T := lp :: h.l) (by simp)).trans hk3 (fun _ h _ => h))
  have HK03 := Lib.hid (show Keeps [] w w3 from ((HK1.out.mono (T := lp :: h.l) (by simp)).trans (HK2.out.mono (T := lp :: h.l) (fun _ h _ => by simp [h])) (fun _ h _ => h)).trans HK23.out (fun _ h _ => h) |>.mono (fun i hi hlt => by
    rcases List.mem_cons.1 hi with rfl | hi
    · have := HLP.out; have := HK1.out.size; omega
    · have := HH.out i hi; omega))
  have HL3 := Lib.hid hL3
  have HD3 := Lib.hid hd3
  have HF3 := Lib.hid hF3
  have HC3 : Hid (Calls Tryd.prog 20 #[.pointer (some ⟨lp, 0, none⟩)] w3 fun e w' => e = .returned (.int .i64 2) ∧ w3 = w') := Lib.hid (by
    have := count_any w3 h lp g3 hL3.log
    rw [hg3] at this
    exact this)
  have HH0 := Lib.hid (show 0 ∉ h.l from fun hm => by have := HH.out 0 hm; omega)
  have HO3 := Lib.hid (open_live hL3 hd3 (HT.out.keep HK03.out (by simp)) HH0.out)
  clear hL3 hd3 hF3 hk3 hB3 hg3
  go_wp2_with fail
  refine HC3.out.mono ?_
  rintro e w' ⟨rfl, rfl⟩
  go_wp2_with fail
  refine HO3.out.mono ?_
  rintro e w4 ⟨lp4, v4, d4, rfl, hF4, hd4, hlast4, hL4, hR4, hlp4, hk4⟩
  obtain ⟨A4, c4, rfl, _, hrows, _⟩ := hR4.form
  have HL4 := Lib.hid (HL3.out.again hk4 hL4.disk hF4 hlast4)
  have HD4 := Lib.hid (show Lit_ d4 from ⟨hd4, by rw [hF4.cut]; exact HD3.out.2⟩)
  have HK4 := Lib.hid hk4
  have HS4 := Lib.hid hk4.size
  have HF4 := Lib.hid hF4
  have HR4 := Lib.hid hrows
  have HN5 := Lib.hid (newD_any w4 9 256 (by omega) (by omega))
  clear hF4 hd4 hlast4 hL4 hR4 hlp4 hk4 hrows
  go_wp2_with fail
  refine HN5.out.mono ?_
  rintro e w5 ⟨h5, B5, rfl, hx5, hh5, hB5, hk5⟩
  have HK5 := Lib.hid hk5
  have HK05 := Lib.hid (show Keeps [] w w5 from ((HK03.out.mono (T := h.l) (by simp)).trans HK4.out (fun _ h _ => h) |>.mono (fun i hi hlt => by have := HH.out i hi; omega)).trans hk5 (fun _ h _ => h))
  have HO5 := Lib.hid (open_any w5 h5 B5 (newD 9 256) hx5 (HT.out.keep HK05.out (by simp)) hx5.low (fun hm => by have := hh5 0 hm; have := HK03.out.size; have := HS4.out; omega))
  clear hx5 hh5 hB5 hk5
  go_wp2_with fail
  refine HO5.out.mono ?_
  intro e w' ho
  have hsmall : (newD 9 256).dur.length < 16 ∨ (newD 9 256).size < 128 := .inl (by decide)
  unfold OpenP at ho
  rw [if_pos hsmall] at ho
  obtain ⟨rfl, rfl⟩ := ho
  clear hsmall
  rcases HR4.out.keep HK5.out (by simp) (fun _ h => h) with h0 | ⟨b4, o4, rfl, _, hc4⟩
  · cases h0
  obtain ⟨x0, q0, E0⟩ := hc4 0 (by decide)
  obtain ⟨x1, q1, E1⟩ := hc4 1 (by decide)
  obtain ⟨Aa, ga, ca, rfl, ba, _⟩ := E0
  obtain ⟨Ab, gb, cb, rfl, bb, _⟩ := E1
  rw [Nat.add_zero] at q0
  have hcv0 : (convert 34 9 (.slice Aa 1 ca)).run Tryd.prog w5 = .ok (.string ⟨#[97]⟩) w5 := conv_text w5 ga Aa [97] ca ba
  have hcv1 : (convert 34 9 (.slice Ab 2 cb)).run Tryd.prog w5 = .ok (.string ⟨#[98, 99]⟩) w5 := conv_text w5 gb Ab [98, 99] cb bb
  have q0' : w5.cell? ⟨b4, o4, none⟩ = some (.slice Aa 1 ca) := q0
  have q1' : w5.cell? ⟨b4, o4 + 1, none⟩ = some (.slice Ab 2 cb) := q1
  have HL5 := Lib.hid (HL4.out.keep0 HK5.out)
  clear ba bb hc4 q0 q1
  obtain ⟨w6, hmk, lb, hlb, hub, hk6⟩ := run_big w5 1048577 (by omega)
  have hmk' : (Instr.makeSlice 34 (.int .i64 1048577) (.int .i64 1048577)).run Tryd.prog w5 = .ok (.slice (some ⟨w5.heap.size, 0, none⟩) 1048577 1048577) w6 := hmk
  have HK6 := Lib.hid hk6
  have HLB := Lib.hid hlb
  have HUB := Lib.hid hub
  have HK06 := Lib.hid (HK05.out.trans hk6 (by simp))
  clear hmk hlb hub hk6
  go_wp2_with fail
  refine (commit_big (HL5.out.keep0 HK6.out) HD4.out (HT.out.keep HK06.out (by simp)) (by simp) _ _ HLB.out (by omega) HUB.out).mono ?_
  rintro e w7 ⟨n7, B7, rfl, hk7, _, hor⟩
  have hf : fitErr (L.cap d4.dur.length - g3.used) d4.size [lb] = 42 := by
    unfold fitErr; rw [if_pos ⟨lb, by simp, by rw [HLB.out]; omega⟩]
  have hn7 : n7 = 42 := by
    rcases hor with ⟨_, h, _⟩ | ⟨h, _⟩
    · rw [h, hf]
    · rw [hf] at h; cases h
  subst hn7
  have HK7 := Lib.hid (show Keeps [] w w7 from ((HK06.out.mono (T := lp :: h.l) (by simp)).trans (((Keeps.refl [] w6).alloc _).mono (T := lp :: h.l) (by simp)) (fun _ h _ => h) |>.trans hk7 (fun _ h _ => h) |>.mono (fun i hi hlt => by
    rcases List.mem_cons.1 hi with rfl | hi
    · have := HLP.out; have := HK1.out.size; omega
    · have := HH.out i hi; omega)))
  clear hor hf hk7
  go_wp2_with fail
  go_ret
  exact ⟨rfl, HK7.out⟩
end Go.Proofs.YtgjgnieobbhepaaDoor
