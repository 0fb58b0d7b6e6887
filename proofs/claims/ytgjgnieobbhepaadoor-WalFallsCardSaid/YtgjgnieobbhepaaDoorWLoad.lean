/- load and Open. -/
import Derived.Test.YtgjgnieobbhepaaDoorWArea
import Derived.OwnWalk
namespace Go.Proofs.YtgjgnieobbhepaaDoor
open Go.RowKit
open Reg (Is Fact CB)

def strOf (l : List UInt8) : ByteArray := ⟨l.toArray⟩
theorem strOf_inj {a b : List UInt8} : strOf a = strOf b ↔ a = b := by
  constructor
  · intro h
    have := congrArg (fun x => x.data.toList) h
    simpa [strOf] using this
  · rintro rfl; rfl
/-- string(b). -/
theorem conv_text (w : World) (g : Nat) (A : Option Addr) (l : List UInt8) (cap : Nat) (h : BytesIn w g A l) :
    (convert 34 9 (.slice A l.length cap)).run Tryd.prog w = .ok (.string (strOf l)) w := by
  rcases A with _ | a
  · rcases h with rfl | ⟨off, h, _⟩
    · rw [run_convert_bytes_string w _ _ 5 none _ cap Tryd.underlying34 Tryd.underlying5 Tryd.underlying9]
      rfl
    · cases h
  · refine run_convert_bytes_back w _ _ 5 a cap l Tryd.underlying34 Tryd.underlying5 Tryd.underlying9 fun j hj => ?_
    rcases h with rfl | ⟨off, h, hc⟩
    · simp at hj
    · cases h
      have := hc j hj
      rwa [Addr.add_lit]
theorem equal_any (w : World) (g1 g2 c1 c2 : Nat) (A1 A2 : Option Addr) (l1 l2 : List UInt8) (h1 : BytesIn w g1 A1 l1) (h2 : BytesIn w g2 A2 l2) :
    Calls Tryd.prog 48 #[.slice A1 l1.length c1, .slice A2 l2.length c2] w fun e w' => e = .returned (.bool (decide (l1 = l2))) ∧ w = w' := by
  have e1 := conv_text w g1 A1 l1 c1 h1
  have e2 := conv_text w g2 A2 l2 c2 h2
  have e3 : ((strOf l1).toList == (strOf l2).toList) = decide (l1 = l2) := by
    rw [ByteArray.toList_eq, ByteArray.toList_eq, Bool.eq_iff_iff, beq_iff_eq, decide_eq_true_iff]
    simp [strOf]
  go_enter Tryd.func48, Tryd.ntmps48
  go_wp2_with fail
  go_ret
  exact ⟨by rw [← e3]; rfl, rfl⟩
/-- What load yields. -/
def LoadP (w : World) (h : DH) (lp : Nat) (d : Dk) (e : Ending) (w' : World) : Prop :=
  ∃ a u rs v, e = .returned (.tuple #[v, .int .i64 0]) ∧ L.Loads d.dur.length d.size d.last a u rs ∧ RowsOwn w' w.heap.size v rs ∧ LogAt w' lp h.p ⟨a, u, rs.length, false⟩ ∧ Keeps [lp] w w'
set_option maxRecDepth 100000 in
set_option maxHeartbeats 4000000 in
theorem load_any (w : World) (h : DH) (B : Nat → Prop) (d : Dk) (lp : Nat) (x : DskAt w h B d) (hd : d.dead = false) (y : LogAt w lp h.p ⟨0, 0, 0, false⟩) (ht : TabAt w) (hlB : ¬ B lp) (hlp0 : lp ≠ 0) (hN : 16 ≤ d.dur.length) :
    Calls Tryd.prog 31 #[.pointer (some ⟨lp, 0, none⟩)] w (LoadP w h lp d) := by
  obtain ⟨c0, _⟩ := y.cells
  have hsz := x.ok.size
  have hll := y.lt
  have hlen : (d.last 0).length = d.size := Dk.last_len x.ok (by omega)
  obtain ⟨b, hb⟩ : ∃ b, b = d.last 0 := ⟨_, rfl⟩
  rw [← hb] at hlen
  have HX := Lib.hid x
  have HY := Lib.hid y
  have HT := Lib.hid ht
  have HD := Lib.hid hd
  have HN := Lib.hid hN
  have HB := Lib.hid hb
  have HLB := Lib.hid hlB
  have HNE := Lib.hid (y.ne x)
  have HR := Lib.hid (read_ok w h B d x hd 0 (by omega))
  rw [← hb] at HR
  clear x y ht hd hN hb hlB
  go_enter Tryd.func31, Tryd.ntmps31
  go_wp2_with fail
  refine HR.out.mono ?_
  rintro e w1 ⟨v, rfl, hs, hk1⟩
  obtain ⟨A, g, cap, rfl, hg, hgw⟩ := hs
  have HG := Lib.hid hg
  have HK1 := Lib.hid hk1
  rw [hlen]
  clear hg hk1
  go_wp2_with fail
  go_loopw [18] (fun iv wr => ∃ k : Nat, k ≤ 2 ∧ iv = .int .i64 k ∧ (∀ j, j < k → b ≠ L.hd j d.size) ∧ Keeps [] w wr ∧ BytesIn wr g A b) (fun iv _ => 2 - (RowKit.intOf iv).toNat)
  case atStart => exact ⟨0, by omega, rfl, fun j hj => by omega, HK1.out, HG.out⟩
  case round =>
    obtain ⟨k, hk, rfl, hne, hkw, hgr⟩ := hrel
    have HNB := Lib.hid hne
    have HKW := Lib.hid hkw
    have HGR := Lib.hid hgr
    clear hne hkw hgr
    by_cases hk2 : k < 2
    · go_wp2_with fail
      refine (head_any wr k d.size (by omega) (by omega)).mono ?_
      rintro e w2 ⟨x2, rfl, hx2, hxw2, hk2'⟩
      have HK2 := Lib.hid hk2'
      have HE := Lib.hid (equal_any w2 g x2 cap (L.hd k d.size).length A (some ⟨x2, 0, none⟩) b (L.hd k d.size) (HGR.out.keep hk2' (by simp)) hx2.bytes)
      rw [hlen] at HE
      have HU := Lib.hid hx2
      clear hk2' hx2
      go_wp2_with fail
      refine HE.out.mono ?_
      rintro e w3 ⟨rfl, rfl⟩
      by_cases hbe : b = L.hd k d.size
      · have e5 : decide (b = L.hd k d.size) = true := by rw [decide_eq_true_iff]; exact hbe
        have HL2 := Lib.hid (HY.out.keep (HKW.out.trans HK2.out (by simp)) (by simp))
        have f1 := HL2.out.free 1
        obtain ⟨_, q1, _⟩ := HL2.out.cells
        obtain ⟨w4, hw4⟩ : ∃ w4, w4 = w2.setCell ⟨lp, 1, none⟩ (.int .i64 (k : Int)) := ⟨_, rfl⟩
        have hk4 : Keeps [lp] w2 w4 := by rw [hw4]; exact (Keeps.refl _ _).setCell (by simp) _
        have HLG4 := Lib.hid (show LogAt w4 lp h.p ⟨k, 0, 0, false⟩ by
          unfold LogAt
          rw [hw4, row_set HL2.out 1 _]
          rfl)
        have hk04 : Keeps [lp] w w4 := ((HKW.out.trans HK2.out (by simp)).mono (by simp)).trans hk4 (fun _ h _ => h)
        have HAR := Lib.hid (area_any w4 h B d lp k (HX.out.keep hk04 (by simpa using ⟨HNE.out.2.2.2, HLB.out⟩)) HD.out HLG4.out (HT.out.keep hk04 (by simpa using hlp0.symm)) HLB.out hlp0 (by omega) HN.out)
        have HK4 := Lib.hid hk04
        subst hw4
        clear hk4 hk04
        go_wp2_with fail
        refine HAR.out.mono ?_
        rintro e w5 ⟨rs, u, v, rfl, hr, ho, hl, hk5⟩
        have HQ := Lib.hid (show LoadP w h lp d (.returned (.tuple #[v, .int .i64 0])) w5 from
          ⟨k, u, rs, v, rfl, .inl ⟨by omega, by rw [← HB.out]; exact hbe, hr⟩, ho.lower (by have := HK4.out.size; omega), hl, HK4.out.trans hk5 (fun _ h _ => h)⟩)
        clear hr ho hl hk5
        go_wp2_with fail
        go_ret2
        exact HQ.out
      · have e5 : decide (b = L.hd k d.size) = false := by rw [decide_eq_false_iff_not]; exact hbe
        have ei : IntKind.i64.wrap ((k : Int) + 1) = (k : Int) + 1 := IntWalk.i64_in _ ⟨by omega, by omega⟩
        have HNB2 := Lib.hid (show ∀ j, j < k + 1 → b ≠ L.hd j d.size from fun j hj => by
          by_cases h : j = k
          · rw [h]; exact hbe
          · exact HNB.out j (by omega))
        clear hbe
        go_wp2_with fail
        go_roundw
        case rel => exact ⟨k + 1, by omega, rfl, HNB2.out, HKW.out.trans HK2.out (by simp), HGR.out.keep HK2.out (by simp)⟩
        case measure => first | omega | (simp [RowKit.intOf]; omega)
    · have HQ := Lib.hid (show LoadP w h lp d (.returned (.tuple #[.slice none 0 0, .int .i64 0])) wr from
        ⟨0, 0, [], _, rfl, .inr ⟨by rw [← HB.out]; exact HNB.out 0 (by omega), by rw [← HB.out]; exact HNB.out 1 (by omega), rfl, rfl, rfl⟩, RowsOwn.nil _ _, HY.out.keep HKW.out (by simp), HKW.out.mono (by simp)⟩)
      go_wp2_with fail
      go_ret2
      exact HQ.out
/-- What Open yields. -/
def OpenP (w : World) (h : DH) (B : Nat → Prop) (d : Dk) (e : Ending) (w' : World) : Prop :=
  if d.dur.length < 16 ∨ d.size < 128 then e = .returned (.tuple #[.pointer none, .slice none 0 0, .int .i64 41]) ∧ w = w'
  else if d.power = false then e = .returned (.tuple #[.pointer none, .slice none 0 0, .int .i64 32]) ∧ DskAt w' h B d.flush ∧ Keeps h.l w w'
  else ∃ lp a u rs v, e = .returned (.tuple #[.pointer (some ⟨lp, 0, none⟩), v, .int .i64 0]) ∧ DskAt w' h B d.flush ∧ L.Loads d.dur.length d.size d.last a u rs ∧ RowsOwn w' w.heap.size v rs ∧ LogAt w' lp h.p ⟨a, u, rs.length, false⟩ ∧ w.heap.size ≤ lp ∧ Keeps h.l w w'
theorem Loads_congr {N s a u : Nat} {v v' : Nat → List UInt8} {rs : List (List UInt8)} (h : L.Loads N s v a u rs) (he : ∀ i, v i = v' i) : L.Loads N s v' a u rs := by
  have : v = v' := funext he
  rwa [← this]
set_option maxRecDepth 100000 in
set_option maxHeartbeats 4000000 in
theorem open_any (w : World) (h : DH) (B : Nat → Prop) (d : Dk) (x : DskAt w h B d) (ht : TabAt w) (hB : ∀ y, B y → y < w.heap.size) (hh0 : 0 ∉ h.l) :
    Calls Tryd.prog 13 #[.pointer (some ⟨h.p, 0, none⟩)] w (OpenP w h B d) := by
  have hlt := x.lt
  have HX := Lib.hid x
  have HT := Lib.hid ht
  have HB := Lib.hid hB
  have HH := Lib.hid hh0
  clear x ht hB hh0
  by_cases hs1 : d.dur.length < 16
  · have e1 : decide ((d.dur.length : Int) < 16) = true := by simp; omega
    have HQ := Lib.hid (show OpenP w h B d (.returned (.tuple #[.pointer none, .slice none 0 0, .int .i64 41])) w by unfold OpenP; rw [if_pos (.inl hs1)]; exact ⟨rfl, rfl⟩)
    go_enter Tryd.func13, Tryd.ntmps13
    go_wp2_with fail
    refine (sectors_any _ h B d HX.out).mono ?_
    rintro e w' ⟨rfl, rfl⟩
    go_wp2_with fail
    go_ret3
    exact HQ.out
  · have e1 : decide ((d.dur.length : Int) < 16) = false := by simp; omega
    by_cases hs2 : d.size < 128
    · have e2 : decide ((d.size : Int) < 128) = true := by simp; omega
      have HQ := Lib.hid (show OpenP w h B d (.returned (.tuple #[.pointer none, .slice none 0 0, .int .i64 41])) w by unfold OpenP; rw [if_pos (.inr hs2)]; exact ⟨rfl, rfl⟩)
      go_enter Tryd.func13, Tryd.ntmps13
      go_wp2_with fail
      refine (sectors_any _ h B d HX.out).mono ?_
      rintro e w' ⟨rfl, rfl⟩
      go_wp2_with fail
      refine (size_any _ h B d HX.out).mono ?_
      rintro e w' ⟨rfl, rfl⟩
      go_wp2_with fail
      go_ret3
      exact HQ.out
    · have e2 : decide ((d.size : Int) < 128) = false := by simp; omega
      have HNO := Lib.hid (show ¬ (d.dur.length < 16 ∨ d.size < 128) by omega)
      go_enter Tryd.func13, Tryd.ntmps13
      go_wp2_with fail
      refine (sectors_any _ h B d HX.out).mono ?_
      rintro e w' ⟨rfl, rfl⟩
      go_wp2_with fail
      refine (size_any _ h B d HX.out).mono ?_
      rintro e w' ⟨rfl, rfl⟩
      go_wp2_with fail
      refine (flush_any w h B d HX.out).mono ?_
      rintro e w2 ⟨rfl, hx2, hk2⟩
      cases hp : d.power with
      | false =>
        have e3 : d.flushErr = 32 := by unfold Dk.flushErr; rw [hp]; rfl
        have HQ := Lib.hid (show OpenP w h B d (.returned (.tuple #[.pointer none, .slice none 0 0, .int .i64 32])) w2 by unfold OpenP; rw [if_neg HNO.out, if_pos hp]; exact ⟨rfl, hx2, hk2⟩)
        clear hx2 hk2
        rw [e3]
        go_wp2_with fail
        go_ret3
        exact HQ.out
      | true =>
        obtain ⟨e3, hok, hsz, hdl, hfr, hcut, hdead, hlast⟩ := L.flush_flat HX.out.ok hp
        have HP := Lib.hid hp
        obtain ⟨w3, hw3⟩ : ∃ w3, w3 = w2.alloc (.cells #[.pointer (some ⟨h.p, 0, none⟩), .int .i64 0, .int .i64 0, .int .i64 0, .bool false] 68) := ⟨_, rfl⟩
        have hk3 : Keeps [] w2 w3 := by rw [hw3]; exact (Keeps.refl _ _).alloc _
        have hlog : LogAt w3 w2.heap.size h.p ⟨0, 0, 0, false⟩ := by rw [hw3]; exact heap_alloc_new w2 _
        have hk03 : Keeps h.l w w3 := hk2.trans hk3 (by simp)
        have HLO := Lib.hid (load_any w3 h B d.flush w2.heap.size (hx2.keep0 hk3) hdead hlog (HT.out.keep hk03 HH.out) (fun hb => by have := HB.out _ hb; have := hk2.size; omega) (by have := hk2.size; omega) (by omega))
        have HK3 := Lib.hid hk03
        have HX2 := Lib.hid (hx2.keep0 hk3)
        have HSZ := Lib.hid hk2.size
        have HLA := Lib.hid hlast
        have HDL := Lib.hid hdl
        have HDS := Lib.hid hsz
        have HX9 := Lib.hid (fun w' (hk : Keeps [w2.heap.size] w3 w') => (hx2.keep0 hk3).keep hk (fun y hy => by
          have : y = w2.heap.size := by simpa using hy
          have := hk2.size
          refine ⟨by simp [DH.l]; omega, fun hb => ?_⟩
          have := HB.out _ hb; omega))
        rw [e3]
        subst hw3
        clear hk3 hlog hk03 hx2 hk2 hlast hdl hsz hok hfr hcut hdead hp
        go_wp2_with fail
        refine HLO.out.mono ?_
        rintro e w5 ⟨a, u, rs, v, rfl, hl, ho, hg, hk5⟩
        have HQ := Lib.hid (show OpenP w h B d (.returned (.tuple #[.pointer (some ⟨w2.heap.size, 0, none⟩), v, .int .i64 0])) w5 by
          unfold OpenP; rw [if_neg HNO.out, if_neg (by rw [HP.out]; simp)]
          rw [HDL.out, HDS.out] at hl
          exact ⟨_, a, u, rs, v, rfl, HX9.out _ hk5, Loads_congr hl HLA.out, ho.lower (by have := HK3.out.size; omega), hg, HSZ.out, HK3.out.trans hk5 (fun i hi hlt => by
            have : i = w2.heap.size := by simpa using hi
            have := HSZ.out; omega)⟩)
        clear hl ho hg hk5
        go_wp2_with fail
        go_ret3
        exact HQ.out
end Go.Proofs.YtgjgnieobbhepaaDoor
