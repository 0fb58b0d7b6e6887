/- Merged: WTake WFrm WArea WLoad WGood WLawA WLawB WKnown -/
import Derived.Test.YtbanpdeganlndaaGreatDoorQ6
import Derived.Defers
import Derived.Recover
import Derived.OwnWalk
import Derived.Test.YtbanpdeganlndaaGreatDoorQ2
import Derived.Test.YtbanpdeganlndaaGreatDoorQ3
import Derived.Lib.SlBytesConst
namespace Go.Proofs.YtbanpdeganlndaaGreatDoor
open Go.RowKit
open Reg (Is Fact CB)

attribute [local go_sem] Reg.lateFr Reg.wantedV Reg.gives_value Reg.gives_skip Reg.gives_enter
/-- A reader lies in block rp. -/
def RdrAt (w : World) (rp dp nx en : Nat) (v : Value) : Prop := w.heap[rp]? = some (.cells #[.pointer (some ⟨dp, 0, none⟩), .int .i64 (nx : Int), .int .i64 (en : Int), v] 167 (0, 0))
theorem RdrAt.cells {w : World} {rp dp nx en : Nat} {v : Value} (h : RdrAt w rp dp nx en v) : w.cell? ⟨rp, 0, none⟩ = some (.pointer (some ⟨dp, 0, none⟩)) ∧ w.cell? ⟨rp, 1, none⟩ = some (.int .i64 (nx : Int)) ∧ w.cell? ⟨rp, 2, none⟩ = some (.int .i64 (en : Int)) ∧ w.cell? ⟨rp, 3, none⟩ = some v :=
  ⟨row_cell h 0, row_cell h 1, row_cell h 2, row_cell h 3⟩
theorem RdrAt.keep {S : List Nat} {w w' : World} {rp dp nx en : Nat} {v : Value} (h : RdrAt w rp dp nx en v) (hk : Keeps S w w') (hn : rp ∉ S) : RdrAt w' rp dp nx en v := block_keep h hk hn
/-- A copy of a sector. -/
def SecF (W : Nat) (b : List UInt8) : Fact := fun v w => ∃ A g cap, v = .slice A b.length cap ∧ BytesIn w g A b ∧ W ≤ g
def SecT (W : Nat) (b : List UInt8) : Fact := fun v w => ∃ A g cap, v = .tuple #[.slice A b.length cap, .int .i64 0] ∧ BytesIn w g A b ∧ W ≤ g
theorem SecF.keep0 {W : Nat} {b : List UInt8} : ∀ v w w', SecF W b v w → Keeps [] w w' → SecF W b v w' := by
  rintro v w w' ⟨A, g, cap, h1, h2, h3⟩ hk
  exact ⟨A, g, cap, h1, h2.keep hk (by simp), h3⟩
theorem SecT.keep0 {W : Nat} {b : List UInt8} : ∀ v w w', SecT W b v w → Keeps [] w w' → SecT W b v w' := by
  rintro v w w' ⟨A, g, cap, h1, h2, h3⟩ hk
  exact ⟨A, g, cap, h1, h2.keep hk (by simp), h3⟩
def leftLen (rp : Nat) (w : World) : Nat := match w.cell? ⟨rp, 3, none⟩ with
  | some (.slice _ n _) => n
  | _ => 0
theorem leftLen_of {w : World} {rp dp nx en n cap : Nat} {A : Option Addr} (h : RdrAt w rp dp nx en (.slice A n cap)) : leftLen rp w = n := by
  unfold leftLen; rw [h.cells.2.2.2]
/-- What take yields. -/
def TakeP (w : World) (h : DH) (rp W nx en n : Nat) (A0 : Option Addr) (l : List UInt8) (v : Nat → List UInt8) (s : Nat) (e : Ending) (w' : World) : Prop :=
  ∃ j g off cap A' cap', nx + j ≤ en ∧ n ≤ l.length + j * s ∧ (j = 0 ∨ l.length + (j - 1) * s < n) ∧ e = .returned (.slice (some ⟨g, off, none⟩) n cap) ∧ n ≤ cap ∧ cap ≤ maxLen ∧ BytesIn w' g (some ⟨g, off, none⟩) ((l ++ L.cat v nx j).take n) ∧ W ≤ g ∧
    RdrAt w' rp h.p (nx + j) en (.slice A' ((l ++ L.cat v nx j).drop n).length cap') ∧ LeftIn w' W A' ((l ++ L.cat v nx j).drop n) cap' ∧ (n < (l ++ L.cat v nx j).length → A' = some ⟨g, off + n, none⟩) ∧ Sp [rp] A0 w w'
theorem cat_next (v : Nat → List UInt8) (i j : Nat) : L.cat v i (j + 1) = L.cat v i j ++ v (i + j) := by rw [L.cat_add, L.cat_one]
theorem Sp.trans {S : List Nat} {A : Option Addr} {a b c : World} (h : Sp S A a b) (k : Sp S A b c) (hA : ∀ x, A = some x → x.block < a.heap.size) : Sp S A a c :=
  ⟨h.1.trans k.1 (fun _ h _ => h), fun x hx j hj => (k.2 x hx j hj).trans (h.2 x hx j hj)⟩
theorem Sp.step {rp : Nat} {A0 A : Option Addr} {w wr w2 w3 w4 : World} (h : Sp [rp] A0 w wr) (h2 : Keeps [] wr w2) (h3 : Sp [] A w2 w3) (hA : A = A0 ∨ ∃ a, A = some a ∧ w.heap.size ≤ a.block) (h4 : Keeps [rp] w3 w4) (hA0 : ∀ a, A0 = some a → a.block ≠ rp ∧ a.block < w.heap.size) : Sp [rp] A0 w w4 := by
  have hk3 : Keeps ([rp] ++ blocks A0) w w3 := (h.1.trans h2 (by simp)).trans h3.1 (fun i hi hl => by
    rcases hA with rfl | ⟨a, rfl, ha⟩
    · simp at hi ⊢; exact .inr hi
    · simp [blocks] at hi; omega)
  refine ⟨hk3.trans h4 (fun i hi _ => by simp at hi; simp [hi]), fun a ha j hj => ?_⟩
  obtain ⟨hne, hlt⟩ := hA0 a ha
  have hlr := h.1.size
  have hl2 := h2.size
  have hl3 := h3.1.size
  have e4 : w4.cell? ⟨a.block, j, none⟩ = w3.cell? ⟨a.block, j, none⟩ := h4.cell (p := ⟨a.block, j, none⟩) (by simp only []; omega) (by simpa using hne)
  have e3 : w3.cell? ⟨a.block, j, none⟩ = w2.cell? ⟨a.block, j, none⟩ := by
    rcases hA with rfl | ⟨b, rfl, hb⟩
    · exact h3.2 a ha j hj
    · exact h3.1.cell (p := ⟨a.block, j, none⟩) (by simp only []; omega) (by simp [blocks]; omega)
  have e2 : w2.cell? ⟨a.block, j, none⟩ = wr.cell? ⟨a.block, j, none⟩ := h2.cell (p := ⟨a.block, j, none⟩) (by simp only []; omega) (by simp)
  rw [e4, e3, e2, h.2 a ha j hj]
theorem read_ok (w : World) (h : DH) (B : Nat → Prop) (d : Dk) (x : DskAt w h B d) (hd : d.dead = false) (i : Nat) (hi : i < d.dur.length) : Calls Tryz.prog 71 #[.pointer (some ⟨h.p, 0, none⟩), .int .i64 (i : Int)] w fun e w' => ∃ v, e = .returned v ∧ SecT w.heap.size (d.last i) v w' ∧ Keeps [] w w' := by
  refine (read_any w h B d x i).mono fun e w' hq => ?_
  unfold ReadP at hq
  rw [if_neg (by rw [hd]; simp), if_neg (by rw [(d.has_iff i).2 ⟨by omega, by omega⟩]; simp), Int.toNat_natCast] at hq
  obtain ⟨A, g, cap, h1, h2, h3, _, _, _, h4⟩ := hq
  exact ⟨_, h1, ⟨A, g, cap, rfl, h2, h3⟩, h4⟩
set_option maxRecDepth 100000 in
set_option maxHeartbeats 4000000 in
theorem take_ok (w : World) (h : DH) (B : Nat → Prop) (d : Dk) (rp W nx en n : Nat) (A0 : Option Addr) (cap0 : Nat) (l : List UInt8) (x : DskAt w h B d) (hd : d.dead = false) (r : RdrAt w rp h.p nx en (.slice A0 l.length cap0)) (hl : LeftIn w W A0 l cap0) (hW : W ≤ w.heap.size) (hrp : rp < W) (hsep : ∀ y, (y ∈ h.l ∨ B y) → y < W ∧ y ≠ rp)
    (hen : nx ≤ en) (hN : en ≤ d.dur.length) (hn : n ≤ l.length + (en - nx) * d.size) (hn0 : 0 < n ∨ 0 < cap0) (hll : l.length ≤ 1073741824) (hnb : n ≤ 1073741824) :
    Calls Tryz.prog 138 #[.pointer (some ⟨rp, 0, none⟩), .int .i64 (n : Int)] w (TakeP w h rp W nx en n A0 l d.last d.size) := by
  have hsz := x.ok.size
  have hsecs := x.ok.secs
  have hlt := x.lt
  have HX := Lib.hid x
  have HR := Lib.hid r
  have HL := Lib.hid hl
  have HSEP := Lib.hid hsep
  have HD := Lib.hid hd
  have hmul : (en - nx) * d.size ≤ 4096 * 4096 := Nat.mul_le_mul (by omega) hsz.2
  obtain ⟨m, hm⟩ : ∃ m, m = (en - nx) * d.size := ⟨_, rfl⟩
  have e1 : IntKind.i64.wrap (((en : Int) - (nx : Int)) * (d.size : Int)) = (m : Int) := by
    have : ((en : Int) - (nx : Int)) * (d.size : Int) = (m : Int) := by rw [hm, Int.natCast_mul, Int.natCast_sub hen]
    rw [this]; exact IntWalk.i64_in _ ⟨by omega, by omega⟩
  have e0 : IntKind.i64.wrap ((en : Int) - (nx : Int)) = (en : Int) - (nx : Int) := IntWalk.i64_in _ ⟨by omega, by omega⟩
  have e2 : IntKind.i64.wrap ((l.length : Int) + (m : Int)) = ((l.length + m : Nat) : Int) := by
    rw [show ((l.length + m : Nat) : Int) = (l.length : Int) + (m : Int) by push_cast; rfl]; exact IntWalk.i64_in _ ⟨by omega, by omega⟩
  have e3 : decide (n ≤ l.length + m) = true := by simp; omega
  have e3' : decide ((n : Int) ≤ (l.length : Int) + (m : Int)) = true := by simp; omega
  obtain ⟨c0, c1, c2, c3⟩ := r.cells
  rw [← hm] at hn hmul
  have HM := Lib.hid hm
  clear x r hl hsep hd hm
  go_enter Tryz.func138, Tryz.ntmps138
  go_wp2_with fail
  refine Reg.wp_region_state (A := ?A) (fun _ w' => Keeps [] w w') (Keeps [])
    [Is (.int .i64 (n : Int)), Is (.pointer (some ⟨rp, 0, none⟩)), Is (.pointer (some ⟨rp, 0, none⟩)), Is (.pointer (some ⟨rp, 3, none⟩)), Is (.slice A0 l.length cap0), Is (.int .i64 (l.length : Int)),
     Is (.pointer (some ⟨rp, 0, none⟩)), Is (.pointer (some ⟨rp, 0, none⟩)), Is (.pointer (some ⟨rp, 2, none⟩)), Is (.int .i64 (en : Int)), Is (.pointer (some ⟨rp, 0, none⟩)), Is (.pointer (some ⟨rp, 0, none⟩)), Is (.pointer (some ⟨rp, 1, none⟩)), Is (.int .i64 (nx : Int)), Is (.int .i64 ((en : Int) - (nx : Int))),
     Is (.pointer (some ⟨rp, 0, none⟩)), Is (.pointer (some ⟨rp, 0, none⟩)), Is (.pointer (some ⟨rp, 0, none⟩)), Is (.pointer (some ⟨h.p, 0, none⟩)), Is (.pointer (some ⟨h.p, 0, none⟩)), Is (.pointer (some ⟨h.p, 0, none⟩)), Is (.int .i64 (d.size : Int)), Is (.int .i64 (m : Int)), Is (.int .i64 ((l.length + m : Nat) : Int)), Is (.bool true), Is (.tuple #[])]
    (by kernel_rfl) (by kernel_rfl) rfl ?hA ?hC ?ho ?hlast ?hend
  case hA => intro vs; simp only [Reg.fill, if_true, Nat.zero_add, Nat.reduceAdd, Act.put, List.setIfInBounds_toArray, List.set_cons_succ, List.set_cons_zero]; exact rfl
  case hC => exact (Keeps.refl _ _).drew
  case hlast => repeat (first | exact trivial | refine ⟨Is.keep0, ?_⟩)
  case ho =>
    repeat' apply And.intro
    all_goals
      first
        | exact trivial
        | (intro Ls vs w' hC hL hd K hK
           try simp only [Reg.Deps, Reg.at_, List.getD_cons_zero, List.getD_cons_succ, Region.binds, true_implies, Is, and_true] at hd
           have q0 := hC.cell_some c0 (by simp)
           have q1 := hC.cell_some c1 (by simp)
           have q2 := hC.cell_some c2 (by simp)
           have q3 := hC.cell_some c3 (by simp)
           go_simp
           first
             | exact hK _ _ hC (Keeps.refl _ _) rfl
             | skip)
    · refine (size_any w' h B d (HX.out.keep0 hC)).mono ?_
      rintro e w'' ⟨rfl, rfl⟩
      exact ⟨_, rfl, hK _ _ hC (Keeps.refl _ _) rfl⟩
    · refine (need_yes w').mono ?_
      rintro e w'' ⟨rfl, rfl⟩
      exact ⟨_, rfl, hK _ _ hC (Keeps.refl _ _) rfl⟩
  case hend =>
    intro vs w1 hk1 hall
    have HK1 := Lib.hid hk1
    have HR1 := Lib.hid (HR.out.keep hk1 (by simp))
    have HL1 := Lib.hid (HL.out.keep hk1 (by simp))
    have hw1 := hk1.size
    clear hall hk1 e0 e1 e2 e3 e3' c0 c1 c2 c3
    go_wp2_with fail
    go_loopw [] (fun wr => ∃ j A cap, nx + j ≤ en ∧ (j = 0 ∨ l.length + (j - 1) * d.size < n) ∧ (l ++ L.cat d.last nx j).length = l.length + j * d.size ∧ RdrAt wr rp h.p (nx + j) en (.slice A (l ++ L.cat d.last nx j).length cap) ∧ LeftIn wr W A (l ++ L.cat d.last nx j) cap ∧ Sp [rp] A0 w wr ∧ (A = A0 ∨ ∃ a, A = some a ∧ w.heap.size ≤ a.block) ∧ (j = 0 → cap = cap0)) (fun wr => n - leftLen rp wr)
    case atStart => exact ⟨0, A0, cap0, by omega, .inl rfl, by simp [L.cat], by simpa [L.cat] using HR1.out, by simpa [L.cat] using HL1.out, ⟨HK1.out.mono (by simp), fun a e j hj => by
      have := HL.out.lt a e
      exact HK1.out.cell (p := ⟨a.block, j, none⟩) this.2 (by simp)⟩, .inl rfl, fun _ => rfl⟩
    case round =>
      obtain ⟨j, A, cap, hj, hmin, hlen, hr, hl, hsp, hA, hA2⟩ := hrel
      obtain ⟨S, hS⟩ : ∃ S, S = l ++ L.cat d.last nx j := ⟨_, rfl⟩
      rw [← hS] at hlen hr hl
      have HLL := Lib.hid (leftLen_of hr)
      obtain ⟨q0, q1, q2, q3⟩ := hr.cells
      have HRR := Lib.hid hr
      have HLE := Lib.hid hl
      have HSP := Lib.hid hsp
      have HAA := Lib.hid hA
      have HA2 := Lib.hid hA2
      have HS := Lib.hid hS
      have HMIN := Lib.hid hmin
      have hlenb : S.length ≤ 1073741824 + 16777216 := by
        have : j * d.size ≤ 4096 * 4096 := Nat.mul_le_mul (by omega) hsz.2
        omega
      have f1 := row_free hr 1
      have f3 := row_free hr 3
      have HLEN := Lib.hid hlen
      obtain ⟨sl, hsl⟩ : ∃ sl, sl = S.length := ⟨_, rfl⟩
      have HSL := Lib.hid hsl
      rw [← hsl] at q3 hlenb
      clear hr hl hsp hA hA2 hS hmin hlen hsl
      by_cases hlt : sl < n
      · have hjlt : nx + j < en := by
          have h1 := HLEN.out
          have h2 := HSL.out
          have h3 := HM.out
          by_cases hje : nx + j < en
          · exact hje
          · have : j = en - nx := by omega
            rw [this, ← h3] at h1
            omega
        have hk7 := HSP.out.1
        have hkd : DskAt wr h B d := HX.out.keep hk7 (fun z hz => by
          have hz2 : z = rp ∨ W ≤ z := by
            simp only [List.mem_append, List.mem_singleton] at hz
            rcases hz with hz | hz
            · exact .inl hz
            · right
              cases hA0 : A0 with
              | none => rw [hA0] at hz; simp [blocks] at hz
              | some a =>
                have := HL.out.lt a hA0
                rw [hA0] at hz
                simp [blocks] at hz
                omega
          refine ⟨fun hm => ?_, fun hb => ?_⟩
          · have := HSEP.out z (.inl hm); omega
          · have := HSEP.out z (.inr hb); omega)
        have HRD := Lib.hid (fun w' (hk : Keeps [] wr w') => read_ok w' h B d (hkd.keep0 hk) HD.out (nx + j) (by omega))
        have HWR := Lib.hid hk7.size
        have hsl := Dk.last_len HX.out.ok (i := nx + j) (by omega)
        have HSEC := Lib.hid hsl
        obtain ⟨sec, hsec⟩ : ∃ sec, sec = d.last (nx + j) := ⟨_, rfl⟩
        have HSE := Lib.hid hsec
        rw [← hsec] at HRD HSEC
        clear hk7 hkd hsl hsec
        go_wp2_with fail
        refine Reg.wp_region_state (A := ?A1) (fun _ w' => Keeps [] wr w') (Keeps [])
          [Is (.pointer (some ⟨rp, 0, none⟩)), Is (.pointer (some ⟨rp, 0, none⟩)), Is (.pointer (some ⟨rp, 0, none⟩)), Is (.pointer (some ⟨h.p, 0, none⟩)), Is (.pointer (some ⟨rp, 0, none⟩)), Is (.pointer (some ⟨rp, 0, none⟩)), Is (.pointer (some ⟨rp, 1, none⟩)), Is (.int .i64 ((nx + j : Nat) : Int)), SecT wr.heap.size sec, SecT wr.heap.size sec, SecF wr.heap.size sec, Is (.int .i64 0), SecF wr.heap.size sec, Is (.int .i64 0)]
          (by kernel_rfl) (by kernel_rfl) rfl ?hA1 ?hC1 ?ho1 ?hlast1 ?hend1
        case hA1 => intro vs; simp only [Reg.fill, if_true, Nat.zero_add, Nat.reduceAdd, Act.put, List.setIfInBounds_toArray, List.set_cons_succ, List.set_cons_zero]; exact rfl
        case hC1 => exact (Keeps.refl _ _).drew
        case hlast1 => repeat (first | exact trivial | refine ⟨Is.keep0, ?_⟩ | refine ⟨SecT.keep0, ?_⟩ | refine ⟨SecF.keep0, ?_⟩)
        case ho1 =>
          repeat' apply And.intro
          all_goals
            first
              | exact trivial
              | (intro Ls vs w' hC hL hd K hK
                 try simp only [Reg.Deps, Reg.at_, List.getD_cons_zero, List.getD_cons_succ, Region.binds, true_implies, Is, and_true] at hd
                 have z0 := hC.cell_some q0 (by simp)
                 have z1 := hC.cell_some q1 (by simp)
                 go_simp
                 first
                   | exact hK _ _ hC (Keeps.refl _ _) rfl
                   | skip)
          · refine (HRD.out w' hC).mono ?_
            rintro e w'' ⟨v, rfl, ⟨As, gs, cs, h1, h2, h3⟩, hk⟩
            exact ⟨_, rfl, hK _ _ (hC.trans hk (by simp)) hk ⟨As, gs, cs, h1, h2, Nat.le_trans hC.size h3⟩⟩
          · exact hK _ _ hC (Keeps.refl _ _) (by first | exact hd | exact hd.1)
          · have hd9 : SecT wr.heap.size sec (vs 9) w' := by first | exact hd | exact hd.1
            obtain ⟨As, gs, cs, h1, h2, h3⟩ := hd9
            rw [h1]
            go_simp
            exact hK _ _ hC (Keeps.refl _ _) ⟨As, gs, cs, rfl, h2, h3⟩
          · have hd9 : SecT wr.heap.size sec (vs 9) w' := by first | exact hd | exact hd.1
            obtain ⟨As, gs, cs, h1, h2, h3⟩ := hd9
            rw [h1]
            go_simp
            exact hK _ _ hC (Keeps.refl _ _) rfl
          · exact hK _ _ hC (Keeps.refl _ _) (by first | exact hd | exact hd.1)
        case hend1 =>
          intro vs w2 hk2 hall
          obtain ⟨As, gs, cs, hv12, hbs, hgs⟩ : SecF wr.heap.size sec (vs 12) w2 := hall.2.2.2.2.2.2.2.2.2.2.2.2.1
          have hv13 : vs 13 = .int .i64 0 := hall.2.2.2.2.2.2.2.2.2.2.2.2.2.1
          have HK2 := Lib.hid hk2
          have HBS := Lib.hid hbs
          have z0 := hk2.cell_some q0 (by simp)
          have z1 := hk2.cell_some q1 (by simp)
          have z3 := hk2.cell_some q3 (by simp)
          have HRR2 := Lib.hid (HRR.out.keep hk2 (by simp))
          have HLE2 := Lib.hid (HLE.out.keep hk2 (by simp))
          have hw2 := hk2.size
          have hwr := HWR.out
          have hgsl : gs < w2.heap.size := hbs.lt (by have := HSEC.out; omega)
          obtain rfl : sl = S.length := HSL.out
          rw [hv12, hv13]
          clear hall hk2 hbs hv12 hv13 q0 q1 q2 q3 f1 f3
          go_wp2_with (with_reducible refine wpList_append_left rfl _ _ rfl W A As S sec cap gs cs rfl rfl HLE2.out ?e1 HBS.out ?e2 ?e3 ?_)
          case e1 => omega
          case e2 => have := HSEC.out; omega
          case e3 => have := HSEC.out; omega
          intro A3 cap3 w3 hl3 hsp3 hA3 hA3s
          have hlo : ∀ a, A = some a → W ≤ a.block ∧ a.block < w2.heap.size := HLE2.out.lt
          have hrpn : rp ∉ blocks A := by
            cases hA0 : A with
            | none => simp [blocks]
            | some a => have := (hlo a hA0).1; simp [blocks]; omega
          have HRR3 := Lib.hid (show RdrAt w3 rp h.p (nx + j) en (.slice A S.length cap) from HRR2.out.keep hsp3.1 (by simpa using hrpn))
          obtain ⟨y0, y1, y2, y3⟩ := HRR3.out.cells
          have f1 := row_free HRR3.out 1
          have f3 := row_free HRR3.out 3
          have HL3 := Lib.hid hl3
          have HSP3 := Lib.hid hsp3
          have HA3 := Lib.hid hA3
          have HA3S := Lib.hid hA3s
          have hw3 := hsp3.1.size
          clear hl3 hsp3 hA3 hA3s hlo hrpn z0 z1 z3
          obtain ⟨S', hS'⟩ : ∃ S', S' = S ++ sec := ⟨_, rfl⟩
          rw [← hS'] at HL3
          rw [show S.length + sec.length = S'.length by rw [hS', List.length_append]]
          have HS' := Lib.hid hS'
          obtain ⟨w4, hw4⟩ : ∃ w4, w4 = (w3.setCell ⟨rp, 3, none⟩ (.slice A3 S'.length cap3)).setCell ⟨rp, 1, none⟩ (.int .i64 ((nx : Int) + (j : Int) + 1)) := ⟨_, rfl⟩
          have hk4 : Keeps [rp] w3 w4 := by rw [hw4]; exact ((Keeps.refl _ _).setCell (by simp) _).setCell (by simp) _
          have HSPF := Lib.hid (show Sp [rp] A0 w w4 from Sp.step HSP.out HK2.out HSP3.out HAA.out hk4 (fun a ha => by have := HL.out.lt a ha; omega))
          have HRF := Lib.hid (show RdrAt w4 rp h.p (nx + (j + 1)) en (.slice A3 S'.length cap3) by
            unfold RdrAt
            rw [hw4, row_set (row_set HRR3.out 3 _) 1 _, show ((nx + (j + 1) : Nat) : Int) = (nx : Int) + (j : Int) + 1 by push_cast; omega]
            rfl)
          have HLF := Lib.hid (show LeftIn w4 W A3 S' cap3 from HL3.out.keep hk4 (fun z hz => by simp at hz; omega))
          have HSN := Lib.hid (show S' = l ++ L.cat d.last nx (j + 1) by rw [HS'.out, HS.out, cat_next, HSE.out, List.append_assoc])
          have HSLN := Lib.hid (show S'.length = l.length + (j + 1) * d.size by rw [HS'.out, List.length_append, HLEN.out, HSEC.out, Nat.add_mul]; omega)
          have HAF := Lib.hid (show A3 = A0 ∨ ∃ a, A3 = some a ∧ w.heap.size ≤ a.block from by
            rcases HA3.out with e | ⟨a, e, ha⟩
            · rw [e]; exact HAA.out
            · exact .inr ⟨a, e, by omega⟩)
          have hS'l : S'.length = S.length + d.size := by rw [hS', List.length_append, HSEC.out]
          have HS'L := Lib.hid hS'l
          clear hS' hk4 hS'l
          subst hw4
          go_wp2_with fail
          go_roundw
          case rel => exact ⟨j + 1, A3, cap3, by omega, .inr (by have := HLEN.out; simp only [Nat.add_sub_cancel]; omega), by rw [← HSN.out]; exact HSLN.out, by rw [← HSN.out]; exact HRF.out, by rw [← HSN.out]; exact HLF.out, HSPF.out, HAF.out, fun h => by omega⟩
          case measure =>
            rw [leftLen_of HRF.out, HLL.out]
            have := HS'L.out
            omega
      · have hsl := HSL.out
        have hj0 : n = 0 → j = 0 := fun h0 => by rcases HMIN.out with e | e <;> omega
        have hnm : n ≤ l.length + j * d.size := by have := HLEN.out; omega
        obtain ⟨g, off, cs, rfl, hg, hgW, hoff, hlen, hcm, hcs⟩ : ∃ g off cs, A = some ⟨g, off, none⟩ ∧ wr.heap[g]? = some (.cells cs 5 (0, 0)) ∧ W ≤ g ∧ off + cap ≤ cs.size ∧ S.length ≤ cap ∧ cap ≤ maxLen ∧ ∀ k (h : k < S.length), cs[off + k]? = some (.int .u8 ((S[k].toNat : Nat) : Int)) := by
          rcases HLE.out with ⟨_, h1, h2⟩ | h1
          · exfalso
            have hs0 : S.length = 0 := by rw [h1]; rfl
            have hn0' : n = 0 := by omega
            have := HA2.out (hj0 hn0')
            omega
          · exact h1
        have hcs9 : sl ≤ cap := by omega
        have hcm9 := hcm
        unfold maxLen at hcm9
        have hbn : BytesIn wr g (some ⟨g, off, none⟩) S := .inr ⟨off, rfl, fun k hk => by rw [row_cell hg]; exact hcs k hk⟩
        have hnc : (n : Int) ≤ (cap : Int) := by omega
        have hns : (n : Int) ≤ (sl : Int) := by omega
        obtain ⟨A', hA'⟩ : ∃ A', A' = (if cap = n then (some ⟨g, off, none⟩ : Option Addr) else some ⟨g, off + n, none⟩) := ⟨_, rfl⟩
        have hdl : (S.drop n).length = sl - n := by rw [List.length_drop, hsl]
        have HDL := Lib.hid hdl
        obtain ⟨w4, hw4⟩ : ∃ w4, w4 = wr.setCell ⟨rp, 3, none⟩ (.slice A' (sl - n) (cap - n)) := ⟨_, rfl⟩
        have hk4 : Keeps [rp] wr w4 := by rw [hw4]; exact (Keeps.refl _ _).setCell (by simp) _
        have HFIN := Lib.hid (show TakeP w h rp W nx en n A0 l d.last d.size (.returned (.slice (some ⟨g, off, none⟩) n cap)) w4 from by
          refine ⟨j, g, off, cap, A', cap - n, hj, hnm, HMIN.out, rfl, by omega, hcm, ?_, hgW, ?_, ?_, fun hlt2 => ?_, ?_⟩
          · rw [← HS.out]; exact (hbn.take n).keep hk4 (by simp; omega)
          · rw [← HS.out, hdl]; unfold RdrAt; rw [hw4, row_set HRR.out 3 _]; rfl
          · rw [← HS.out]
            have hg4 := block_keep hg hk4 (by simp; omega)
            by_cases hcn : cap = n
            · have hd0 : S.drop n = [] := List.eq_nil_of_length_eq_zero (by omega)
              refine .inr ⟨g, off, cs, by rw [hA', if_pos hcn], hg4, hgW, by omega, by rw [hd0]; exact Nat.zero_le _, by unfold maxLen; omega, fun k hk => by rw [hd0] at hk; simp at hk⟩
            · refine .inr ⟨g, off + n, cs, by rw [hA', if_neg hcn], hg4, hgW, by omega, by omega, by unfold maxLen; omega, fun k hk => ?_⟩
              have hk2 : n + k < S.length := by omega
              rw [Nat.add_assoc, hcs (n + k) hk2]; simp
          · rw [← HS.out] at hlt2
            rw [hA', if_neg (by omega)]
          · exact Sp.step HSP.out (Keeps.refl _ _) (A := A0) ⟨Keeps.refl _ _, fun _ _ _ _ => rfl⟩ (.inl rfl) hk4 (fun a ha => by have := HL.out.lt a ha; omega))
        clear hsl hbn hcs hg hdl hk4 hnm hj0 HA2 HS HMIN HSP HLL HAA HLE hlen
        by_cases hcn : cap = n
        · have hF := HFIN.out
          rw [hw4, hA', if_pos hcn, show cap - n = 0 by omega, show sl - n = 0 by omega] at hF
          have HF := Lib.hid hF
          clear hF hA' hw4 HFIN
          subst hcn
          go_wp2_with fail
          go_ret
          exact HF.out
        · have hF := HFIN.out
          rw [hw4, hA', if_neg hcn] at hF
          have HF := Lib.hid hF
          clear hF hA' hw4 HFIN
          go_wp2_with fail
          go_ret
          exact HF.out
set_option maxRecDepth 100000 in
set_option maxHeartbeats 4000000 in
theorem take_no (w : World) (h : DH) (B : Nat → Prop) (d : Dk) (rp nx en n : Nat) (A0 : Option Addr) (cap0 ll : Nat) (x : DskAt w h B d) (r : RdrAt w rp h.p nx en (.slice A0 ll cap0))
    (hen : nx ≤ en) (hN : en ≤ d.dur.length) (hn : ll + (en - nx) * d.size < n) (hll : ll ≤ 1073741824) (hnb : n ≤ 9223372036854775807) :
    Calls Tryz.prog 138 #[.pointer (some ⟨rp, 0, none⟩), .int .i64 (n : Int)] w fun e w' => e = .panicked stopped ∧ Keeps [] w w' := by
  have hsz := x.ok.size
  have hsecs := x.ok.secs
  have HX := Lib.hid x
  have hmul : (en - nx) * d.size ≤ 4096 * 4096 := Nat.mul_le_mul (by omega) hsz.2
  obtain ⟨m, hm⟩ : ∃ m, m = (en - nx) * d.size := ⟨_, rfl⟩
  have e1 : IntKind.i64.wrap (((en : Int) - (nx : Int)) * (d.size : Int)) = (m : Int) := by
    have : ((en : Int) - (nx : Int)) * (d.size : Int) = (m : Int) := by rw [hm, Int.natCast_mul, Int.natCast_sub hen]
    rw [this]; exact IntWalk.i64_in _ ⟨by omega, by omega⟩
  have e0 : IntKind.i64.wrap ((en : Int) - (nx : Int)) = (en : Int) - (nx : Int) := IntWalk.i64_in _ ⟨by omega, by omega⟩
  have e2 : IntKind.i64.wrap ((ll : Int) + (m : Int)) = ((ll + m : Nat) : Int) := by
    rw [show ((ll + m : Nat) : Int) = (ll : Int) + (m : Int) by push_cast; rfl]; exact IntWalk.i64_in _ ⟨by omega, by omega⟩
  rw [← hm] at hn hmul
  have e3 : decide (n ≤ ll + m) = false := by simp; omega
  have e3' : decide ((n : Int) ≤ (ll : Int) + (m : Int)) = false := by simp; omega
  obtain ⟨c0, c1, c2, c3⟩ := r.cells
  clear x r hm
  go_enter Tryz.func138, Tryz.ntmps138
  go_wp2_with fail
  refine RegP.wp_region_last (fun c w' => c = stopped ∧ Keeps [] w w') 25 [0, 1, 2, 3, 4, 5, 6, 7, 8, 9, 10, 11, 12, 13, 14, 15, 16, 17, 18, 19, 20, 21, 22, 23, 24] (fun w' => Keeps [] w w') (fun _ => False) (Keeps []) (A := ?A)
    [Is (.int .i64 (n : Int)), Is (.pointer (some ⟨rp, 0, none⟩)), Is (.pointer (some ⟨rp, 0, none⟩)), Is (.pointer (some ⟨rp, 3, none⟩)), Is (.slice A0 ll cap0), Is (.int .i64 (ll : Int)),
     Is (.pointer (some ⟨rp, 0, none⟩)), Is (.pointer (some ⟨rp, 0, none⟩)), Is (.pointer (some ⟨rp, 2, none⟩)), Is (.int .i64 (en : Int)), Is (.pointer (some ⟨rp, 0, none⟩)), Is (.pointer (some ⟨rp, 0, none⟩)), Is (.pointer (some ⟨rp, 1, none⟩)), Is (.int .i64 (nx : Int)), Is (.int .i64 ((en : Int) - (nx : Int))),
     Is (.pointer (some ⟨rp, 0, none⟩)), Is (.pointer (some ⟨rp, 0, none⟩)), Is (.pointer (some ⟨rp, 0, none⟩)), Is (.pointer (some ⟨h.p, 0, none⟩)), Is (.pointer (some ⟨h.p, 0, none⟩)), Is (.pointer (some ⟨h.p, 0, none⟩)), Is (.int .i64 (d.size : Int)), Is (.int .i64 (m : Int)), Is (.int .i64 ((ll + m : Nat) : Int)), Is (.bool false), Is (.tuple #[])]
    ?hQ (by kernel_rfl) (by kernel_rfl) (by kernel_rfl) rfl ?hA ?hC ?ho ?hlast ?hend
  case hQ =>
    intro b c w' hb hq
    exact ⟨hb, by rw [hq.1], hq.2⟩
  case hA => intro vs; simp only [Reg.fill, if_true, Nat.zero_add, Nat.reduceAdd, Act.put, List.setIfInBounds_toArray, List.set_cons_succ, List.set_cons_zero]; exact rfl
  case hC => exact (Keeps.refl _ _).drew
  case hlast => repeat (first | exact trivial | refine ⟨Is.keep0, ?_⟩)
  case ho =>
    repeat' apply And.intro
    all_goals
      first
        | exact trivial
        | (intro b vs w' hC hb hd K hK
           have hbb : b = false := by apply hb; decide
           subst hbb
           have hC0 := hC.1 rfl
           try simp only [Reg.Deps, Reg.at_, List.getD_cons_zero, List.getD_cons_succ, Region.binds, true_implies, Is, and_true] at hd
           have q0 := hC0.cell_some c0 (by simp)
           have q1 := hC0.cell_some c1 (by simp)
           have q2 := hC0.cell_some c2 (by simp)
           have q3 := hC0.cell_some c3 (by simp)
           simp only [Reg.wantedV, if_true]
           go_simp
           simp only [RegP.gives_value, RegP.gives_skip, RegP.gives_enter]
           first
             | exact hK _ _ (CB.pre hC0 rfl) (Keeps.refl _ _) rfl
             | skip)
    · refine (size_any w' h B d (HX.out.keep0 hC0)).mono ?_
      rintro e w'' ⟨rfl, rfl⟩
      exact .inl ⟨_, rfl, hK _ _ (CB.pre hC0 rfl) (Keeps.refl _ _) rfl⟩
    · refine (need_no w').mono ?_
      rintro e w'' ⟨rfl, rfl⟩
      exact .inr ⟨_, rfl, rfl, hC0⟩
  case hend => intro vs w' hC; exact hC.elim
end Go.Proofs.YtbanpdeganlndaaGreatDoor
namespace Go.Proofs.YtbanpdeganlndaaGreatDoor
open Go.RowKit
open Reg (Is Fact CB)

attribute [local go_sem] Reg.lateFr Reg.wantedV Reg.gives_value Reg.gives_skip Reg.gives_enter
def FrameP (w : World) (h : DH) (rp nx en : Nat) (R : Option (List (List UInt8) × Nat)) (e : Ending) (w' : World) : Prop :=
  match R with
  | some (rs, k) => ∃ v lv, e = .returned v ∧ RowsOwn w' w.heap.size v rs ∧ RdrAt w' rp h.p (nx + k) en lv ∧ Keeps [rp] w w'
  | none => e = .panicked stopped ∧ Keeps [rp] w w'
theorem frameP_none {w w' : World} {h : DH} {rp nx en : Nat} {R : Option (List (List UInt8) × Nat)} (hR : R = none) (hk : Keeps [rp] w w') : FrameP w h rp nx en R (.panicked stopped) w' := by subst hR; exact ⟨rfl, hk⟩
theorem Sp.keeps {S : List Nat} {w w' : World} (h : Sp S none w w') : Keeps S w w' := h.1.mono (fun i hi _ => by simpa [blocks] using hi)
/-- What the first and the second taking amount to. -/
theorem first_take {s j : Nat} (hs : 64 ≤ s) (h1 : 9 ≤ j * s) (h2 : j = 0 ∨ (j - 1) * s < 9) : j = 1 := by
  rcases h2 with rfl | h2
  · omega
  · rcases j with _ | _ | j
    · omega
    · rfl
    · exfalso
      rw [show j + 1 + 1 - 1 = j + 1 by omega, Nat.add_mul] at h2
      omega
theorem second_take {s j n : Nat} (hs : 64 ≤ s) (h1 : n ≤ s - 9 + j * s) (h2 : j = 0 ∨ s - 9 + (j - 1) * s < n) : (9 + n + s - 1) / s = 1 + j := by
  have h3 : (1 + j) * s = s + j * s := by rw [Nat.add_mul]; omega
  refine Nat.div_eq_of_lt_le (by rcases h2 with rfl | h2
                                 · omega
                                 · rcases j with _ | j
                                   · omega
                                   · rw [Nat.add_sub_cancel] at h2
                                     have : (1 + (j + 1)) * s = s + (j * s + s) := by rw [Nat.add_mul, Nat.add_mul]; omega
                                     omega) (by rw [Nat.add_mul]; omega)
theorem cat_prefix {v : Nat → List UInt8} {nx j m : Nat} (h : j ≤ m) (n : Nat) (hn : n ≤ (L.cat v nx j).length) : (L.cat v nx j).take n = (L.cat v nx m).take n := by
  obtain ⟨k, rfl⟩ : ∃ k, m = j + k := ⟨m - j, by omega⟩
  rw [L.cat_add, List.take_append_of_le_length hn]
theorem cat_body {v : Nat → List UInt8} {nx en j s n : Nat} (h9 : 9 ≤ s) (hl : ∀ i, i < en → (v i).length = s) (hj : nx + 1 + j ≤ en) (hn : n ≤ s - 9 + j * s) : ((L.cat v nx 1).drop 9 ++ L.cat v (nx + 1) j).take n = ((L.cat v nx (en - nx)).drop 9).take n := by
  obtain ⟨m, hm⟩ : ∃ m, en - nx = 1 + (j + m) := ⟨en - nx - 1 - j, by omega⟩
  have h1 : (L.cat v nx 1).length = s := by rw [L.cat_one]; exact hl nx (by omega)
  have h2 : (L.cat v (nx + 1) j).length = j * s := L.cat_length fun i _ hi => hl i (by omega)
  rw [hm, L.cat_add 1, L.cat_add j, List.drop_append_of_le_length (by omega), ← List.append_assoc, List.take_append_of_le_length (l₁ := (L.cat v nx 1).drop 9 ++ L.cat v (nx + 1) j) (by rw [List.length_append, List.length_drop, h1, h2]; exact hn)]
theorem RowsOwn.lower {w : World} {W W' : Nat} {v : Value} {rs : List (List UInt8)} (h : RowsOwn w W v rs) (hW : W' ≤ W) : RowsOwn w W' v rs := by
  obtain ⟨xs, ho, he⟩ := h
  refine ⟨xs, ⟨ho.1, ho.2.imp id fun ⟨g, cap, cur, h1, h2, h3⟩ => ⟨g, cap, cur, h1, Nat.le_trans hW h2, h3⟩⟩, fun j hj => ?_⟩
  obtain ⟨x, h1, h2⟩ := he j hj
  exact ⟨x, h1, h2.mono fun y hy => ⟨Nat.le_trans hW hy.1, hy.2⟩⟩
theorem frameP_some {w w4 w5 : World} {h : DH} {rp nx en k : Nat} {R : Option (List (List UInt8) × Nat)} {Rs : Option (List (List UInt8))} {lv : Value} {e : Ending} (hR : R = Rs.map fun rs => (rs, k)) (hs : SplitP w4 Rs e w5) (hW : w.heap.size ≤ w4.heap.size) (hr : RdrAt w4 rp h.p (nx + k) en lv) (hk : Keeps [rp] w w4) : FrameP w h rp nx en R e w5 := by
  subst hR
  cases Rs with
  | none => exact ⟨hs.1, hk.trans hs.2 (by simp)⟩
  | some rs =>
    obtain ⟨v, h1, h2, h3⟩ := hs
    exact ⟨v, lv, h1, h2.lower hW, hr.keep h3 (by simp), hk.trans h3 (by simp)⟩
set_option maxRecDepth 100000 in
set_option maxHeartbeats 8000000 in
theorem frame_read (w : World) (h : DH) (B : Nat → Prop) (d : Dk) (rp nx en : Nat) (lv : Value) (x : DskAt w h B d) (hd : d.dead = false) (r : RdrAt w rp h.p nx en lv) (ht : TabAt w) (hr0 : rp ≠ 1) (hsep : ∀ y, (y ∈ h.l ∨ B y) → y ≠ rp)
    (hen : nx ≤ en) (hN : en ≤ d.dur.length) :
    Calls Tryz.prog 112 #[.pointer (some ⟨rp, 0, none⟩)] w (FrameP w h rp nx en (L.readF d.size (L.cat d.last nx (en - nx)))) := by
  have hsz := x.ok.size
  have hsecs := x.ok.secs
  have hlt := x.lt
  have hrpl := block_lt r
  obtain ⟨S, hS⟩ : ∃ S, S = L.cat d.last nx (en - nx) := ⟨_, rfl⟩
  have hSl : S.length = (en - nx) * d.size := by rw [hS]; exact L.cat_length fun j _ h2 => Dk.last_len x.ok (by omega)
  have hmul : (en - nx) * d.size ≤ 4096 * 4096 := Nat.mul_le_mul (by omega) hsz.2
  rw [← hS]
  obtain ⟨R, hR⟩ : ∃ R, R = L.readF d.size S := ⟨_, rfl⟩
  rw [← hR]
  have HR := Lib.hid hR
  have HS := Lib.hid hS
  have HSL := Lib.hid hSl
  obtain ⟨c0, c1, c2, c3⟩ := r.cells
  have f3 := row_free r 3
  obtain ⟨w1, hw1⟩ : ∃ w1, w1 = w.setCell ⟨rp, 3, none⟩ (.slice none 0 0) := ⟨_, rfl⟩
  have hk1 : Keeps [rp] w w1 := by rw [hw1]; exact (Keeps.refl _ _).setCell (by simp) _
  have hx1 : DskAt w1 h B d := x.keep hk1 (fun z hz => ⟨fun hm => by simp at hz; exact hsep z (.inl hm) hz, fun hb => by simp at hz; exact hsep z (.inr hb) hz⟩)
  have hr1 : RdrAt w1 rp h.p nx en (.slice none ([] : List UInt8).length 0) := by unfold RdrAt; rw [hw1, row_set r 3 _]; rfl
  have hsz1 : w1.heap.size = w.heap.size := by rw [hw1]; simp [World.setCell]
  have HX1 := Lib.hid hx1
  have HR1 := Lib.hid hr1
  have HK1 := Lib.hid hk1
  have HTAB := Lib.hid (ht.keep hk1 (by simp; omega))
  have HTABW := Lib.hid ht
  have HSEP := Lib.hid (show ∀ y, (y ∈ h.l ∨ B y) → y < w.heap.size ∧ y ≠ rp from fun y hy => ⟨by
    rcases hy with hy | hy
    · simp [DH.l] at hy; omega
    · exact x.low y hy, hsep y hy⟩)
  have HD := Lib.hid hd
  by_cases he : nx = en
  · have HNO := Lib.hid (take_no w1 h B d rp nx en 9 none 0 0 hx1 (by simpa using hr1) hen hN (by rw [he]; simp) (by omega) (by omega))
    have HRN := Lib.hid (show R = none by rw [hR]; exact L.readF_short (by rw [hSl, he]; simp))
    clear x r ht hsep hd hx1 hr1 hk1 hsz1 hR hS hSl
    subst hw1
    go_enter Tryz.func112, Tryz.ntmps112
    go_wp2_with fail
    refine HNO.out.mono ?_
    rintro e w2 ⟨rfl, hk2⟩
    have HK2 := Lib.hid (HK1.out.trans hk2 (by simp))
    clear hk2
    go_wp2
    exact ⟨rfl, frameP_none HRN.out HK2.out⟩
  · have hS9 : d.size ≤ S.length := by
      rw [hSl]
      have : 1 * d.size ≤ (en - nx) * d.size := Nat.mul_le_mul_right _ (by omega)
      omega
    have HT1 := Lib.hid (take_ok w1 h B d rp w.heap.size nx en 9 none 0 [] hx1 hd hr1 (.inl ⟨rfl, rfl, rfl⟩) (by omega) hrpl HSEP.out hen hN (by rw [← hSl]; simp; omega) (.inl (by omega)) (by simp) (by omega))
    have HW1 := Lib.hid hsz1
    clear x r ht hsep hd hx1 hr1 hk1 hsz1 hR hS hSl
    subst hw1
    go_enter Tryz.func112, Tryz.ntmps112
    go_wp2_with fail
    refine HT1.out.mono ?_
    rintro e w2 ⟨j, g, off, cap, A', cap', hj, hj1, hj2, rfl, h9c, hcm, hb2, hg, hr2, hl2, hA2, hsp2⟩
    have hjj : j = 1 := first_take hsz.1 (by simpa using hj1) (by simpa using hj2)
    subst hjj
    simp only [List.nil_append] at hb2 hr2 hl2 hA2
    have hk2 := hsp2.keeps
    have hx2 := HX1.out.keep hk2 (fun z hz => by simp at hz; rw [hz]; exact ⟨fun hm => (HSEP.out rp (.inl hm)).2 rfl, fun hb => (HSEP.out rp (.inr hb)).2 rfl⟩)
    have h1en : nx + 1 ≤ en := by omega
    have hone : (L.cat d.last nx 1).length = d.size := by rw [L.cat_one]; exact Dk.last_len HX1.out.ok (by omega)
    have hpre : (L.cat d.last nx 1).take 9 = S.take 9 := by rw [HS.out]; exact cat_prefix (by omega) 9 (by omega)
    rw [hpre] at hb2
    have hS9' : (S.take 9).length = 9 := by rw [List.length_take]; omega
    have hl2len : ((L.cat d.last nx 1).drop 9).length = d.size - 9 := by rw [List.length_drop, hone]
    have hA' := hA2 (by omega)
    subst hA'
    obtain ⟨⟨_, hlb, _⟩, hlc, _⟩ := hl2.bytes
    rw [hl2len] at hlc
    -- the parts of the head
    obtain ⟨o', ho', hcell⟩ : ∃ o', (some ⟨g, off, none⟩ : Option Addr) = some ⟨g, o', none⟩ ∧ ∀ k (h : k < (S.take 9).length), w2.cell? ⟨g, o' + k, none⟩ = some (.int .u8 (((S.take 9)[k].toNat : Nat) : Int)) := by
      rcases hb2 with h0 | h1
      · rw [h0] at hS9'; simp at hS9'
      · exact h1
    obtain rfl : off = o' := by simpa using ho'
    obtain ⟨b0, hb0⟩ : ∃ b0 : UInt8, b0 = S.getD 0 0 := ⟨_, rfl⟩
    have hc0 : w2.cell? ⟨g, off, none⟩ = some (.int .u8 ((b0.toNat : Nat) : Int)) := by
      have := hcell 0 (by omega)
      rw [Nat.add_zero] at this
      rw [this, hb0]
      congr 4
      rw [List.getElem_take, List.getD_eq_getElem?_getD, List.getElem?_eq_getElem (by omega), Option.getD_some]
    have hpart : ∀ w' a m, a + m ≤ 9 → (∀ j, j < off + 9 → w'.cell? ⟨g, j, none⟩ = w2.cell? ⟨g, j, none⟩) → BytesIn w' g (some ⟨g, off + a, none⟩) ((S.drop a).take m) := fun w' a m ham hkeep => .inr ⟨off + a, rfl, fun k hk => by
      have hk' : k < m := by rw [List.length_take] at hk; omega
      have := hcell (a + k) (by omega)
      rw [Nat.add_assoc, hkeep (off + (a + k)) (by omega), this]
      simp⟩
    have HPART := Lib.hid hpart
    have HNUM := Lib.hid (by
      have := number_any w2 g (cap - 1) (some ⟨g, off + 1, none⟩) ((S.drop 1).take 8) (hpart w2 1 8 (by omega) (fun _ _ => rfl)) (by rw [List.length_take, List.length_drop]; omega)
      rw [show ((S.drop 1).take 8).length = 8 by rw [List.length_take, List.length_drop]; omega, L.de_take (by omega) (by rw [List.length_drop]; omega)] at this
      exact this)
    obtain ⟨n, hn⟩ : ∃ n, n = L.de32 (S.drop 1) := ⟨_, rfl⟩
    have hnl : n < 4294967296 := by rw [hn]; exact L.de32_lt _
    rw [← hn] at HNUM
    have HN := Lib.hid hn
    have HB0 := Lib.hid hb0
    have HX2 := Lib.hid hx2
    have HR2 := Lib.hid hr2
    have HL2 := Lib.hid hl2
    have HK2 := Lib.hid (HK1.out.trans hk2 (fun _ h _ => h))
    have HTAB2 := Lib.hid (HTAB.out.keep hk2 (by simp; omega))
    have HONE := Lib.hid hone
    have HLL := Lib.hid hl2len
    have hg2 : g < w2.heap.size := World.block_lt_of_cell? w2 _ hc0
    have hw2s : w.heap.size ≤ w2.heap.size := by have := hk2.size; have := HW1.out; omega
    clear hsp2 hx2 hr2 hl2 hpre hb2 hone hl2len hcell hpart hn hb0 hk2 hj1 hj2 hA2 ho' hlb hS9'
    have hcn1 : ¬ cap = 1 := by omega
    have hcn5 : ¬ cap = 5 := by omega
    by_cases hm : b0 = 1
    · have hm1 : (((b0.toNat : Nat) : Int) == 1) = true := by rw [hm]; rfl
      have HM := Lib.hid hm
      clear hm
      by_cases hfit : n ≤ d.size - 9 + (en - (nx + 1)) * d.size
      · have hmul2 : (en - (nx + 1)) * d.size ≤ 4096 * 4096 := Nat.mul_le_mul (by omega) hsz.2
        have hl2 := HL2.out.bytes
        have HT2 := Lib.hid (take_ok w2 h B d rp w.heap.size (nx + 1) en n (some ⟨g, off + 9, none⟩) cap' ((L.cat d.last nx 1).drop 9) HX2.out HD.out HR2.out HL2.out hw2s hrpl HSEP.out h1en hN (by rw [HLL.out]; exact hfit) (.inr (by omega)) (by rw [HLL.out]; omega) (by omega))
        clear hl2
        go_wp2_with fail
        refine (need_yes w2).mono ?_
        rintro e w' ⟨rfl, rfl⟩
        go_wp2_with fail
        refine HNUM.out.mono ?_
        rintro e w' ⟨rfl, rfl⟩
        go_wp2_with fail
        refine HT2.out.mono ?_
        rintro e w3 ⟨j2, g3, off3, cap3, A3, cap3', hj3, hj31, hj32, rfl, hn3c, hc3m, hb3, hg3, hr3, hl3, hA3, hsp3⟩
        rw [HLL.out] at hj31 hj32
        have hkk := second_take hsz.1 hj31 hj32
        have hbody := cat_body (v := d.last) (by omega) (fun i hi => Dk.last_len HX2.out.ok (by omega)) hj3 hj31
        rw [← HS.out] at hbody
        rw [hbody] at hb3
        obtain ⟨bd, hbd⟩ : ∃ bd, bd = (S.drop 9).take n := ⟨_, rfl⟩
        rw [← hbd] at hb3
        have hSn : 9 + n ≤ S.length := by
          rw [HSL.out]
          have : (en - nx) * d.size = (en - (nx + 1)) * d.size + d.size := by rw [show en - nx = en - (nx + 1) + 1 by omega, Nat.add_mul]; omega
          omega
        have hbl : bd.length = n := by rw [hbd, List.length_take, List.length_drop]; omega
        have hk23 : Keeps [rp] w w3 := ((HK2.out.mono (T := [rp, g]) (by simp)).trans (hsp3.1.mono (T := [rp, g]) (by simp [blocks])) (fun _ h _ => h)).mono (fun i hi hl => by simp at hi ⊢; omega)
        have hlow : ∀ j, j < off + 9 → w3.cell? ⟨g, j, none⟩ = w2.cell? ⟨g, j, none⟩ := fun j hj => hsp3.2 ⟨g, off + 9, none⟩ rfl j hj
        have hg3s : g < w3.heap.size := by have := hsp3.1.size; omega
        have HH1 := Lib.hid (show ∀ w', Keeps [] w3 w' → BytesIn w' g (some ⟨g, off + 1, none⟩) ((S.drop 1).take 4) from fun w' hk => HPART.out w' 1 4 (by omega) (fun j hj => (hk.cell (p := ⟨g, j, none⟩) hg3s (by simp)).trans (hlow j hj)))
        have HH1L := Lib.hid (show ((S.drop 1).take 4).length = 4 by rw [List.length_take, List.length_drop]; omega)
        have HNM5 := Lib.hid (show ∀ w', Keeps [] w3 w' → Calls Tryz.prog 140 #[.slice (some ⟨g, off + 5, none⟩) 4 (cap - 5)] w' fun e w'' => e = .returned (.int .u32 ((L.de32 (S.drop 5) : Nat) : Int)) ∧ w' = w'' from fun w' hk => by
          have := number_any w' g (cap - 5) (some ⟨g, off + 5, none⟩) ((S.drop 5).take 4) (HPART.out w' 5 4 (by omega) (fun j hj => (hk.cell (p := ⟨g, j, none⟩) hg3s (by simp)).trans (hlow j hj))) (by rw [List.length_take, List.length_drop]; omega)
          rwa [show ((S.drop 5).take 4).length = 4 by rw [List.length_take, List.length_drop]; omega, L.de_take (by omega) (by rw [List.length_drop]; omega)] at this)
        obtain ⟨ce, hce⟩ : ∃ ce, ce = L.de32 (S.drop 5) := ⟨_, rfl⟩
        rw [← hce] at HNM5
        have HBD := Lib.hid (show ∀ w', Keeps [] w3 w' → BytesIn w' g3 (some ⟨g3, off3, none⟩) bd from fun w' hk => hb3.keep hk (by simp))
        have HBL := Lib.hid hbl
        obtain ⟨cc, hcc⟩ : ∃ cc, cc = M.crc [(S.drop 1).take 4, bd] := ⟨_, rfl⟩
        have HCC := Lib.hid hcc
        have HT3 := Lib.hid (show ∀ w', Keeps [] w3 w' → TabAt w' from fun w' hk => (HTABW.out.keep hk23 (by simp; omega)).keep hk (by simp))
        have HSPL := Lib.hid (show ∀ w', Keeps [] w3 w' → Calls Tryz.prog 141 #[.slice (some ⟨g3, off3, none⟩) n cap3] w' (SplitP w' (L.split bd)) from fun w' hk => by
          have := split_any w' g3 cap3 (some ⟨g3, off3, none⟩) bd (HBD.out w' hk) (by rw [hbl]; exact hn3c) hc3m (by omega)
          rwa [hbl] at this)
        have HRM := Lib.hid (show cc = ce → R = (L.split bd).map fun rs => (rs, 1 + j2) from fun h => by
          rw [HR.out, L.readF_ok (by omega) (by rw [← HB0.out]; exact HM.out) (by rw [← HN.out]; omega) (by rw [← HN.out, ← hbd, ← hcc, ← hce]; exact h), ← HN.out, ← hbd, hkk])
        have HRX := Lib.hid (show cc ≠ ce → R = none from fun h => by
          rw [HR.out]; exact L.readF_sum (by rw [← HN.out, ← hbd, ← hcc, ← hce]; exact h))
        have HR3 := Lib.hid hr3
        have HK3 := Lib.hid hk23
        have hw3s := hk23.size
        have h5i : (5 : Int) ≤ (9 : Int) := by omega
        have h1cap : (5 : Int) ≤ (cap : Int) := by omega
        clear hj31 hj32 hb3 hr3 hl3 hA3 hsp3 hkk hbody hbd hbl hk23 hlow hce hcc
        by_cases hcm2 : cc = ce
        · have hcb : (((cc : Nat) : Int) == ((ce : Nat) : Int)) = true := by rw [hcm2]; simp
          have HRS := Lib.hid (HRM.out hcm2)
          clear hcm2
          go_wp2_with fail
          refine Reg.wp_region_state (A := ?A) (fun _ w' => Keeps [] w3 w') (Keeps [])
            [Is (.slice (some ⟨g, off, none⟩) 9 cap), Is (.slice (some ⟨g, off + 1, none⟩) 4 (cap - 1)), Is (.slice (some ⟨g3, off3, none⟩) n cap3), NewRow [] w3.heap.size 62 #[.slice (some ⟨g, off + 1, none⟩) 4 (cap - 1), .slice (some ⟨g3, off3, none⟩) n cap3],
              Is (.int .u32 (cc : Int)), Is (.slice (some ⟨g, off, none⟩) 9 cap), Is (.slice (some ⟨g, off + 5, none⟩) 4 (cap - 5)), Is (.int .u32 (ce : Int)), Is (.bool true), Is (.tuple #[])]
            (by kernel_rfl) (by kernel_rfl) rfl ?hA ?hC ?ho ?hlast ?hend
          case hA => intro vs; simp only [Reg.fill, if_true, Nat.zero_add, Nat.reduceAdd, Act.put, List.setIfInBounds_toArray, List.set_cons_succ, List.set_cons_zero]; exact rfl
          case hC => exact (Keeps.refl _ _).drew
          case hlast => repeat (first | exact trivial | refine ⟨Is.keep0, ?_⟩ | refine ⟨NewRow.keep, ?_⟩)
          case ho =>
            repeat' apply And.intro
            all_goals
              first
                | exact trivial
                | (intro Ls vs w' hC0 hL hd K hK
                   try simp only [Reg.Deps, Reg.at_, List.getD_cons_zero, List.getD_cons_succ, Region.binds, true_implies, Is, and_true] at hd
                   go_simp
                   first
                     | exact hK _ _ hC0 (Keeps.refl _ _) rfl
                     | skip)
            · exact hK _ _ (hC0.alloc _) ((Keeps.refl _ _).alloc _) ⟨w'.heap.size, rfl, heap_alloc_new _ _, by simp, hC0.size⟩
            · obtain ⟨x9, hx, hxb, _⟩ := hd
              rw [hx]
              refine (crc_two (HT3.out w' hC0) hxb HH1L.out.symm HBL.out.symm (HH1.out w' hC0) (HBD.out w' hC0) (by rw [HH1L.out]; first | (unfold maxLen; omega) | decide | exact Nat.le_of_ble_eq_true rfl) (by rw [HBL.out]; unfold maxLen; omega)).mono ?_
              rintro e w'' ⟨rfl, rfl⟩
              rw [← HCC.out]
              exact ⟨_, rfl, hK _ _ hC0 (Keeps.refl _ _) rfl⟩
            · refine (HNM5.out w' hC0).mono ?_
              rintro e w'' ⟨rfl, rfl⟩
              exact ⟨_, rfl, hK _ _ hC0 (Keeps.refl _ _) rfl⟩
            · refine (need_yes w').mono ?_
              rintro e w'' ⟨rfl, rfl⟩
              exact ⟨_, rfl, hK _ _ hC0 (Keeps.refl _ _) rfl⟩
          case hend =>
            intro vs w4 hC hall
            have HK4 := Lib.hid hC
            have HSP4 := Lib.hid (HSPL.out w4 hC)
            clear hall hC
            go_wp2_with fail
            refine HSP4.out.mono ?_
            intro e w5 hq
            obtain ⟨fv, hfv⟩ | hpn : (∃ fv, e = .returned fv) ∨ e = .panicked stopped := by
              unfold SplitP at hq
              split at hq
              · obtain ⟨v, hv, _⟩ := hq; exact .inl ⟨v, hv⟩
              · exact .inr hq.1
            · subst hfv
              have HFP := Lib.hid (frameP_some (w := w) (h := h) (rp := rp) (nx := nx) (en := en) HRS.out hq (by have := HK4.out.size; omega) (show RdrAt w4 rp h.p (nx + (1 + j2)) en _ from by have := HR3.out.keep HK4.out (by simp); rwa [Nat.add_assoc] at this) (HK3.out.trans HK4.out (by simp)))
              clear hq
              go_wp2_with fail
              go_ret
              exact HFP.out
            · subst hpn
              have HFP := Lib.hid (frameP_some (w := w) (h := h) (rp := rp) (nx := nx) (en := en) HRS.out hq (by have := HK4.out.size; omega) (show RdrAt w4 rp h.p (nx + (1 + j2)) en _ from by have := HR3.out.keep HK4.out (by simp); rwa [Nat.add_assoc] at this) (HK3.out.trans HK4.out (by simp)))
              clear hq
              go_wp2
              exact ⟨rfl, HFP.out⟩
        · have hcb : (((cc : Nat) : Int) == ((ce : Nat) : Int)) = false := by rw [beq_eq_false_iff_ne]; omega
          have HRS := Lib.hid (HRX.out hcm2)
          clear hcm2
          go_wp2_with fail
          refine RegP.wp_region_last (fun c w' => c = stopped ∧ Keeps [] w3 w') 9 [0, 1, 2, 3, 4, 5, 6, 7, 8] (fun w' => Keeps [] w3 w') (fun _ => False) (Keeps []) (A := ?A9)
            [Is (.slice (some ⟨g, off, none⟩) 9 cap), Is (.slice (some ⟨g, off + 1, none⟩) 4 (cap - 1)), Is (.slice (some ⟨g3, off3, none⟩) n cap3), NewRow [] w3.heap.size 62 #[.slice (some ⟨g, off + 1, none⟩) 4 (cap - 1), .slice (some ⟨g3, off3, none⟩) n cap3],
              Is (.int .u32 (cc : Int)), Is (.slice (some ⟨g, off, none⟩) 9 cap), Is (.slice (some ⟨g, off + 5, none⟩) 4 (cap - 5)), Is (.int .u32 (ce : Int)), Is (.bool false), Is (.tuple #[])]
            ?hQ9 (by kernel_rfl) (by kernel_rfl) (by kernel_rfl) rfl ?hA9 ?hC9 ?ho9 ?hlast9 ?hend9
          case hQ9 =>
            intro b c w' hb hq
            exact ⟨hb, by rw [hq.1]; exact frameP_none HRS.out (HK3.out.trans hq.2 (by simp))⟩
          case hA9 => intro vs; simp only [Reg.fill, if_true, Nat.zero_add, Nat.reduceAdd, Act.put, List.setIfInBounds_toArray, List.set_cons_succ, List.set_cons_zero]; exact rfl
          case hC9 => exact (Keeps.refl _ _).drew
          case hlast9 => repeat (first | exact trivial | refine ⟨Is.keep0, ?_⟩ | refine ⟨NewRow.keep, ?_⟩)
          case ho9 =>
            repeat' apply And.intro
            all_goals
              first
                | exact trivial
                | (intro b vs w' hC hb hd K hK
                   have hbb : b = false := by apply hb; decide
                   subst hbb
                   have hC0 := hC.1 rfl
                   try simp only [Reg.Deps, Reg.at_, List.getD_cons_zero, List.getD_cons_succ, Region.binds, true_implies, Is, and_true] at hd
                   simp only [Reg.wantedV, if_true]
                   go_simp
                   simp only [RegP.gives_value, RegP.gives_skip, RegP.gives_enter]
                   first
                     | exact hK _ _ (CB.pre hC0 rfl) (Keeps.refl _ _) rfl
                     | skip)
            · exact hK _ _ (CB.pre (hC0.alloc _) rfl) ((Keeps.refl _ _).alloc _) ⟨w'.heap.size, rfl, heap_alloc_new _ _, by simp, hC0.size⟩
            · obtain ⟨x9, hx, hxb, _⟩ := hd
              rw [hx]
              refine (crc_two (HT3.out w' hC0) hxb HH1L.out.symm HBL.out.symm (HH1.out w' hC0) (HBD.out w' hC0) (by rw [HH1L.out]; first | (unfold maxLen; omega) | decide | exact Nat.le_of_ble_eq_true rfl) (by rw [HBL.out]; unfold maxLen; omega)).mono ?_
              rintro e w'' ⟨rfl, rfl⟩
              rw [← HCC.out]
              exact .inl ⟨_, rfl, hK _ _ (CB.pre hC0 rfl) (Keeps.refl _ _) rfl⟩
            · refine (HNM5.out w' hC0).mono ?_
              rintro e w'' ⟨rfl, rfl⟩
              exact .inl ⟨_, rfl, hK _ _ (CB.pre hC0 rfl) (Keeps.refl _ _) rfl⟩
            · refine (need_no w').mono ?_
              rintro e w'' ⟨rfl, rfl⟩
              exact .inr ⟨_, rfl, rfl, hC0⟩
          case hend9 => intro vs w' hC; exact hC.elim
      · have HNO := Lib.hid (take_no w2 h B d rp (nx + 1) en n _ cap' (d.size - 9) HX2.out (by have := HR2.out; rwa [HLL.out] at this) h1en hN (by omega) (by omega) (by omega))
        have HRN := Lib.hid (show R = none by
          rw [HR.out]
          refine L.readF_long ?_
          rw [← HN.out, HSL.out]
          have : (en - nx) * d.size = (en - (nx + 1)) * d.size + d.size := by rw [show en - nx = en - (nx + 1) + 1 by omega, Nat.add_mul]; omega
          omega)
        go_wp2_with fail
        refine (need_yes w2).mono ?_
        rintro e w' ⟨rfl, rfl⟩
        go_wp2_with fail
        refine HNUM.out.mono ?_
        rintro e w' ⟨rfl, rfl⟩
        go_wp2_with fail
        refine HNO.out.mono ?_
        rintro e w3 ⟨rfl, hk3⟩
        have HK3 := Lib.hid (HK2.out.trans hk3 (by simp))
        clear hk3
        go_wp2
        exact ⟨rfl, frameP_none HRN.out HK3.out⟩
    · have hm1 : (((b0.toNat : Nat) : Int) == 1) = false := by
        rw [beq_eq_false_iff_ne]
        intro h
        refine hm (UInt8.toNat_inj.1 ?_)
        have : (1 : UInt8).toNat = 1 := rfl
        omega
      have HRN := Lib.hid (show R = none by rw [HR.out]; exact L.readF_unmarked (by rw [← HB0.out]; exact hm))
      clear hm
      go_wp2_with fail
      refine (need_no w2).mono ?_
      rintro e w' ⟨rfl, rfl⟩
      go_wp2
      exact ⟨rfl, frameP_none HRN.out HK2.out⟩
end Go.Proofs.YtbanpdeganlndaaGreatDoor
namespace Go.Proofs.YtbanpdeganlndaaGreatDoor
open Go.RowKit
open Reg (Is Fact CB)

attribute [local go_sem] Reg.lateFr Reg.wantedV Reg.gives_value Reg.gives_skip Reg.gives_enter
theorem assert_stop (w : World) : (Instr.typeAssert (.iface 169 (.agg #[.int .i64 0])) 20 169 true).run Tryz.prog w = .ok (.tuple #[.agg #[.int .i64 0], .bool true]) w := by kernel_rfl
set_option maxRecDepth 100000 in
theorem panicking_area (q : Nat) (x : Value) (older : List PanicEntry) (w : World) (hq : w.heap[q]? = some (.cells #[x] 28 (0, 0))) :
    CallsD Tryz.prog 111 #[.pointer (some ⟨q, 0, none⟩)] (.panicking ({ v := .iface 169 (.agg #[.int .i64 0]), recovered := false } :: older)) w fun e u' w' =>
      e = .returned (.tuple #[]) ∧ u' = .panicking ({ v := .iface 169 (.agg #[.int .i64 0]), recovered := true } :: older) ∧ w'.heap[q]? = some (.cells #[.int .i64 0] 28 (0, 0)) ∧ Keeps [q] w w' := by
  have hlt := block_lt hq
  have hc0 : (w.alloc (.cells #[.int .i64 0] 169)).cell? ⟨q, 0, none⟩ = some x := by
    rw [((Keeps.refl [] w).alloc _).cell (p := ⟨q, 0, none⟩) hlt (by simp), row_cell hq]; rfl
  have hz0 : (w.alloc (.cells #[.int .i64 0] 169)).frozen? ⟨q, 0, none⟩ = false := row_free (block_keep hq ((Keeps.refl [] w).alloc _) (by simp)) 0
  have hn0 : (w.alloc (.cells #[.int .i64 0] 169)).cell? ⟨w.heap.size, 0, none⟩ = some (.int .i64 0) := by rw [row_cell (heap_alloc_new w _)]; rfl
  refine callsD_of_wpS Tryz.func111 rfl fun c₀ cs hu => ?_
  apply wpS_seq
  apply wpS_region
  simp [wpOpsS, go_sem, recoverD, hu, assert_stop, hc0, hz0, hn0, Tryz.ntmps111, Exit.thenS]
  apply wpS_seq
  apply wpS_region
  simp [wpOpsS, go_sem, Exit.thenS]
  refine wpS_cond (t := true) (by simp [Act.eval]) ?_
  simp only [if_true]
  apply wpS_region
  simp [wpOpsS, go_sem, hc0, hz0, hn0, bodyPostS, results, Tryz.results111]
  exact ⟨by rw [row_set (block_keep hq ((Keeps.refl [] w).alloc _) (by simp)) 0 _]; rfl, ((Keeps.refl [q] w).alloc _).setCell (by simp) _⟩
theorem split_count : ∀ {b : List UInt8} {rs : List (List UInt8)}, L.split b = some rs → 4 * rs.length ≤ b.length := by
  intro b
  induction hb : b.length using Nat.strongRecOn generalizing b with
  | ind n ih =>
    intro rs h
    by_cases h0 : b = []
    · subst h0; rw [L.split_nil] at h; cases h; simp
    · by_cases h4 : 4 ≤ b.length
      · by_cases hf : L.de32 b ≤ b.length - 4
        · rw [L.split_next h4 hf, Option.map_eq_some_iff] at h
          obtain ⟨rs', h1, rfl⟩ := h
          have := ih ((b.drop 4).drop (L.de32 b)).length (by rw [List.length_drop, List.length_drop]; omega) rfl h1
          rw [List.length_drop, List.length_drop] at this
          rw [List.length_cons]; omega
        · rw [L.split_cut h4 (by omega)] at h; cases h
      · rw [L.split_short h0 (by omega)] at h; cases h
theorem readF_count {s : Nat} {S : List UInt8} {rs : List (List UInt8)} {k : Nat} (hs : 0 < s) (h : L.readF s S = some (rs, k)) : 4 * rs.length ≤ k * s := by
  obtain ⟨_, h2, _⟩ := L.readF_pos hs h
  obtain ⟨_, _, _, _, h5, _⟩ := L.readF_parts h
  have h3 := split_count h5
  rw [List.length_take] at h3
  omega
def NewRdr (W : Nat) (dp nx en : Nat) : Fact := fun v w => ∃ x, v = .pointer (some ⟨x, 0, none⟩) ∧ RdrAt w x dp nx en (.slice none 0 0) ∧ W ≤ x
theorem NewRdr.keep0 {W dp nx en : Nat} : ∀ v w w', NewRdr W dp nx en v w → Keeps [] w w' → NewRdr W dp nx en v w' := by
  rintro v w w' ⟨x, h1, h2, h3⟩ hk
  exact ⟨x, h1, h2.keep hk (by simp), h3⟩
def rdrNext (rp : Nat) (w : World) : Nat := match w.cell? ⟨rp, 1, none⟩ with
  | some (.int _ z) => z.toNat
  | _ => 0
theorem rdrNext_of {w : World} {rp dp nx en : Nat} {v : Value} (h : RdrAt w rp dp nx en v) : rdrNext rp w = nx := by
  unfold rdrNext; rw [h.cells.2.1]; simp
/-- What loadArea yields. -/
def AreaP (w : World) (h : DH) (lp a : Nat) (d : Dk) (e : Ending) (w' : World) : Prop :=
  ∃ rs u v, e = .returned (.tuple #[v, .int .i64 0]) ∧ L.Reads d.size (L.cat d.last (L.st d.dur.length a) (L.cap d.dur.length)) rs u ∧ RowsOwn w' w.heap.size v rs ∧ LogAt w' lp h.p ⟨a, u, rs.length, false⟩ ∧ Keeps [lp] w w'
set_option maxRecDepth 100000 in
set_option maxHeartbeats 8000000 in
theorem area_any (w : World) (h : DH) (B : Nat → Prop) (d : Dk) (lp a : Nat) (x : DskAt w h B d) (hd : d.dead = false) (y : LogAt w lp h.p ⟨a, 0, 0, false⟩) (ht : TabAt w) (hlB : ¬ B lp) (hlp0 : lp ≠ 1) (ha : a ≤ 1) (hN : 16 ≤ d.dur.length) :
    Calls Tryz.prog 74 #[.pointer (some ⟨lp, 0, none⟩)] w (AreaP w h lp a d) := by
  have hmf : ∀ (fn : Fn) (first cap : Array Value) (w : World), (Instr.makeFunc fn first cap).run Tryz.prog w = .ok (.func fn first cap) w := fun _ _ _ _ => rfl
  obtain ⟨iS, hS, hS0, hS1, hS2⟩ := info_parts infoSl
  have hsz := x.ok.size
  have hsecs := x.ok.secs
  have hlt := x.lt
  have hne := y.ne x
  have hll := y.lt
  have hcap := L.cap_room hN
  have hstf := L.st_fits (N := d.dur.length) (a := a) (by omega) ha
  have hk0 : Keeps [] w (w.alloc (.cells #[.int .i64 0] 28)) := (Keeps.refl _ _).alloc _
  have HX0 := Lib.hid (x.keep0 hk0)
  have HY0 := Lib.hid (y.keep hk0 (by simp))
  have HT0 := Lib.hid (ht.keep hk0 (by simp))
  have hbx : (w.alloc (.cells #[.int .i64 0] 28)).heap[w.heap.size]? = some (.cells #[.int .i64 0] 28 (0, 0)) := heap_alloc_new w _
  have HBX := Lib.hid hbx
  have HK0 := Lib.hid hk0
  have HNE := Lib.hid hne
  have HLB := Lib.hid hlB
  have HLOW := Lib.hid x.low
  have HD := Lib.hid hd
  obtain ⟨c0, c1, c2, c3, c4⟩ := (HY0.out).cells
  obtain ⟨st, hst⟩ : ∃ st, st = L.st d.dur.length a := ⟨_, rfl⟩
  obtain ⟨cp, hcp⟩ : ∃ cp, cp = L.cap d.dur.length := ⟨_, rfl⟩
  have HSTART := Lib.hid (start_any _ h B d lp ⟨a, 0, 0, false⟩ HX0.out HY0.out a ha)
  have HCAP := Lib.hid (fun w' (hk : Keeps [] (w.alloc (.cells #[.int .i64 0] 28)) w') => capacity_any w' h B d lp ⟨a, 0, 0, false⟩ (HX0.out.keep0 hk) (HY0.out.keep hk (by simp)) hN)
  rw [← hst] at HSTART hstf
  rw [← hcp] at HCAP hcap
  have HST := Lib.hid hst
  have HCP := Lib.hid hcp
  have e1 : IntKind.i64.wrap ((st : Int) + (cp : Int)) = ((st + cp : Nat) : Int) := by
    rw [show ((st + cp : Nat) : Int) = (st : Int) + (cp : Int) by push_cast; rfl]; exact IntWalk.i64_in _ ⟨by omega, by omega⟩
  clear x y ht hd hlB hne hk0 hbx hst hcp
  go_enter_defers Tryz.func74, Tryz.ntmps74
  go_wp2_with fail
  refine HSTART.out.mono ?_
  rintro e w' ⟨rfl, rfl⟩
  go_wp2_with fail
  refine Reg.wp_region_state (A := ?A) (fun _ w' => Keeps [] (w.alloc (.cells #[.int .i64 0] 28)) w') (Keeps [])
    [Is (.pointer (some ⟨lp, 0, none⟩)), Is (.pointer (some ⟨lp, 0, none⟩)), Is (.pointer (some ⟨lp, 0, none⟩)), Is (.pointer (some ⟨h.p, 0, none⟩)), Is (.int .i64 (st : Int)), Is (.int .i64 (st : Int)), Is (.pointer (some ⟨lp, 0, none⟩)), Is (.int .i64 (cp : Int)), Is (.int .i64 ((st + cp : Nat) : Int)),
     Is (.agg #[.pointer (some ⟨h.p, 0, none⟩), .int .i64 (st : Int), .int .i64 ((st + cp : Nat) : Int), .slice none 0 0]), NewRdr (w.heap.size + 1) h.p st (st + cp), NewRdr (w.heap.size + 1) h.p st (st + cp)]
    (by kernel_rfl) (by kernel_rfl) rfl ?hA ?hC ?ho ?hlast ?hend
  case hA => intro vs; simp only [Reg.fill, if_true, Nat.zero_add, Nat.reduceAdd, Act.put, List.setIfInBounds_toArray, List.set_cons_succ, List.set_cons_zero]; exact rfl
  case hC => exact (Keeps.refl _ _).drew
  case hlast => repeat (first | exact trivial | refine ⟨Is.keep0, ?_⟩ | refine ⟨NewRdr.keep0, ?_⟩)
  case ho =>
    repeat' apply And.intro
    all_goals
      first
        | exact trivial
        | (intro Ls vs w' hC hL hd K hK
           try simp only [Reg.Deps, Reg.at_, List.getD_cons_zero, List.getD_cons_succ, Region.binds, true_implies, Is, and_true] at hd
           have q0 := hC.cell_some c0 (by simp)
           have q1 := hC.cell_some c1 (by simp)
           go_simp
           first
             | exact hK _ _ hC (Keeps.refl _ _) rfl
             | skip)
    · refine (HCAP.out w' hC).mono ?_
      rintro e w'' ⟨rfl, rfl⟩
      exact ⟨_, rfl, hK _ _ hC (Keeps.refl _ _) rfl⟩
    · have hs9 := hC.size
      refine hK _ _ (hC.alloc _) ((Keeps.refl _ _).alloc _) ⟨w'.heap.size, rfl, ?_, by simpa using hs9⟩
      exact heap_alloc_new _ _
    · exact hK _ _ hC (Keeps.refl _ _) (by first | exact hd | exact hd.1)
  case hend =>
    intro vs w1 hk1 hall
    obtain ⟨rp, hv11, hrd, hrp⟩ : NewRdr (w.heap.size + 1) h.p st (st + cp) (vs 11) w1 := hall.2.2.2.2.2.2.2.2.2.2.2.1
    have HK1 := Lib.hid hk1
    have HX1 := Lib.hid (HX0.out.keep0 hk1)
    have HY1 := Lib.hid (HY0.out.keep hk1 (by simp))
    have HT1 := Lib.hid (HT0.out.keep hk1 (by simp))
    have HBX1 := Lib.hid (block_keep HBX.out hk1 (by simp))
    have HRD := Lib.hid hrd
    have hrpl := block_lt hrd
    have hw1 := hk1.size
    simp only [World.size_alloc] at hw1
    obtain ⟨S, hS⟩ : ∃ S, S = L.cat d.last st cp := ⟨_, rfl⟩
    have hsiz : ∀ i, i < d.dur.length → (d.last i).length = d.size := fun i hi => Dk.last_len HX1.out.ok hi
    have hSl : S.length = cp * d.size := by rw [hS]; exact L.cat_length fun j _ h2 => hsiz j (by omega)
    have hcps : cp * d.size ≤ 4096 * 4096 := Nat.mul_le_mul (by omega) hsz.2
    have HS := Lib.hid hS
    have HSL := Lib.hid hSl
    have HSIZ := Lib.hid hsiz
    rw [hv11]
    clear hall hk1 hrd hv11 hS hSl hsiz c0 c1 c2 c3 c4 e1
    go_wp2_with fail
    go_loopw [2] (fun rv wr => ∃ u acc Ar cr lv, rv = .slice Ar acc.length cr ∧ u ≤ cp ∧ 4 * acc.length ≤ u * d.size ∧ RowsOwn wr w1.heap.size (.slice Ar acc.length cr) acc ∧ RdrAt wr rp h.p (st + u) (st + cp) lv ∧ LogAt wr lp h.p ⟨a, u, acc.length, false⟩ ∧ Keeps [lp, rp] w1 wr ∧ (∀ rs' u', L.Reads d.size (S.drop (u * d.size)) rs' u' → L.Reads d.size S (acc ++ rs') (u + u'))) (fun _ wr => st + cp - rdrNext rp wr)
    case atStart => exact ⟨0, [], none, 0, _, rfl, by omega, by simp, RowsOwn.nil _ _, HRD.out, HY1.out, Keeps.refl _ _, fun rs' u' hr => by simpa using hr⟩
    case round =>
      obtain ⟨u, acc, Ar, cr, lv, rfl, huc, hcnt, hown, hrd, hlog, hkp, hreads⟩ := hrel
      have husz : u * d.size ≤ cp * d.size := Nat.mul_le_mul_right _ huc
      have hcnt2 : acc.length ≤ 4194304 := by omega
      have hkd : DskAt wr h B d := HX1.out.keep hkp (fun z hz => by
        simp only [List.mem_cons, List.not_mem_nil, or_false] at hz
        rcases hz with rfl | rfl
        · exact ⟨HNE.out.2.2.2, HLB.out⟩
        · exact ⟨by simp [DH.l]; omega, fun hb => by have := HLOW.out _ hb; omega⟩)
      have htd : TabAt wr := HT1.out.keep hkp (by simp; omega)
      have hdrop : S.drop (u * d.size) = L.cat d.last (st + u) (st + cp - (st + u)) := by
        rw [HS.out, L.cat_drop huc (fun j _ h2 => HSIZ.out j (by omega)), show st + cp - (st + u) = cp - u by omega]
      have HFR := Lib.hid (by
        have := frame_read wr h B d rp (st + u) (st + cp) lv hkd HD.out hrd htd (by omega) (fun z hz => by
          rcases hz with hz | hz
          · simp [DH.l] at hz; omega
          · have := HLOW.out z hz; omega) (by omega) (by omega)
        rw [← hdrop] at this
        exact this)
      have HLG := Lib.hid hlog
      have HKP := Lib.hid hkp
      have HRE := Lib.hid hreads
      have HOW := Lib.hid hown
      have HRN := Lib.hid (rdrNext_of hrd)
      have hwrs := hkp.size
      have HBXR := Lib.hid (block_keep HBX1.out hkp (by simp; omega))
      clear hkd htd hdrop hrd hlog hkp hreads hown
      cases hR : L.readF d.size (S.drop (u * d.size)) with
      | none =>
        have HFN := Lib.hid (HFR.out.mono (fun e w' hq => (by rw [hR] at hq; exact hq : e = .panicked stopped ∧ Keeps [rp] wr w')))
        have HFIN := Lib.hid (HRE.out [] 0 (.stop hR))
        clear hR
        go_wp2_with fail
        refine HFN.out.mono ?_
        rintro e w2 ⟨rfl, hk2⟩
        have HK2 := Lib.hid hk2
        have HBX2 := Lib.hid (block_keep HBXR.out hk2 (by simp; omega))
        clear hk2
        have HOW2 := Lib.hid (HOW.out.keep HK2.out (by simp; omega))
        have HLG2 := Lib.hid (HLG.out.keep HK2.out (by simp; omega))
        go_wp2
        unfold stopped
        refine leaves_cons (f := 111) (args := #[.pointer (some ⟨w.heap.size, 0, none⟩)]) (by simp) (by simp [go_sem]) ?_
        refine (panicking_area w.heap.size _ [] w2 HBX2.out).mono ?_
        rintro e u' w3 ⟨rfl, rfl, hb3, hk3⟩
        have hc3 : w3.cell? ⟨w.heap.size, 0, none⟩ = some (.int .i64 0) := row_cell hb3 0
        have HFA := Lib.hid (show AreaP w h lp a d (.returned (.tuple #[.slice Ar acc.length cr, .int .i64 0])) w3 from by
          refine ⟨acc, u, _, rfl, ?_, (HOW2.out.keep hk3 (by simp; omega)).lower (by omega), HLG2.out.keep hk3 (by simp; omega), ?_⟩
          · have := HFIN.out
            rw [List.append_nil, Nat.add_zero] at this
            rw [← HST.out, ← HCP.out, ← HS.out]; exact this
          · have k1 : Keeps [lp, rp, w.heap.size] w w1 := ((HK0.out.trans HK1.out (by simp)).mono (by simp))
            have k2 : Keeps [lp, rp, w.heap.size] w wr := k1.trans HKP.out (fun i hi _ => by simp at hi ⊢; omega)
            have k3 : Keeps [lp, rp, w.heap.size] w w2 := k2.trans HK2.out (fun i hi _ => by simp at hi ⊢; omega)
            have k4 : Keeps [lp, rp, w.heap.size] w w3 := k3.trans hk3 (fun i hi _ => by simp at hi ⊢; omega)
            exact k4.mono (fun i hi hl => by simp at hi ⊢; omega))
        simp [Leaves, settle, results, Tryz.results74, go_sem, hc3]
        exact HFA.out
      | some p =>
        obtain ⟨rs, k⟩ := p
        have hkp1 := L.readF_pos (by omega) hR
        have HSD := Lib.hid (show (S.drop (u * d.size)).length = (cp - u) * d.size by rw [List.length_drop, HSL.out, Nat.sub_mul])
        have hkf := L.readF_fits (by omega) HSD.out hR
        have hrc := readF_count (by omega) hR
        have hks : k * d.size ≤ cp * d.size := Nat.mul_le_mul_right _ (by omega)
        have HFN := Lib.hid (HFR.out.mono (fun e w' hq => (by rw [hR] at hq; exact hq : ∃ v lv, e = .returned v ∧ RowsOwn w' wr.heap.size v rs ∧ RdrAt w' rp h.p (st + u + k) (st + cp) lv ∧ Keeps [rp] wr w')))
        have HRE2 := Lib.hid (show ∀ rs' u', L.Reads d.size (S.drop ((u + k) * d.size)) rs' u' → L.Reads d.size S ((acc ++ rs) ++ rs') (u + k + u') from fun rs' u' hr => by
          have := HRE.out (rs ++ rs') (k + u') (.more hR (by rw [List.drop_drop, ← Nat.add_mul]; exact hr))
          rw [← List.append_assoc, ← Nat.add_assoc] at this
          exact this)
        have huk : (u + k) * d.size = u * d.size + k * d.size := Nat.add_mul _ _ _
        clear hR
        go_wp2_with fail
        refine HFN.out.mono ?_
        rintro e w2 ⟨v2, lv2, rfl, hown2, hrd2, hk2⟩
        obtain ⟨A2, c2, hv2, hA2, _, _⟩ := hown2.form
        subst hv2
        have hw2 := hk2.size
        obtain ⟨xs, hxo, hxe⟩ := HOW.out.keep hk2 (by simp; omega)
        obtain ⟨ys, hyo, hye⟩ := hown2
        have HXO := Lib.hid hxo
        have HXE := Lib.hid hxe
        have HYL := Lib.hid (show ys.length = rs.length * 1 from hyo.1)
        have HYE := Lib.hid (show ∀ j (hj : j < rs.length), ∃ x, ys[j]? = some x ∧ ElV w2 (fun g => w1.heap.size ≤ g ∧ (Value.slice Ar acc.length cr).ownBlock ≠ some g) x rs[j] from fun j hj => by
          obtain ⟨x, q1, q2⟩ := hye j hj
          refine ⟨x, q1, q2.mono fun z hz => ⟨by omega, fun e => ?_⟩⟩
          obtain ⟨xs0, h0o, _⟩ := HOW.out
          have := (h0o.lt z e).2
          omega)
        have HY1 := Lib.hid (show ∀ u ∈ ys, u.oneCell' = true from fun z hz => by
          obtain ⟨j, hj, rfl⟩ := List.getElem_of_mem hz
          have hl := hyo.1
          obtain ⟨x, q1, q2⟩ := hye j (by omega)
          rw [List.getElem?_eq_getElem hj] at q1
          rw [Option.some.inj q1]; exact q2.one)
        have HYC := Lib.hid (show ∀ ad, A2 = some ad → ∀ j u, ys[j]? = some u → w2.cell? (ad.add j) = some u from fun ad e j z hz => by
          rcases hyo.2 with ⟨hv, _⟩ | ⟨g9, c9, cu9, hv, _⟩
          · rw [e] at hv; cases hv
          · have he : A2 = some ⟨g9, 0, none⟩ := by injection hv
            rw [e] at he
            obtain rfl := Option.some.inj he
            exact hyo.cells (g := g9) (by rw [hv]; rfl) j z hz)
        have HA2 := Lib.hid (show A2 = none → rs.length = 0 from fun e => by rw [hA2 e]; rfl)
        have HK2 := Lib.hid hk2
        have HRD2 := Lib.hid hrd2
        have HLG2 := Lib.hid (HLG.out.keep hk2 (by simp; omega))
        clear hxo hxe hyo hye hk2 hrd2 hA2
        go_wp2_with (at_builtin; refine wpList_append_in _ rfl _ _ 49 rfl w1.heap.size 62 iS (.slice none 0 0) 1 24 Tryz.underlying49 hS hS0 hS1 hS2 rfl (by decide) (.slice Ar acc.length cr) acc.length xs rfl HXO.out A2 rs.length c2 ys rfl HYL.out HA2.out HYC.out HY1.out ?p1 ?p2 ?p3 ?_)
        case p1 => unfold maxLen; omega
        case p2 => omega
        case p3 => omega
        intro v3 w3 ho3 hg3 hat3
        have hmore : RowsOwn w3 w1.heap.size v3 (acc ++ rs) := RowsOwn.more HXO.out HXE.out HYE.out ho3 hg3 hat3
        obtain ⟨Ar3, cr3, hv3, _, _, _⟩ := hmore.form
        have hk3 : Keeps (Value.slice Ar acc.length cr).ownBlock.toList w2 w3 := Keeps.of_grown hg3
        have hob : ∀ z ∈ (Value.slice Ar acc.length cr).ownBlock.toList, w1.heap.size ≤ z := fun z hz => by
          cases hq : (Value.slice Ar acc.length cr).ownBlock with
          | none => rw [hq] at hz; simp at hz
          | some r => rw [hq] at hz; simp at hz; have := HXO.out.lt r hq; omega
        have HRD3 := Lib.hid (HRD2.out.keep hk3 (fun hm => by have := hob _ hm; omega))
        have HLG3 := Lib.hid (HLG2.out.keep hk3 (fun hm => by have := hob _ hm; omega))
        have HMO := Lib.hid hmore
        have HK23 := Lib.hid (show Keeps [lp, rp] w1 w3 from ((HKP.out.trans HK2.out (fun i hi _ => by simp at hi; simp [hi])).mono (T := [lp, rp] ++ (Value.slice Ar acc.length cr).ownBlock.toList) (fun i hi _ => List.mem_append_left _ hi)).trans hk3 (fun i hi _ => by simp [hi]) |>.mono (fun i hi hl => by
          simp only [List.mem_append] at hi
          rcases hi with hi | hi
          · exact hi
          · have := hob i hi; omega))
        have HOB := Lib.hid hob
        subst hv3
        have HHB3 := Lib.hid (show True from trivial)
        obtain ⟨t0, t1, t2, t3⟩ := HRD3.out.cells
        obtain ⟨l0, l1, l2, l3, l4⟩ := HLG3.out.cells
        have f2 := HLG3.out.free 2
        have f3 := HLG3.out.free 3
        have hns : (acc ++ rs).length = acc.length + rs.length := List.length_append
        obtain ⟨nn, hnn⟩ : ∃ nn, nn = (acc ++ rs).length := ⟨_, rfl⟩
        have HNN := Lib.hid hnn
        rw [← hnn]
        obtain ⟨w4, hw4⟩ : ∃ w4, w4 = (w3.setCell ⟨lp, 2, none⟩ (.int .i64 ((st : Int) + (u : Int) + (k : Int) - (st : Int)))).setCell ⟨lp, 3, none⟩ (.int .i64 (nn : Int)) := ⟨_, rfl⟩
        have hk4 : Keeps [lp] w3 w4 := by rw [hw4]; exact ((Keeps.refl _ _).setCell (by simp) _).setCell (by simp) _
        have HLG4 := Lib.hid (show LogAt w4 lp h.p ⟨a, u + k, (acc ++ rs).length, false⟩ by
          unfold LogAt
          rw [hw4, row_set (row_set HLG3.out 2 _) 3 _, ← hnn, show ((u + k : Nat) : Int) = (st : Int) + (u : Int) + (k : Int) - (st : Int) by push_cast; omega]
          rfl)
        have HRD4 := Lib.hid (show RdrAt w4 rp h.p (st + (u + k)) (st + cp) lv2 by have := HRD3.out.keep hk4 (by simp; omega); rwa [Nat.add_assoc] at this)
        have HMO4 := Lib.hid (HMO.out.keep hk4 (by simp; omega))
        have HK4 := Lib.hid (HK23.out.trans hk4 (by simp))
        clear hmore hk3 hob hk4 hnn hg3 hat3 ho3
        subst hw4
        go_wp2_with fail
        go_roundw
        case rel => exact ⟨u + k, acc ++ rs, Ar3, cr3, lv2, by rw [HNN.out], by omega, by rw [huk]; simp only [List.length_append]; omega, HMO4.out, HRD4.out, HLG4.out, HK4.out, HRE2.out⟩
        case measure =>
          rw [rdrNext_of HRD4.out, HRN.out]
          omega
end Go.Proofs.YtbanpdeganlndaaGreatDoor
namespace Go.Proofs.YtbanpdeganlndaaGreatDoor
open Go.RowKit
open Reg (Is Fact CB)

def strOf (l : List UInt8) : ByteArray := ⟨l.toArray⟩
theorem strOf_inj {a b : List UInt8} : strOf a = strOf b ↔ a = b := by
  constructor
  · intro h
    have := congrArg (fun x => x.data.toList) h
    simpa [strOf] using this
  · rintro rfl; rfl
/-- string(b). -/
theorem conv_text (w : World) (g : Nat) (A : Option Addr) (l : List UInt8) (cap : Nat) (h : BytesIn w g A l) :
    (convert 62 9 (.slice A l.length cap)).run Tryz.prog w = .ok (.string (strOf l)) w := by
  rcases A with _ | a
  · rcases h with rfl | ⟨off, h, _⟩
    · rw [run_convert_bytes_string w _ _ 5 none _ cap Tryz.underlying62 Tryz.underlying5 Tryz.underlying9]
      rfl
    · cases h
  · refine run_convert_bytes_back w _ _ 5 a cap l Tryz.underlying62 Tryz.underlying5 Tryz.underlying9 fun j hj => ?_
    rcases h with rfl | ⟨off, h, hc⟩
    · simp at hj
    · cases h
      have := hc j hj
      rwa [Addr.add_lit]
theorem equal_any (w : World) (g1 g2 c1 c2 : Nat) (A1 A2 : Option Addr) (l1 l2 : List UInt8) (h1 : BytesIn w g1 A1 l1) (h2 : BytesIn w g2 A2 l2) :
    Calls Tryz.prog 72 #[.slice A1 l1.length c1, .slice A2 l2.length c2] w fun e w' => e = .returned (.bool (decide (l1 = l2))) ∧ w = w' := by
  have e1 := conv_text w g1 A1 l1 c1 h1
  have e2 := conv_text w g2 A2 l2 c2 h2
  have e3 : ((strOf l1).toList == (strOf l2).toList) = decide (l1 = l2) := by
    rw [ByteArray.toList_eq, ByteArray.toList_eq, Bool.eq_iff_iff, beq_iff_eq, decide_eq_true_iff]
    simp [strOf]
  go_enter Tryz.func72, Tryz.ntmps72
  go_wp2_with fail
  go_ret
  exact ⟨by rw [← e3]; rfl, rfl⟩
/-- What load yields. -/
def LoadP (w : World) (h : DH) (lp : Nat) (d : Dk) (e : Ending) (w' : World) : Prop :=
  ∃ a u rs v, e = .returned (.tuple #[v, .int .i64 0]) ∧ L.Loads d.dur.length d.size d.last a u rs ∧ RowsOwn w' w.heap.size v rs ∧ LogAt w' lp h.p ⟨a, u, rs.length, false⟩ ∧ Keeps [lp] w w'
set_option maxRecDepth 100000 in
set_option maxHeartbeats 4000000 in
theorem load_any (w : World) (h : DH) (B : Nat → Prop) (d : Dk) (lp : Nat) (x : DskAt w h B d) (hd : d.dead = false) (y : LogAt w lp h.p ⟨0, 0, 0, false⟩) (ht : TabAt w) (hlB : ¬ B lp) (hlp0 : lp ≠ 1) (hN : 16 ≤ d.dur.length) :
    Calls Tryz.prog 46 #[.pointer (some ⟨lp, 0, none⟩)] w (LoadP w h lp d) := by
  obtain ⟨c0, _⟩ := y.cells
  have hsz := x.ok.size
  have hll := y.lt
  have hlen : (d.last 0).length = d.size := Dk.last_len x.ok (by omega)
  obtain ⟨b, hb⟩ : ∃ b, b = d.last 0 := ⟨_, rfl⟩
  rw [← hb] at hlen
  have HX := Lib.hid x
  have HY := Lib.hid y
  have HT := Lib.hid ht
  have HD := Lib.hid hd
  have HN := Lib.hid hN
  have HB := Lib.hid hb
  have HLB := Lib.hid hlB
  have HNE := Lib.hid (y.ne x)
  have HR := Lib.hid (read_ok w h B d x hd 0 (by omega))
  rw [← hb] at HR
  clear x y ht hd hN hb hlB
  go_enter Tryz.func46, Tryz.ntmps46
  go_wp2_with fail
  refine HR.out.mono ?_
  rintro e w1 ⟨v, rfl, hs, hk1⟩
  obtain ⟨A, g, cap, rfl, hg, hgw⟩ := hs
  have HG := Lib.hid hg
  have HK1 := Lib.hid hk1
  rw [hlen]
  clear hg hk1
  go_wp2_with fail
  go_loopw [18] (fun iv wr => ∃ k : Nat, k ≤ 2 ∧ iv = .int .i64 k ∧ (∀ j, j < k → b ≠ L.hd j d.size) ∧ Keeps [] w wr ∧ BytesIn wr g A b) (fun iv _ => 2 - (RowKit.intOf iv).toNat)
  case atStart => exact ⟨0, by omega, rfl, fun j hj => by omega, HK1.out, HG.out⟩
  case round =>
    obtain ⟨k, hk, rfl, hne, hkw, hgr⟩ := hrel
    have HNB := Lib.hid hne
    have HKW := Lib.hid hkw
    have HGR := Lib.hid hgr
    clear hne hkw hgr
    by_cases hk2 : k < 2
    · go_wp2_with fail
      refine (head_any wr k d.size (by omega) (by omega)).mono ?_
      rintro e w2 ⟨x2, rfl, hx2, hxw2, hk2'⟩
      have HK2 := Lib.hid hk2'
      have HE := Lib.hid (equal_any w2 g x2 cap (L.hd k d.size).length A (some ⟨x2, 0, none⟩) b (L.hd k d.size) (HGR.out.keep hk2' (by simp)) hx2.bytes)
      rw [hlen] at HE
      have HU := Lib.hid hx2
      clear hk2' hx2
      go_wp2_with fail
      refine HE.out.mono ?_
      rintro e w3 ⟨rfl, rfl⟩
      by_cases hbe : b = L.hd k d.size
      · have e5 : decide (b = L.hd k d.size) = true := by rw [decide_eq_true_iff]; exact hbe
        have HL2 := Lib.hid (HY.out.keep (HKW.out.trans HK2.out (by simp)) (by simp))
        have f1 := HL2.out.free 1
        obtain ⟨_, q1, _⟩ := HL2.out.cells
        obtain ⟨w4, hw4⟩ : ∃ w4, w4 = w2.setCell ⟨lp, 1, none⟩ (.int .i64 (k : Int)) := ⟨_, rfl⟩
        have hk4 : Keeps [lp] w2 w4 := by rw [hw4]; exact (Keeps.refl _ _).setCell (by simp) _
        have HLG4 := Lib.hid (show LogAt w4 lp h.p ⟨k, 0, 0, false⟩ by
          unfold LogAt
          rw [hw4, row_set HL2.out 1 _]
          rfl)
        have hk04 : Keeps [lp] w w4 := ((HKW.out.trans HK2.out (by simp)).mono (by simp)).trans hk4 (fun _ h _ => h)
        have HAR := Lib.hid (area_any w4 h B d lp k (HX.out.keep hk04 (by simpa using ⟨HNE.out.2.2.2, HLB.out⟩)) HD.out HLG4.out (HT.out.keep hk04 (by simpa using hlp0.symm)) HLB.out hlp0 (by omega) HN.out)
        have HK4 := Lib.hid hk04
        subst hw4
        clear hk4 hk04
        go_wp2_with fail
        refine HAR.out.mono ?_
        rintro e w5 ⟨rs, u, v, rfl, hr, ho, hl, hk5⟩
        have HQ := Lib.hid (show LoadP w h lp d (.returned (.tuple #[v, .int .i64 0])) w5 from
          ⟨k, u, rs, v, rfl, .inl ⟨by omega, by rw [← HB.out]; exact hbe, hr⟩, ho.lower (by have := HK4.out.size; omega), hl, HK4.out.trans hk5 (fun _ h _ => h)⟩)
        clear hr ho hl hk5
        go_wp2_with fail
        go_ret2
        exact HQ.out
      · have e5 : decide (b = L.hd k d.size) = false := by rw [decide_eq_false_iff_not]; exact hbe
        have ei : IntKind.i64.wrap ((k : Int) + 1) = (k : Int) + 1 := IntWalk.i64_in _ ⟨by omega, by omega⟩
        have HNB2 := Lib.hid (show ∀ j, j < k + 1 → b ≠ L.hd j d.size from fun j hj => by
          by_cases h : j = k
          · rw [h]; exact hbe
          · exact HNB.out j (by omega))
        clear hbe
        go_wp2_with fail
        go_roundw
        case rel => exact ⟨k + 1, by omega, rfl, HNB2.out, HKW.out.trans HK2.out (by simp), HGR.out.keep HK2.out (by simp)⟩
        case measure => first | omega | (simp [RowKit.intOf]; omega)
    · have HQ := Lib.hid (show LoadP w h lp d (.returned (.tuple #[.slice none 0 0, .int .i64 0])) wr from
        ⟨0, 0, [], _, rfl, .inr ⟨by rw [← HB.out]; exact HNB.out 0 (by omega), by rw [← HB.out]; exact HNB.out 1 (by omega), rfl, rfl, rfl⟩, RowsOwn.nil _ _, HY.out.keep HKW.out (by simp), HKW.out.mono (by simp)⟩)
      go_wp2_with fail
      go_ret2
      exact HQ.out
/-- What Open yields. -/
def OpenP (w : World) (h : DH) (B : Nat → Prop) (d : Dk) (e : Ending) (w' : World) : Prop :=
  if d.dur.length < 16 ∨ d.size < 128 then e = .returned (.tuple #[.pointer none, .slice none 0 0, .int .i64 41]) ∧ w = w'
  else if d.power = false then e = .returned (.tuple #[.pointer none, .slice none 0 0, .int .i64 32]) ∧ DskAt w' h B d.flush ∧ Keeps h.l w w'
  else ∃ lp a u rs v, e = .returned (.tuple #[.pointer (some ⟨lp, 0, none⟩), v, .int .i64 0]) ∧ DskAt w' h B d.flush ∧ L.Loads d.dur.length d.size d.last a u rs ∧ RowsOwn w' w.heap.size v rs ∧ LogAt w' lp h.p ⟨a, u, rs.length, false⟩ ∧ w.heap.size ≤ lp ∧ Keeps h.l w w'
theorem Loads_congr {N s a u : Nat} {v v' : Nat → List UInt8} {rs : List (List UInt8)} (h : L.Loads N s v a u rs) (he : ∀ i, v i = v' i) : L.Loads N s v' a u rs := by
  have : v = v' := funext he
  rwa [← this]
set_option maxRecDepth 100000 in
set_option maxHeartbeats 4000000 in
theorem open_any (w : World) (h : DH) (B : Nat → Prop) (d : Dk) (x : DskAt w h B d) (ht : TabAt w) (hB : ∀ y, B y → y < w.heap.size) (hh0 : 1 ∉ h.l) :
    Calls Tryz.prog 28 #[.pointer (some ⟨h.p, 0, none⟩)] w (OpenP w h B d) := by
  have hlt := x.lt
  have HX := Lib.hid x
  have HT := Lib.hid ht
  have HB := Lib.hid hB
  have HH := Lib.hid hh0
  clear x ht hB hh0
  by_cases hs1 : d.dur.length < 16
  · have e1 : decide ((d.dur.length : Int) < 16) = true := by simp; omega
    have HQ := Lib.hid (show OpenP w h B d (.returned (.tuple #[.pointer none, .slice none 0 0, .int .i64 41])) w by unfold OpenP; rw [if_pos (.inl hs1)]; exact ⟨rfl, rfl⟩)
    go_enter Tryz.func28, Tryz.ntmps28
    go_wp2_with fail
    refine (sectors_any _ h B d HX.out).mono ?_
    rintro e w' ⟨rfl, rfl⟩
    go_wp2_with fail
    go_ret3
    exact HQ.out
  · have e1 : decide ((d.dur.length : Int) < 16) = false := by simp; omega
    by_cases hs2 : d.size < 128
    · have e2 : decide ((d.size : Int) < 128) = true := by simp; omega
      have HQ := Lib.hid (show OpenP w h B d (.returned (.tuple #[.pointer none, .slice none 0 0, .int .i64 41])) w by unfold OpenP; rw [if_pos (.inr hs2)]; exact ⟨rfl, rfl⟩)
      go_enter Tryz.func28, Tryz.ntmps28
      go_wp2_with fail
      refine (sectors_any _ h B d HX.out).mono ?_
      rintro e w' ⟨rfl, rfl⟩
      go_wp2_with fail
      refine (size_any _ h B d HX.out).mono ?_
      rintro e w' ⟨rfl, rfl⟩
      go_wp2_with fail
      go_ret3
      exact HQ.out
    · have e2 : decide ((d.size : Int) < 128) = false := by simp; omega
      have HNO := Lib.hid (show ¬ (d.dur.length < 16 ∨ d.size < 128) by omega)
      go_enter Tryz.func28, Tryz.ntmps28
      go_wp2_with fail
      refine (sectors_any _ h B d HX.out).mono ?_
      rintro e w' ⟨rfl, rfl⟩
      go_wp2_with fail
      refine (size_any _ h B d HX.out).mono ?_
      rintro e w' ⟨rfl, rfl⟩
      go_wp2_with fail
      refine (flush_any w h B d HX.out).mono ?_
      rintro e w2 ⟨rfl, hx2, hk2⟩
      cases hp : d.power with
      | false =>
        have e3 : d.flushErr = 32 := by unfold Dk.flushErr; rw [hp]; rfl
        have HQ := Lib.hid (show OpenP w h B d (.returned (.tuple #[.pointer none, .slice none 0 0, .int .i64 32])) w2 by unfold OpenP; rw [if_neg HNO.out, if_pos hp]; exact ⟨rfl, hx2, hk2⟩)
        clear hx2 hk2
        rw [e3]
        go_wp2_with fail
        go_ret3
        exact HQ.out
      | true =>
        obtain ⟨e3, hok, hsz, hdl, hfr, hcut, hdead, hlast⟩ := L.flush_flat HX.out.ok hp
        have HP := Lib.hid hp
        obtain ⟨w3, hw3⟩ : ∃ w3, w3 = w2.alloc (.cells #[.pointer (some ⟨h.p, 0, none⟩), .int .i64 0, .int .i64 0, .int .i64 0, .bool false] 100) := ⟨_, rfl⟩
        have hk3 : Keeps [] w2 w3 := by rw [hw3]; exact (Keeps.refl _ _).alloc _
        have hlog : LogAt w3 w2.heap.size h.p ⟨0, 0, 0, false⟩ := by rw [hw3]; exact heap_alloc_new w2 _
        have hk03 : Keeps h.l w w3 := hk2.trans hk3 (by simp)
        have HLO := Lib.hid (load_any w3 h B d.flush w2.heap.size (hx2.keep0 hk3) hdead hlog (HT.out.keep hk03 HH.out) (fun hb => by have := HB.out _ hb; have := hk2.size; omega) (by have := hk2.size; have := HT.out.pos; omega) (by omega))
        have HK3 := Lib.hid hk03
        have HX2 := Lib.hid (hx2.keep0 hk3)
        have HSZ := Lib.hid hk2.size
        have HLA := Lib.hid hlast
        have HDL := Lib.hid hdl
        have HDS := Lib.hid hsz
        have HX9 := Lib.hid (fun w' (hk : Keeps [w2.heap.size] w3 w') => (hx2.keep0 hk3).keep hk (fun y hy => by
          have : y = w2.heap.size := by simpa using hy
          have := hk2.size
          refine ⟨by simp [DH.l]; omega, fun hb => ?_⟩
          have := HB.out _ hb; omega))
        rw [e3]
        subst hw3
        clear hk3 hlog hk03 hx2 hk2 hlast hdl hsz hok hfr hcut hdead hp
        go_wp2_with fail
        refine HLO.out.mono ?_
        rintro e w5 ⟨a, u, rs, v, rfl, hl, ho, hg, hk5⟩
        have HQ := Lib.hid (show OpenP w h B d (.returned (.tuple #[.pointer (some ⟨w2.heap.size, 0, none⟩), v, .int .i64 0])) w5 by
          unfold OpenP; rw [if_neg HNO.out, if_neg (by rw [HP.out]; simp)]
          rw [HDL.out, HDS.out] at hl
          exact ⟨_, a, u, rs, v, rfl, HX9.out _ hk5, Loads_congr hl HLA.out, ho.lower (by have := HK3.out.size; omega), hg, HSZ.out, HK3.out.trans hk5 (fun i hi hlt => by
            have : i = w2.heap.size := by simpa using hi
            have := HSZ.out; omega)⟩)
        clear hl ho hg hk5
        go_wp2_with fail
        go_ret3
        exact HQ.out
end Go.Proofs.YtbanpdeganlndaaGreatDoor
namespace Go.Proofs.YtbanpdeganlndaaGreatDoor
open Go.RowKit

/-- The disk d is flat and holds the log g of the records rs. -/
structure Good (d : Dk) (g : Lg) (rs : List (List UInt8)) : Prop where
  ok : d.Ok
  secs : 16 ≤ d.dur.length
  size : 128 ≤ d.size
  flat : ∀ i, d.fr i = none
  loads : L.Loads d.dur.length d.size d.last g.area g.used rs
  sure : g.settled = true → L.Set d.dur.length d.size d.last g.area g.used rs
  count : g.count = rs.length
namespace Good
variable {d : Dk} {g : Lg} {rs : List (List UInt8)}
theorem area (h : Good d g rs) : g.area ≤ 1 := h.loads.area
theorem used (h : Good d g rs) : g.used ≤ L.cap d.dur.length := h.loads.used h.secs (by have := h.size; omega) (L.siz_last h.ok)
end Good
/-- What a change of records rs to rs' by n sectors makes. -/
def Did (d : Dk) (g : Lg) (rs : List (List UInt8)) (a u : Nat) (rs' : List (List UInt8)) (r : Nat × Dk × Lg) : Prop :=
  (r.1 = 0 ∧ L.Flat d r.2.1 ∧ r.2.1.dead = false ∧ r.2.2 = ⟨a, u, rs'.length, true⟩ ∧ Good r.2.1 r.2.2 rs') ∨
  (r.1 = 32 ∧ L.Gone (fun v => L.Loads d.dur.length d.size v g.area g.used rs ∨ L.Loads d.dur.length d.size v a u rs') d r.2.1)
theorem chg_did {d : Dk} {g next : Lg} {rs rs' : List (List UInt8)} {l : List (Nat × List UInt8)} (h : Good d g rs) (hl : g.settled = true → l ≠ []) (hc : next.count = rs'.length)
    (hs : ∀ v, L.Siz d.dur.length d.size v → L.Set d.dur.length d.size v g.area g.used rs → L.SafeRun d.dur.length d.size (fun v' => L.Loads d.dur.length d.size v' g.area g.used rs ∨ L.Loads d.dur.length d.size v' next.area next.used rs') (fun v' => L.Siz d.dur.length d.size v' ∧ L.Set d.dur.length d.size v' next.area next.used rs') v l) :
    Did d g rs next.area next.used rs' (chg d g next l) := by
  have hne : (if g.settled then l else L.settleSteps d.dur.length d.size g.area g.used ++ l) ≠ [] := by
    cases hg : g.settled with
    | true => rw [if_pos rfl]; exact hl hg
    | false => rw [if_neg (by simp)]; simp [L.settleSteps]
  have hrun : L.SafeRun d.dur.length d.size (fun v' => L.Loads d.dur.length d.size v' g.area g.used rs ∨ L.Loads d.dur.length d.size v' next.area next.used rs') (fun v' => L.Siz d.dur.length d.size v' ∧ L.Set d.dur.length d.size v' next.area next.used rs') d.last (if g.settled then l else L.settleSteps d.dur.length d.size g.area g.used ++ l) := by
    have hv := L.siz_last h.ok
    cases hg : g.settled with
    | true => rw [if_pos rfl]; exact hs _ hv (h.sure hg)
    | false =>
      rw [if_neg (by simp)]
      refine L.SafeRun.append ((L.settle_safe h.secs (by have := h.size; omega) hv h.loads).mono (fun _ => .inl) (fun _ q => q)) (fun v' q => hs v' q.1 q.2)
  obtain ⟨l0, hl0⟩ : ∃ l0, (if g.settled then l else L.settleSteps d.dur.length d.size g.area g.used ++ l) = l0 := ⟨_, rfl⟩
  rw [chg_of hl0]
  rw [hl0] at hne hrun
  rcases L.run_safe h.ok h.flat hrun with ⟨e, F, hd, _, q⟩ | ⟨e, G⟩
  · refine .inl ⟨e, F, hd.resolve_left hne, ?_, ?_⟩
    · rw [if_pos e]; simp [hc]
    · rw [if_pos e]
      have q' : L.Set (L.runSteps d l0).2.dur.length (L.runSteps d l0).2.size (L.runSteps d l0).2.last next.area next.used rs' := by rw [F.len, F.size]; exact q
      exact ⟨F.ok, by rw [F.len]; exact h.secs, by rw [F.size]; exact h.size, F.fr, q'.loads, fun _ => q', hc⟩
  · exact .inr ⟨e, G⟩
theorem fitErr_zero {free s : Nat} {ls : List (List UInt8)} (h : fitErr free s ls = 0) : (∀ r ∈ ls, r.length ≤ 1048576) ∧ L.nsec ls s ≤ free := by
  unfold fitErr at h
  split at h
  · omega
  · rename_i hn
    split at h
    · omega
    · exact ⟨fun r hr => by
        by_cases hq : r.length ≤ 1048576
        · exact hq
        · exact absurd ⟨r, hr, by omega⟩ hn, by omega⟩
theorem fitErr_err {free s : Nat} {ls : List (List UInt8)} : fitErr free s ls = 0 ∨ fitErr free s ls = 40 ∨ fitErr free s ls = 42 := by
  unfold fitErr; split <;> (try split) <;> simp
/-- Commit. -/
theorem commit_did {d : Dk} {g : Lg} {rs ls : List (List UInt8)} (h : Good d g rs) (hb : (L.body ls).length < 4294967296) :
    (fitErr (L.cap d.dur.length - g.used) d.size ls ≠ 0 ∧ commitD d g ls = (fitErr (L.cap d.dur.length - g.used) d.size ls, d, g)) ∨
    (fitErr (L.cap d.dur.length - g.used) d.size ls = 0 ∧ Did d g rs g.area (g.used + L.nsec ls d.size) (rs ++ ls) (commitD d g ls)) := by
  by_cases hf : fitErr (L.cap d.dur.length - g.used) d.size ls = 0
  · refine .inr ⟨hf, ?_⟩
    obtain ⟨f1, f2⟩ := fitErr_zero hf
    have hu := h.used
    unfold commitD
    rw [if_neg (by rw [hf]; simp)]
    by_cases h0 : ls = []
    · subst h0
      rw [if_pos rfl]
      have hn : L.nsec [] d.size = 0 := by unfold L.nsec; simp
      have hg' : Good d { g with settled := false } rs := ⟨h.ok, h.secs, h.size, h.flat, h.loads, fun e => by simp at e, h.count⟩
      have := chg_did (next := g) (rs' := rs) (l := []) hg' (fun e => by simp at e) h.count (fun v hv hs => ⟨hv, hs⟩)
      rw [hn, List.append_nil]
      exact this
    · rw [if_neg h0]
      exact chg_did (next := ⟨g.area, g.used + L.nsec ls d.size, g.count + ls.length, false⟩) h (fun _ => by simp [L.commitSteps]) (by simp [h.count]) (fun v hv hs => L.commit_safe h.secs (by have := h.size; omega) hv hs h0 hb (fun r hr => by have := f1 r hr; omega) (by omega))
  · refine .inl ⟨hf, ?_⟩
    unfold commitD; rw [if_pos hf]
/-- Reset. -/
theorem reset_did {d : Dk} {g : Lg} {rs ls : List (List UInt8)} (h : Good d g rs) (hb : (L.body ls).length < 4294967296) :
    (fitErr (L.cap d.dur.length) d.size ls ≠ 0 ∧ resetD d g ls = (fitErr (L.cap d.dur.length) d.size ls, d, g)) ∨
    (fitErr (L.cap d.dur.length) d.size ls = 0 ∧ Did d g rs (1 - g.area) (L.nsec ls d.size) ls (resetD d g ls)) := by
  by_cases hf : fitErr (L.cap d.dur.length) d.size ls = 0
  · refine .inr ⟨hf, ?_⟩
    obtain ⟨f1, f2⟩ := fitErr_zero hf
    unfold resetD
    rw [if_neg (by rw [hf]; simp)]
    exact chg_did (next := ⟨1 - g.area, L.nsec ls d.size, ls.length, false⟩) h (fun _ => by simp [L.resetSteps]) rfl (fun v hv hs => L.reset_safe h.secs (by have := h.size; omega) hv hs hb (fun r hr => by have := f1 r hr; omega) f2)
  · refine .inl ⟨hf, ?_⟩
    unfold resetD; rw [if_pos hf]
/-! ### In a world -/
/-- A log on its disk. -/
structure Live (w : World) (h : DH) (B : Nat → Prop) (lp : Nat) (d : Dk) (g : Lg) (rs : List (List UInt8)) : Prop where
  disk : DskAt w h B d
  log : LogAt w lp h.p g
  sep : ¬ B lp
  good : Good d g rs
theorem Live.keep {S : List Nat} {w w' : World} {h : DH} {B : Nat → Prop} {lp : Nat} {d : Dk} {g : Lg} {rs : List (List UInt8)} (x : Live w h B lp d g rs) (hk : Keeps S w w') (hS : ∀ y ∈ S, y ∉ h.l ∧ ¬ B y ∧ y ≠ lp) : Live w' h B lp d g rs :=
  ⟨x.disk.keep hk (fun y hy => ⟨(hS y hy).1, (hS y hy).2.1⟩), x.log.keep hk (fun hm => (hS lp hm).2.2 rfl), x.sep, x.good⟩
theorem Live.keep0 {w w' : World} {h : DH} {B : Nat → Prop} {lp : Nat} {d : Dk} {g : Lg} {rs : List (List UInt8)} (x : Live w h B lp d g rs) (hk : Keeps [] w w') : Live w' h B lp d g rs := x.keep hk (by simp)
/-- Power that nothing ends. -/
def Lit_ (d : Dk) : Prop := d.dead = false ∧ d.cut = false
theorem Lit_.flat {d d' : Dk} (h : Lit_ d) (f : L.Flat d d') (hd : d'.dead = false) : Lit_ d' := ⟨hd, by rw [f.cut]; exact h.2⟩
theorem RowsIn.low {w : World} {G : Nat → Prop} {A : Option Addr} {ls : List (List UInt8)} (h : RowsIn w G A ls) : RowsIn w (fun g => G g ∧ g < w.heap.size) A ls := by
  rcases h with h | ⟨b, off, hA, hb, hc⟩
  · exact .inl h
  · by_cases h0 : ls = []
    · exact .inl h0
    · have hpos : 0 < ls.length := List.length_pos_iff.2 h0
      obtain ⟨v, hv, _⟩ := hc 0 hpos
      refine .inr ⟨b, off, hA, ⟨hb, World.block_lt_of_cell? w _ hv⟩, fun j hj => ?_⟩
      obtain ⟨v, hv, he⟩ := hc j hj
      exact ⟨v, hv, he.lt⟩
/-- Commit where there is power. -/
theorem commit_live {w : World} {h : DH} {B : Nat → Prop} {lp : Nat} {d : Dk} {g : Lg} {rs ls : List (List UInt8)} {G : Nat → Prop} {A : Option Addr} {cap : Nat} (x : Live w h B lp d g rs) (ht : TabAt w) (hr : RowsIn w G A ls) (hb : (L.body ls).length < 4294967296) (hc : rs.length ≤ 1099511627776) :
    Calls Tryz.prog 60 #[.pointer (some ⟨lp, 0, none⟩), .slice A ls.length cap] w (ChangeP w h B lp (commitD d g ls)) :=
  commit_any w h B d lp g _ A cap ls x.disk x.log x.sep ht hr.low (fun y hy => hy.2) (by omega) x.good.secs x.good.area x.good.used (by rw [x.good.count]; exact hc)
theorem reset_live {w : World} {h : DH} {B : Nat → Prop} {lp : Nat} {d : Dk} {g : Lg} {rs ls : List (List UInt8)} {G : Nat → Prop} {A : Option Addr} {cap : Nat} (x : Live w h B lp d g rs) (ht : TabAt w) (hr : RowsIn w G A ls) (hb : (L.body ls).length < 4294967296) :
    Calls Tryz.prog 53 #[.pointer (some ⟨lp, 0, none⟩), .slice A ls.length cap] w (ChangeP w h B lp (resetD d g ls)) :=
  reset_any w h B d lp g _ A cap ls x.disk x.log x.sep ht hr.low (fun y hy => hy.2) (by omega) x.good.secs x.good.area x.good.used
/-- What Commit yields where there is power. -/
def CommitP (w : World) (h : DH) (B : Nat → Prop) (lp : Nat) (d : Dk) (g : Lg) (rs ls : List (List UInt8)) (e : Ending) (w' : World) : Prop :=
  ∃ (n : Nat) (B' : Nat → Prop), e = .returned (.int .i64 (n : Int)) ∧ Keeps (lp :: h.l) w w' ∧ (∀ y, B' y → B y ∨ w.heap.size ≤ y) ∧
    ((fitErr (L.cap d.dur.length - g.used) d.size ls ≠ 0 ∧ n = fitErr (L.cap d.dur.length - g.used) d.size ls ∧ Live w' h B' lp d g rs) ∨
     (fitErr (L.cap d.dur.length - g.used) d.size ls = 0 ∧ n = 0 ∧ ∃ d', L.Flat d d' ∧ Lit_ d' ∧ Live w' h B' lp d' ⟨g.area, g.used + L.nsec ls d.size, (rs ++ ls).length, true⟩ (rs ++ ls)))
theorem commit_go {w : World} {h : DH} {B : Nat → Prop} {lp : Nat} {d : Dk} {g : Lg} {rs ls : List (List UInt8)} {G : Nat → Prop} {A : Option Addr} (cap : Nat) (x : Live w h B lp d g rs) (hd : Lit_ d) (ht : TabAt w) (hr : RowsIn w G A ls) (hb : (L.body ls).length < 4294967296) (hc : rs.length ≤ 1099511627776) :
    Calls Tryz.prog 60 #[.pointer (some ⟨lp, 0, none⟩), .slice A ls.length cap] w (CommitP w h B lp d g rs ls) := by
  refine (commit_live x ht hr hb hc).mono ?_
  rintro e w' ⟨he, hk, hlog, B', hx, _, hB⟩
  have hsep : ¬ B' lp := fun hq => by rcases hB lp hq with h1 | h1; exact x.sep h1; have := x.log.lt; omega
  refine ⟨_, B', he, hk, hB, ?_⟩
  rcases commit_did x.good hb (ls := ls) with ⟨e1, e2⟩ | ⟨e1, e2⟩
  · refine .inl ⟨e1, by rw [e2], ?_⟩
    rw [e2] at hlog hx
    exact ⟨hx, hlog, hsep, x.good⟩
  · rcases e2 with ⟨n0, F, hdead, hg, hgood⟩ | ⟨n0, G⟩
    · refine .inr ⟨e1, n0, (commitD d g ls).2.1, F, hd.flat F hdead, ?_⟩
      rw [← hg]
      exact ⟨hx, hlog, hsep, hgood⟩
    · rcases G.why with q | q
      · rw [hd.1] at q; cases q
      · rw [hd.2] at q; cases q
/-- What Reset yields where there is power. -/
def ResetP (w : World) (h : DH) (B : Nat → Prop) (lp : Nat) (d : Dk) (g : Lg) (rs ls : List (List UInt8)) (e : Ending) (w' : World) : Prop :=
  ∃ (n : Nat) (B' : Nat → Prop), e = .returned (.int .i64 (n : Int)) ∧ Keeps (lp :: h.l) w w' ∧ (∀ y, B' y → B y ∨ w.heap.size ≤ y) ∧
    ((fitErr (L.cap d.dur.length) d.size ls ≠ 0 ∧ n = fitErr (L.cap d.dur.length) d.size ls ∧ Live w' h B' lp d g rs) ∨
     (fitErr (L.cap d.dur.length) d.size ls = 0 ∧ n = 0 ∧ ∃ d', L.Flat d d' ∧ Lit_ d' ∧ Live w' h B' lp d' ⟨1 - g.area, L.nsec ls d.size, ls.length, true⟩ ls))
theorem reset_go {w : World} {h : DH} {B : Nat → Prop} {lp : Nat} {d : Dk} {g : Lg} {rs ls : List (List UInt8)} {G : Nat → Prop} {A : Option Addr} (cap : Nat) (x : Live w h B lp d g rs) (hd : Lit_ d) (ht : TabAt w) (hr : RowsIn w G A ls) (hb : (L.body ls).length < 4294967296) :
    Calls Tryz.prog 53 #[.pointer (some ⟨lp, 0, none⟩), .slice A ls.length cap] w (ResetP w h B lp d g rs ls) := by
  refine (reset_live x ht hr hb).mono ?_
  rintro e w' ⟨he, hk, hlog, B', hx, _, hB⟩
  have hsep : ¬ B' lp := fun hq => by rcases hB lp hq with h1 | h1; exact x.sep h1; have := x.log.lt; omega
  refine ⟨_, B', he, hk, hB, ?_⟩
  rcases reset_did x.good hb (ls := ls) with ⟨e1, e2⟩ | ⟨e1, e2⟩
  · refine .inl ⟨e1, by rw [e2], ?_⟩
    rw [e2] at hlog hx
    exact ⟨hx, hlog, hsep, x.good⟩
  · rcases e2 with ⟨n0, F, hdead, hg, hgood⟩ | ⟨n0, G⟩
    · refine .inr ⟨e1, n0, (resetD d g ls).2.1, F, hd.flat F hdead, ?_⟩
      rw [← hg]
      exact ⟨hx, hlog, hsep, hgood⟩
    · rcases G.why with q | q
      · rw [hd.1] at q; cases q
      · rw [hd.2] at q; cases q
/-- What Open yields where there is power. -/
def OpenedP (w : World) (h : DH) (B : Nat → Prop) (d : Dk) (a u : Nat) (rs : List (List UInt8)) (e : Ending) (w' : World) : Prop :=
  ∃ lp v d', e = .returned (.tuple #[.pointer (some ⟨lp, 0, none⟩), v, .int .i64 0]) ∧ L.Flat d d' ∧ d'.dead = false ∧ (∀ i, d'.last i = d.last i) ∧ Live w' h B lp d' ⟨a, u, rs.length, false⟩ rs ∧ RowsOwn w' w.heap.size v rs ∧ w.heap.size ≤ lp ∧ Keeps h.l w w'
theorem open_go {w : World} {h : DH} {B : Nat → Prop} {d : Dk} {a u : Nat} {rs : List (List UInt8)} (x : DskAt w h B d) (ht : TabAt w) (hh0 : 1 ∉ h.l) (hp : d.power = true) (hN : 16 ≤ d.dur.length) (hs : 128 ≤ d.size) (hl : L.Loads d.dur.length d.size d.last a u rs) :
    Calls Tryz.prog 28 #[.pointer (some ⟨h.p, 0, none⟩)] w (OpenedP w h B d a u rs) := by
  refine (open_any w h B d x ht x.low hh0).mono ?_
  intro e w' ho
  unfold OpenP at ho
  rw [if_neg (by omega), if_neg (by rw [hp]; simp)] at ho
  obtain ⟨lp, a', u', rs', v, rfl, hx, hl', hr, hlog, hlp, hk⟩ := ho
  obtain ⟨rfl, rfl, rfl⟩ := hl.unique hl'
  obtain ⟨e3, hok, hsz, hdl, hfr, hcut, hdead, hlast⟩ := L.flush_flat x.ok hp
  refine ⟨lp, v, d.flush, rfl, ⟨hok, hsz, hdl, hfr, hcut⟩, hdead, hlast, ⟨hx, hlog, fun hq => ?_, ?_⟩, hr, hlp, hk⟩
  · have := x.low _ hq; omega
  · refine ⟨hok, by omega, by omega, hfr, ?_, fun e => by simp at e, rfl⟩
    rw [hdl, hsz]; exact Loads_congr hl (fun i => (hlast i).symm)
theorem Lit_.power {d : Dk} (h : Lit_ d) : d.power = true := by unfold Dk.power; rw [h.1, h.2]; rfl
/-- A new disk. -/
theorem new_lit (n s : Int) : Lit_ (Dk.new n s) := ⟨rfl, rfl⟩
theorem new_loads (n s : Nat) (hs : 128 ≤ s ∧ s ≤ 4096) (hn : 1 ≤ n ∧ n ≤ 4096) : (Dk.new n s).dur.length = n ∧ (Dk.new n s).size = s ∧ L.Loads n s (Dk.new n s).last 0 0 [] := by
  have e1 : (min (max (s : Int) 64) 4096).toNat = s := by omega
  have e2 : (min (max (n : Int) 1) 4096).toNat = n := by omega
  refine ⟨by simp [Dk.new]; omega, e1, .inr ?_⟩
  have hz : (Dk.new n s).last 0 = List.replicate s 0 := by
    unfold Dk.last Dk.new
    simp only [e1, e2]
    rw [List.getD_eq_getElem?_getD, List.getElem?_replicate, if_pos (by omega)]; rfl
  obtain ⟨k, rfl⟩ : ∃ k, s = k + 1 := ⟨s - 1, by omega⟩
  rw [hz, List.replicate_succ]
  exact ⟨fun h => by have := (List.cons.inj h).1; revert this; decide, fun h => by have := (List.cons.inj h).1; revert this; decide, rfl, rfl, rfl⟩
end Go.Proofs.YtbanpdeganlndaaGreatDoor
namespace Go.Proofs.YtbanpdeganlndaaGreatDoor
open Go.RowKit
open Reg (Is Fact CB)

theorem U8At.putInt {w : World} {g : Nat} {l : List UInt8} (h : U8At w g l) (i : Nat) (z : Int) (h0 : 0 ≤ z) (h1 : z < 256) : ∃ l' : List UInt8, l'.length = l.length ∧ U8At (w.setCell ⟨g, i, none⟩ (.int .u8 z)) g l' :=
  ⟨l.set i (UInt8.ofNat z.toNat), by simp, h.put i _ _ (by rw [L.ofNat_toNat]; congr 1; omega)⟩
/-- What batch yields. -/
def BatchP (w : World) (n : Nat) (e : Ending) (w' : World) : Prop :=
  ∃ v rs, e = .returned v ∧ rs.length = n ∧ (∀ r ∈ rs, List.length r ≤ 255) ∧ RowsOwn w' w.heap.size v rs ∧ Keeps [] w w'
end Go.Proofs.YtbanpdeganlndaaGreatDoor
namespace Go.Proofs.YtbanpdeganlndaaGreatDoor
open Go.RowKit
open Reg (Is Fact CB)

attribute [local go_sem] Reg.lateFr Reg.wantedV Reg.gives_value Reg.gives_skip Reg.gives_enter
theorem text_ne (l m : List UInt8) : (!((strOf l).toList == (strOf m).toList)) = decide (l ≠ m) := by
  rw [ByteArray.toList_eq, ByteArray.toList_eq, Bool.eq_iff_iff]
  simp [strOf]
end Go.Proofs.YtbanpdeganlndaaGreatDoor
namespace Go.Proofs.YtbanpdeganlndaaGreatDoor
open Go.RowKit
open Reg (Is Fact CB)

def newD (n s : Nat) : Dk := Dk.new n s
theorem newD_any (w : World) (n s : Nat) (hn : 1 ≤ n ∧ n ≤ 4096) (hs : 64 ≤ s ∧ s ≤ 4096) : Calls Tryz.prog 11 #[.int .i64 (n : Int), .int .i64 (s : Int)] w (NewP w (newD n s)) := new_any w n s hn hs
/-- What Open yields of a new disk. -/
def FirstP (w : World) (h : DH) (B : Nat → Prop) (n s : Nat) (e : Ending) (w' : World) : Prop :=
  ∃ lp A c d', e = .returned (.tuple #[.pointer (some ⟨lp, 0, none⟩), .slice A 0 c, .int .i64 0]) ∧ d'.dur.length = n ∧ d'.size = s ∧ Lit_ d' ∧ Live w' h B lp d' ⟨0, 0, 0, false⟩ [] ∧ w.heap.size ≤ lp ∧ Keeps h.l w w'
theorem open_first {w : World} {h : DH} {B : Nat → Prop} {n s : Nat} (x : DskAt w h B (newD n s)) (ht : TabAt w) (hh0 : 1 ∉ h.l) (hn : 16 ≤ n ∧ n ≤ 4096) (hs : 128 ≤ s ∧ s ≤ 4096) :
    Calls Tryz.prog 28 #[.pointer (some ⟨h.p, 0, none⟩)] w (FirstP w h B n s) := by
  obtain ⟨e1, e2, hl⟩ := new_loads n s hs (by omega)
  have e1' : (newD n s).dur.length = n := e1
  have e2' : (newD n s).size = s := e2
  refine (open_go x ht hh0 (new_lit _ _).power (by rw [e1']; omega) (by rw [e2']; omega) (by rw [e1', e2']; exact hl)).mono ?_
  rintro e w2 ⟨lp, v, d2, rfl, hF, hd, _, hL, hR, hlp, hk⟩
  obtain ⟨A, c, rfl, _⟩ := hR.form
  exact ⟨lp, A, c, d2, rfl, by rw [hF.len, e1'], by rw [hF.size, e2'], ⟨hd, hF.cut⟩, hL, hlp, hk⟩
theorem row_elem {w : World} {g : Nat} {l : List UInt8} (h : U8At w g l) (hm : l.length ≤ maxLen) : ElV w (fun _ => True) (.slice (some ⟨g, 0, none⟩) l.length l.length) l := ⟨_, g, _, rfl, h.bytes, Nat.le_refl _, hm, .inr trivial⟩
theorem commit_two {w : World} {h : DH} {B : Nat → Prop} {lp : Nat} {d : Dk} {g : Lg} (x : Live w h B lp d g []) (hd : Lit_ d) (ht : TabAt w) (c : Nat) (t1 t2 t3 : TypeId) :
    Calls Tryz.prog 60 #[.pointer (some ⟨lp, 0, none⟩), .slice (some ⟨w.heap.size + 2, 0, none⟩) 2 c] (((w.alloc (.cells #[.int .u8 97] t1 (1, 2))).alloc (.cells #[.int .u8 98, .int .u8 99] t2 (2, 3))).alloc (.cells #[.slice (some ⟨w.heap.size, 0, none⟩) 1 1, .slice (some ⟨w.heap.size + 1, 0, none⟩) 2 2] t3))
      (CommitP (((w.alloc (.cells #[.int .u8 97] t1 (1, 2))).alloc (.cells #[.int .u8 98, .int .u8 99] t2 (2, 3))).alloc (.cells #[.slice (some ⟨w.heap.size, 0, none⟩) 1 1, .slice (some ⟨w.heap.size + 1, 0, none⟩) 2 2] t3)) h B lp d g [] [[97], [98, 99]]) := by
  have hk : Keeps [] w (((w.alloc (.cells #[.int .u8 97] t1 (1, 2))).alloc (.cells #[.int .u8 98, .int .u8 99] t2 (2, 3))).alloc (.cells #[.slice (some ⟨w.heap.size, 0, none⟩) 1 1, .slice (some ⟨w.heap.size + 1, 0, none⟩) 2 2] t3)) := (((Keeps.refl _ _).alloc _).alloc _).alloc _
  have k1 : Keeps [] (w.alloc (.cells #[.int .u8 97] t1 (1, 2))) (((w.alloc (.cells #[.int .u8 97] t1 (1, 2))).alloc (.cells #[.int .u8 98, .int .u8 99] t2 (2, 3))).alloc (.cells #[.slice (some ⟨w.heap.size, 0, none⟩) 1 1, .slice (some ⟨w.heap.size + 1, 0, none⟩) 2 2] t3)) := ((Keeps.refl _ _).alloc _).alloc _
  have k2 : Keeps [] ((w.alloc (.cells #[.int .u8 97] t1 (1, 2))).alloc (.cells #[.int .u8 98, .int .u8 99] t2 (2, 3))) (((w.alloc (.cells #[.int .u8 97] t1 (1, 2))).alloc (.cells #[.int .u8 98, .int .u8 99] t2 (2, 3))).alloc (.cells #[.slice (some ⟨w.heap.size, 0, none⟩) 1 1, .slice (some ⟨w.heap.size + 1, 0, none⟩) 2 2] t3)) := (Keeps.refl _ _).alloc _
  have s1 : (w.alloc (.cells #[.int .u8 97] t1 (1, 2))).heap.size = w.heap.size + 1 := by simp
  have s2 : ((w.alloc (.cells #[.int .u8 97] t1 (1, 2))).alloc (.cells #[.int .u8 98, .int .u8 99] t2 (2, 3))).heap.size = w.heap.size + 2 := by simp
  have b1 : BytesIn (w.alloc (.cells #[.int .u8 97] t1 (1, 2))) w.heap.size (some ⟨w.heap.size, 0, none⟩) [97] := .inr ⟨0, rfl, fun k hk => by
    rw [cell_of_row _ _ _ _ _ _ (heap_alloc_new w _)]
    match k, hk with
    | 0, _ => rfl⟩
  have b2 : BytesIn ((w.alloc (.cells #[.int .u8 97] t1 (1, 2))).alloc (.cells #[.int .u8 98, .int .u8 99] t2 (2, 3))) (w.heap.size + 1) (some ⟨w.heap.size + 1, 0, none⟩) [98, 99] := .inr ⟨0, rfl, fun k hk => by
    rw [← s1, cell_of_row _ _ _ _ _ _ (heap_alloc_new (w.alloc (.cells #[.int .u8 97] t1 (1, 2))) _)]
    match k, hk with
    | 0, _ => rfl
    | 1, _ => rfl⟩
  have hm : 2 ≤ maxLen := by simp [maxLen]
  refine commit_go (ls := [[97], [98, 99]]) (G := fun _ => True) c (x.keep0 hk) hd (ht.keep hk (by simp)) (.inr ⟨w.heap.size + 2, 0, rfl, trivial, fun j hj => ?_⟩) (by simp [L.body_cons_len]; decide) (by simp)
  rw [← s2, cell_of_row _ _ _ _ _ _ (heap_alloc_new ((w.alloc (.cells #[.int .u8 97] t1 (1, 2))).alloc (.cells #[.int .u8 98, .int .u8 99] t2 (2, 3))) _)]
  match j, hj with
  | 0, _ => exact ⟨_, rfl, _, w.heap.size, 1, rfl, b1.keep k1 (by simp), Nat.le_refl _, Nat.le_trans (by omega) hm, .inr trivial⟩
  | 1, _ => exact ⟨_, rfl, _, w.heap.size + 1, 2, rfl, b2.keep k2 (by simp), Nat.le_refl _, hm, .inr trivial⟩
/-- A log whose disk was opened once more. -/
theorem Live.again {w w' : World} {h : DH} {B : Nat → Prop} {lp : Nat} {d d' : Dk} {g : Lg} {rs : List (List UInt8)} (x : Live w h B lp d g rs) (hk : Keeps h.l w w') (hx : DskAt w' h B d') (F : L.Flat d d') (hl : ∀ i, d'.last i = d.last i) : Live w' h B lp d' g rs := by
  have hn := x.log.ne x.disk
  have e : d.last = d'.last := funext fun i => (hl i).symm
  refine ⟨hx, x.log.keep hk hn.2.2.2, x.sep, F.ok, by rw [F.len]; exact x.good.secs, by rw [F.size]; exact x.good.size, F.fr, ?_, ?_, x.good.count⟩
  · rw [F.len, F.size, ← e]; exact x.good.loads
  · rw [F.len, F.size, ← e]; exact x.good.sure
theorem open_live {w : World} {h : DH} {B : Nat → Prop} {lp : Nat} {d : Dk} {g : Lg} {rs : List (List UInt8)} (x : Live w h B lp d g rs) (hd : Lit_ d) (ht : TabAt w) (hh0 : 1 ∉ h.l) :
    Calls Tryz.prog 28 #[.pointer (some ⟨h.p, 0, none⟩)] w (OpenedP w h B d g.area g.used rs) :=
  open_go x.disk ht hh0 hd.power x.good.secs x.good.size x.good.loads
theorem run_big (w : World) (s : Nat) (hs : s ≤ 4000000) : ∃ w', (Instr.makeSlice 62 (.int .i64 (s : Int)) (.int .i64 (s : Int))).run Tryz.prog w = .ok (.slice (some ⟨w.heap.size, 0, none⟩) s s) w' ∧ ∃ l : List UInt8, l.length = s ∧ U8At w' w.heap.size l ∧ Keeps [] w w' := by
  obtain ⟨iU, hU, hU0, hU1, hU2⟩ := info_parts infoU8
  obtain ⟨w', hrun, ho, hg⟩ := run_make_full (P := Tryz.prog) w w.heap.size 62 5 iU (.int .u8 0) 1 Tryz.underlying62 hU hU0 hU1 .i64 .i64 s (by rw [hU2]; omega) (by unfold maxLen; omega) (Nat.le_refl _)
  exact ⟨w', hrun, _, List.length_replicate, made_row (by rw [Nat.mul_one] at ho; exact ho), (Keeps.of_grown hg).mono (by simp)⟩
theorem fit_two : fitErr (L.cap 60 - 0) 256 [[97], [98, 99]] = 0 := by decide
theorem commit_big {w : World} {h : DH} {B : Nat → Prop} {lp : Nat} {d : Dk} {g : Lg} {rs : List (List UInt8)} {l : List UInt8} {gb n : Nat} (x : Live w h B lp d g rs) (hd : Lit_ d) (ht : TabAt w) (hc : rs.length ≤ 1000) (c : Nat) (t : TypeId) (hl : l.length = n) (hn : n ≤ 4000000) (hu : U8At w gb l) :
    Calls Tryz.prog 60 #[.pointer (some ⟨lp, 0, none⟩), .slice (some ⟨w.heap.size, 0, none⟩) 1 c] (w.alloc (.cells #[.slice (some ⟨gb, 0, none⟩) n n] t))
      (CommitP (w.alloc (.cells #[.slice (some ⟨gb, 0, none⟩) n n] t)) h B lp d g rs [l]) := by
  have hk : Keeps [] w (w.alloc (.cells #[.slice (some ⟨gb, 0, none⟩) n n] t)) := (Keeps.refl _ _).alloc _
  have hm : n ≤ maxLen := by unfold maxLen; omega
  refine commit_go (ls := [l]) (G := fun _ => True) c (x.keep0 hk) hd (ht.keep hk (by simp)) (.inr ⟨w.heap.size, 0, rfl, trivial, fun j hj => ?_⟩) (by rw [L.body_cons_len]; simp [L.body]; omega) (by omega)
  match j, hj with
  | 0, _ =>
    rw [row_cell (heap_alloc_new w _)]
    refine ⟨_, rfl, ?_⟩
    subst hl
    exact row_elem (hu.keep hk (by simp)) hm
end Go.Proofs.YtbanpdeganlndaaGreatDoor
