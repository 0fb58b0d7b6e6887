/- take: the next bytes of an area. -/
import Derived.Test.YtgjgnieobbhepaaDoorWLeft
namespace Go.Proofs.YtgjgnieobbhepaaDoor
open Go.RowKit
open Reg (Is Fact CB)

attribute [local go_sem] Reg.lateFr Reg.wantedV Reg.gives_value Reg.gives_skip Reg.gives_enter
/-- A reader lies in block rp. -/
def RdrAt (w : World) (rp dp nx en : Nat) (v : Value) : Prop := w.heap[rp]? = some (.cells #[.pointer (some ⟨dp, 0, none⟩), .int .i64 (nx : Int), .int .i64 (en : Int), v] 106 (0, 0))
theorem RdrAt.cells {w : World} {rp dp nx en : Nat} {v : Value} (h : RdrAt w rp dp nx en v) : w.cell? ⟨rp, 0, none⟩ = some (.pointer (some ⟨dp, 0, none⟩)) ∧ w.cell? ⟨rp, 1, none⟩ = some (.int .i64 (nx : Int)) ∧ w.cell? ⟨rp, 2, none⟩ = some (.int .i64 (en : Int)) ∧ w.cell? ⟨rp, 3, none⟩ = some v :=
  ⟨row_cell h 0, row_cell h 1, row_cell h 2, row_cell h 3⟩
theorem RdrAt.keep {S : List Nat} {w w' : World} {rp dp nx en : Nat} {v : Value} (h : RdrAt w rp dp nx en v) (hk : Keeps S w w') (hn : rp ∉ S) : RdrAt w' rp dp nx en v := block_keep h hk hn
/-- A copy of a sector. -/
def SecF (W : Nat) (b : List UInt8) : Fact := fun v w => ∃ A g cap, v = .slice A b.length cap ∧ BytesIn w g A b ∧ W ≤ g
def SecT (W : Nat) (b : List UInt8) : Fact := fun v w => ∃ A g cap, v = .tuple #[.slice A b.length cap, .int .i64 0] ∧ BytesIn w g A b ∧ W ≤ g
theorem SecF.keep0 {W : Nat} {b : List UInt8} : ∀ v w w', SecF W b v w → Keeps [] w w' → SecF W b v w' := by
  rintro v w w' ⟨A, g, cap, h1, h2, h3⟩ hk
  exact ⟨A, g, cap, h1, h2.keep hk (by simp), h3⟩
theorem SecT.keep0 {W : Nat} {b : List UInt8} : ∀ v w w', SecT W b v w → Keeps [] w w' → SecT W b v w' := by
  rintro v w w' ⟨A, g, cap, h1, h2, h3⟩ hk
  exact ⟨A, g, cap, h1, h2.keep hk (by simp), h3⟩
def leftLen (rp : Nat) (w : World) : Nat := match w.cell? ⟨rp, 3, none⟩ with
  | some (.slice _ n _) => n
  | _ => 0
theorem leftLen_of {w : World} {rp dp nx en n cap : Nat} {A : Option Addr} (h : RdrAt w rp dp nx en (.slice A n cap)) : leftLen rp w = n := by
  unfold leftLen; rw [h.cells.2.2.2]
/-- What take yields. -/
def TakeP (w : World) (h : DH) (rp W nx en n : Nat) (A0 : Option Addr) (l : List UInt8) (v : Nat → List UInt8) (s : Nat) (e : Ending) (w' : World) : Prop :=
  ∃ j g off cap A' cap', nx + j ≤ en ∧ n ≤ l.length + j * s ∧ (j = 0 ∨ l.length + (j - 1) * s < n) ∧ e = .returned (.slice (some ⟨g, off, none⟩) n cap) ∧ n ≤ cap ∧ cap ≤ maxLen ∧ BytesIn w' g (some ⟨g, off, none⟩) ((l ++ L.cat v nx j).take n) ∧ W ≤ g ∧
    RdrAt w' rp h.p (nx + j) en (.slice A' ((l ++ L.cat v nx j).drop n).length cap') ∧ LeftIn w' W A' ((l ++ L.cat v nx j).drop n) cap' ∧ (n < (l ++ L.cat v nx j).length → A' = some ⟨g, off + n, none⟩) ∧ Sp [rp] A0 w w'
theorem cat_next (v : Nat → List UInt8) (i j : Nat) : L.cat v i (j + 1) = L.cat v i j ++ v (i + j) := by rw [L.cat_add, L.cat_one]
theorem Sp.trans {S : List Nat} {A : Option Addr} {a b c : World} (h : Sp S A a b) (k : Sp S A b c) (hA : ∀ x, A = some x → x.block < a.heap.size) : Sp S A a c :=
  ⟨h.1.trans k.1 (fun _ h _ => h), fun x hx j hj => (k.2 x hx j hj).trans (h.2 x hx j hj)⟩
theorem Sp.step {rp : Nat} {A0 A : Option Addr} {w wr w2 w3 w4 : World} (h : Sp [rp] A0 w wr) (h2 : Keeps [] wr w2) (h3 : Sp [] A w2 w3) (hA : A = A0 ∨ ∃ a, A = some a ∧ w.heap.size ≤ a.block) (h4 : Keeps [rp] w3 w4) (hA0 : ∀ a, A0 = some a → a.block ≠ rp ∧ a.block < w.heap.size) : Sp [rp] A0 w w4 := by
  have hk3 : Keeps ([rp] ++ blocks A0) w w3 := (h.1.trans h2 (by simp)).trans h3.1 (fun i hi hl => by
    rcases hA with rfl | ⟨a, rfl, ha⟩
    · simp at hi ⊢; exact .inr hi
    · simp [blocks] at hi; omega)
  refine ⟨hk3.trans h4 (fun i hi _ => by simp at hi; simp [hi]), fun a ha j hj => ?_⟩
  obtain ⟨hne, hlt⟩ := hA0 a ha
  have hlr := h.1.size
  have hl2 := h2.size
  have hl3 := h3.1.size
  have e4 : w4.cell? ⟨a.block, j, none⟩ = w3.cell? ⟨a.block, j, none⟩ := h4.cell (p := ⟨a.block, j, none⟩) (by simp only []; omega) (by simpa using hne)
  have e3 : w3.cell? ⟨a.block, j, none⟩ = w2.cell? ⟨a.block, j, none⟩ := by
    rcases hA with rfl | ⟨b, rfl, hb⟩
    · exact h3.2 a ha j hj
    · exact h3.1.cell (p := ⟨a.block, j, none⟩) (by simp only []; omega) (by simp [blocks]; omega)
  have e2 : w2.cell? ⟨a.block, j, none⟩ = wr.cell? ⟨a.block, j, none⟩ := h2.cell (p := ⟨a.block, j, none⟩) (by simp only []; omega) (by simp)
  rw [e4, e3, e2, h.2 a ha j hj]
theorem read_ok (w : World) (h : DH) (B : Nat → Prop) (d : Dk) (x : DskAt w h B d) (hd : d.dead = false) (i : Nat) (hi : i < d.dur.length) : Calls Tryd.prog 25 #[.pointer (some ⟨h.p, 0, none⟩), .int .i64 (i : Int)] w fun e w' => ∃ v, e = .returned v ∧ SecT w.heap.size (d.last i) v w' ∧ Keeps [] w w' := by
  refine (read_any w h B d x i).mono fun e w' hq => ?_
  unfold ReadP at hq
  rw [if_neg (by rw [hd]; simp), if_neg (by rw [(d.has_iff i).2 ⟨by omega, by omega⟩]; simp), Int.toNat_natCast] at hq
  obtain ⟨A, g, cap, h1, h2, h3, _, _, _, h4⟩ := hq
  exact ⟨_, h1, ⟨A, g, cap, rfl, h2, h3⟩, h4⟩
set_option maxRecDepth 100000 in
set_option maxHeartbeats 4000000 in
theorem take_ok (w : World) (h : DH) (B : Nat → Prop) (d : Dk) (rp W nx en n : Nat) (A0 : Option Addr) (cap0 : Nat) (l : List UInt8) (x : DskAt w h B d) (hd : d.dead = false) (r : RdrAt w rp h.p nx en (.slice A0 l.length cap0)) (hl : LeftIn w W A0 l cap0) (hW : W ≤ w.heap.size) (hrp : rp < W) (hsep : ∀ y, (y ∈ h.l ∨ B y) → y < W ∧ y ≠ rp)
    (hen : nx ≤ en) (hN : en ≤ d.dur.length) (hn : n ≤ l.length + (en - nx) * d.size) (hn0 : 0 < n ∨ 0 < cap0) (hll : l.length ≤ 1073741824) (hnb : n ≤ 1073741824) :
    Calls Tryd.prog 67 #[.pointer (some ⟨rp, 0, none⟩), .int .i64 (n : Int)] w (TakeP w h rp W nx en n A0 l d.last d.size) := by
  have hsz := x.ok.size
  have hsecs := x.ok.secs
  have hlt := x.lt
  have HX := Lib.hid x
  have HR := Lib.hid r
  have HL := Lib.hid hl
  have HSEP := Lib.hid hsep
  have HD := Lib.hid hd
  have hmul : (en - nx) * d.size ≤ 4096 * 4096 := Nat.mul_le_mul (by omega) hsz.2
  obtain ⟨m, hm⟩ : ∃ m, m = (en - nx) * d.size := ⟨_, rfl⟩
  have e1 : IntKind.i64.wrap (((en : Int) - (nx : Int)) * (d.size : Int)) = (m : Int) := by
    have : ((en : Int) - (nx : Int)) * (d.size : Int) = (m : Int) := by rw [hm, Int.natCast_mul, Int.natCast_sub hen]
    rw [this]; exact IntWalk.i64_in _ ⟨by omega, by omega⟩
  have e0 : IntKind.i64.wrap ((en : Int) - (nx : Int)) = (en : Int) - (nx : Int) := IntWalk.i64_in _ ⟨by omega, by omega⟩
  have e2 : IntKind.i64.wrap ((l.length : Int) + (m : Int)) = ((l.length + m : Nat) : Int) := by
    rw [show ((l.length + m : Nat) : Int) = (l.length : Int) + (m : Int) by push_cast; rfl]; exact IntWalk.i64_in _ ⟨by omega, by omega⟩
  have e3 : decide (n ≤ l.length + m) = true := by simp; omega
  have e3' : decide ((n : Int) ≤ (l.length : Int) + (m : Int)) = true := by simp; omega
  obtain ⟨c0, c1, c2, c3⟩ := r.cells
  rw [← hm] at hn hmul
  have HM := Lib.hid hm
  clear x r hl hsep hd hm
  go_enter Tryd.func67, Tryd.ntmps67
  go_wp2_with fail
  refine Reg.wp_region_state (A := ?A) (fun _ w' => Keeps [] w w') (Keeps [])
    [Is (.int .i64 (n : Int)), Is (.pointer (some ⟨rp, 0, none⟩)), Is (.pointer (some ⟨rp, 0, none⟩)), Is (.pointer (some ⟨rp, 3, none⟩)), Is (.slice A0 l.length cap0), Is (.int .i64 (l.length : Int)),
     Is (.pointer (some ⟨rp, 0, none⟩)), Is (.pointer (some ⟨rp, 0, none⟩)), Is (.pointer (some ⟨rp, 2, none⟩)), Is (.int .i64 (en : Int)), Is (.pointer (some ⟨rp, 0, none⟩)), Is (.pointer (some ⟨rp, 0, none⟩)), Is (.pointer (some ⟨rp, 1, none⟩)), Is (.int .i64 (nx : Int)), Is (.int .i64 ((en : Int) - (nx : Int))),
     Is (.pointer (some ⟨rp, 0, none⟩)), Is (.pointer (some ⟨rp, 0, none⟩)), Is (.pointer (some ⟨rp, 0, none⟩)), Is (.pointer (some ⟨h.p, 0, none⟩)), Is (.pointer (some ⟨h.p, 0, none⟩)), Is (.pointer (some ⟨h.p, 0, none⟩)), Is (.int .i64 (d.size : Int)), Is (.int .i64 (m : Int)), Is (.int .i64 ((l.length + m : Nat) : Int)), Is (.bool true), Is (.tuple #[])]
    (by kernel_rfl) (by kernel_rfl) rfl ?hA ?hC ?ho ?hlast ?hend
  case hA => intro vs; simp only [Reg.fill, if_true, Nat.zero_add, Nat.reduceAdd, Act.put, List.setIfInBounds_toArray, List.set_cons_succ, List.set_cons_zero]; exact rfl
  case hC => exact (Keeps.refl _ _).drew
  case hlast => repeat (first | exact trivial | refine ⟨Is.keep0, ?_⟩)
  case ho =>
    repeat' apply And.intro
    all_goals
      first
        | exact trivial
        | (intro Ls vs w' hC hL hd K hK
           try simp only [Reg.Deps, Reg.at_, List.getD_cons_zero, List.getD_cons_succ, Region.binds, true_implies, Is, and_true] at hd
           have q0 := hC.cell_some c0 (by simp)
           have q1 := hC.cell_some c1 (by simp)
           have q2 := hC.cell_some c2 (by simp)
           have q3 := hC.cell_some c3 (by simp)
           go_simp
           first
             | exact hK _ _ hC (Keeps.refl _ _) rfl
             | skip)
    · refine (size_any w' h B d (HX.out.keep0 hC)).mono ?_
      rintro e w'' ⟨rfl, rfl⟩
      exact ⟨_, rfl, hK _ _ hC (Keeps.refl _ _) rfl⟩
    · refine (need_yes w').mono ?_
      rintro e w'' ⟨rfl, rfl⟩
      exact ⟨_, rfl, hK _ _ hC (Keeps.refl _ _) rfl⟩
  case hend =>
    intro vs w1 hk1 hall
    have HK1 := Lib.hid hk1
    have HR1 := Lib.hid (HR.out.keep hk1 (by simp))
    have HL1 := Lib.hid (HL.out.keep hk1 (by simp))
    have hw1 := hk1.size
    clear hall hk1 e0 e1 e2 e3 e3' c0 c1 c2 c3
    go_wp2_with fail
    go_loopw [] (fun wr => ∃ j A cap, nx + j ≤ en ∧ (j = 0 ∨ l.length + (j - 1) * d.size < n) ∧ (l ++ L.cat d.last nx j).length = l.length + j * d.size ∧ RdrAt wr rp h.p (nx + j) en (.slice A (l ++ L.cat d.last nx j).length cap) ∧ LeftIn wr W A (l ++ L.cat d.last nx j) cap ∧ Sp [rp] A0 w wr ∧ (A = A0 ∨ ∃ a, A = some a ∧ w.heap.size ≤ a.block) ∧ (j = 0 → cap = cap0)) (fun wr => n - leftLen rp wr)
    case atStart => exact ⟨0, A0, cap0, by omega, .inl rfl, by simp [L.cat], by simpa [L.cat] using HR1.out, by simpa [L.cat] using HL1.out, ⟨HK1.out.mono (by simp), fun a e j hj => by
      have := HL.out.lt a e
      exact HK1.out.cell (p := ⟨a.block, j, none⟩) this.2 (by simp)⟩, .inl rfl, fun _ => rfl⟩
    case round =>
      obtain ⟨j, A, cap, hj, hmin, hlen, hr, hl, hsp, hA, hA2⟩ := hrel
      obtain ⟨S, hS⟩ : ∃ S, S = l ++ L.cat d.last nx j := ⟨_, rfl⟩
      rw [← hS] at hlen hr hl
      have HLL := Lib.hid (leftLen_of hr)
      obtain ⟨q0, q1, q2, q3⟩ := hr.cells
      have HRR := Lib.hid hr
      have HLE := Lib.hid hl
      have HSP := Lib.hid hsp
      have HAA := Lib.hid hA
      have HA2 := Lib.hid hA2
      have HS := Lib.hid hS
      have HMIN := Lib.hid hmin
      have hlenb : S.length ≤ 1073741824 + 16777216 := by
        have : j * d.size ≤ 4096 * 4096 := Nat.mul_le_mul (by omega) hsz.2
        omega
      have f1 := row_free hr 1
      have f3 := row_free hr 3
      have HLEN := Lib.hid hlen
      obtain ⟨sl, hsl⟩ : ∃ sl, sl = S.length := ⟨_, rfl⟩
      have HSL := Lib.hid hsl
      rw [← hsl] at q3 hlenb
      clear hr hl hsp hA hA2 hS hmin hlen hsl
      by_cases hlt : sl < n
      · have hjlt : nx + j < en := by
          have h1 := HLEN.out
          have h2 := HSL.out
          have h3 := HM.out
          by_cases hje : nx + j < en
          · exact hje
          · have : j = en - nx := by omega
            rw [this, ← h3] at h1
            omega
        have hk7 := HSP.out.1
        have hkd : DskAt wr h B d := HX.out.keep hk7 (fun z hz => by
          have hz2 : z = rp ∨ W ≤ z := by
            simp only [List.mem_append, List.mem_singleton] at hz
            rcases hz with hz | hz
            · exact .inl hz
            · right
              cases hA0 : A0 with
              | none => rw [hA0] at hz; simp [blocks] at hz
              | some a =>
                have := HL.out.lt a hA0
                rw [hA0] at hz
                simp [blocks] at hz
                omega
          refine ⟨fun hm => ?_, fun hb => ?_⟩
          · have := HSEP.out z (.inl hm); omega
          · have := HSEP.out z (.inr hb); omega)
        have HRD := Lib.hid (fun w' (hk : Keeps [] wr w') => read_ok w' h B d (hkd.keep0 hk) HD.out (nx + j) (by omega))
        have HWR := Lib.hid hk7.size
        have hsl := Dk.last_len HX.out.ok (i := nx + j) (by omega)
        have HSEC := Lib.hid hsl
        obtain ⟨sec, hsec⟩ : ∃ sec, sec = d.last (nx + j) := ⟨_, rfl⟩
        have HSE := Lib.hid hsec
        rw [← hsec] at HRD HSEC
        clear hk7 hkd hsl hsec
        go_wp2_with fail
        refine Reg.wp_region_state (A := ?A1) (fun _ w' => Keeps [] wr w') (Keeps [])
          [Is (.pointer (some ⟨rp, 0, none⟩)), Is (.pointer (some ⟨rp, 0, none⟩)), Is (.pointer (some ⟨rp, 0, none⟩)), Is (.pointer (some ⟨h.p, 0, none⟩)), Is (.pointer (some ⟨rp, 0, none⟩)), Is (.pointer (some ⟨rp, 0, none⟩)), Is (.pointer (some ⟨rp, 1, none⟩)), Is (.int .i64 ((nx + j : Nat) : Int)), SecT wr.heap.size sec, SecT wr.heap.size sec, SecF wr.heap.size sec, Is (.int .i64 0), SecF wr.heap.size sec, Is (.int .i64 0)]
          (by kernel_rfl) (by kernel_rfl) rfl ?hA1 ?hC1 ?ho1 ?hlast1 ?hend1
        case hA1 => intro vs; simp only [Reg.fill, if_true, Nat.zero_add, Nat.reduceAdd, Act.put, List.setIfInBounds_toArray, List.set_cons_succ, List.set_cons_zero]; exact rfl
        case hC1 => exact (Keeps.refl _ _).drew
        case hlast1 => repeat (first | exact trivial | refine ⟨Is.keep0, ?_⟩ | refine ⟨SecT.keep0, ?_⟩ | refine ⟨SecF.keep0, ?_⟩)
        case ho1 =>
          repeat' apply And.intro
          all_goals
            first
              | exact trivial
              | (intro Ls vs w' hC hL hd K hK
                 try simp only [Reg.Deps, Reg.at_, List.getD_cons_zero, List.getD_cons_succ, Region.binds, true_implies, Is, and_true] at hd
                 have z0 := hC.cell_some q0 (by simp)
                 have z1 := hC.cell_some q1 (by simp)
                 go_simp
                 first
                   | exact hK _ _ hC (Keeps.refl _ _) rfl
                   | skip)
          · refine (HRD.out w' hC).mono ?_
            rintro e w'' ⟨v, rfl, ⟨As, gs, cs, h1, h2, h3⟩, hk⟩
            exact ⟨_, rfl, hK _ _ (hC.trans hk (by simp)) hk ⟨As, gs, cs, h1, h2, Nat.le_trans hC.size h3⟩⟩
          · exact hK _ _ hC (Keeps.refl _ _) (by first | exact hd | exact hd.1)
          · have hd9 : SecT wr.heap.size sec (vs 9) w' := by first | exact hd | exact hd.1
            obtain ⟨As, gs, cs, h1, h2, h3⟩ := hd9
            rw [h1]
            go_simp
            exact hK _ _ hC (Keeps.refl _ _) ⟨As, gs, cs, rfl, h2, h3⟩
          · have hd9 : SecT wr.heap.size sec (vs 9) w' := by first | exact hd | exact hd.1
            obtain ⟨As, gs, cs, h1, h2, h3⟩ := hd9
            rw [h1]
            go_simp
            exact hK _ _ hC (Keeps.refl _ _) rfl
          · exact hK _ _ hC (Keeps.refl _ _) (by first | exact hd | exact hd.1)
        case hend1 =>
          intro vs w2 hk2 hall
          obtain ⟨As, gs, cs, hv12, hbs, hgs⟩ : SecF wr.heap.size sec (vs 12) w2 := hall.2.2.2.2.2.2.2.2.2.2.2.2.1
          have hv13 : vs 13 = .int .i64 0 := hall.2.2.2.2.2.2.2.2.2.2.2.2.2.1
          have HK2 := Lib.hid hk2
          have HBS := Lib.hid hbs
          have z0 := hk2.cell_some q0 (by simp)
          have z1 := hk2.cell_some q1 (by simp)
          have z3 := hk2.cell_some q3 (by simp)
          have HRR2 := Lib.hid (HRR.out.keep hk2 (by simp))
          have HLE2 := Lib.hid (HLE.out.keep hk2 (by simp))
          have hw2 := hk2.size
          have hwr := HWR.out
          have hgsl : gs < w2.heap.size := hbs.lt (by have := HSEC.out; omega)
          obtain rfl : sl = S.length := HSL.out
          rw [hv12, hv13]
          clear hall hk2 hbs hv12 hv13 q0 q1 q2 q3 f1 f3
          go_wp2_with (with_reducible refine wpList_append_left rfl _ _ rfl W A As S sec cap gs cs rfl rfl HLE2.out ?e1 HBS.out ?e2 ?e3 ?_)
          case e1 => omega
          case e2 => have := HSEC.out; omega
          case e3 => have := HSEC.out; omega
          intro A3 cap3 w3 hl3 hsp3 hA3 hA3s
          have hlo : ∀ a, A = some a → W ≤ a.block ∧ a.block < w2.heap.size := HLE2.out.lt
          have hrpn : rp ∉ blocks A := by
            cases hA0 : A with
            | none => simp [blocks]
            | some a => have := (hlo a hA0).1; simp [blocks]; omega
          have HRR3 := Lib.hid (show RdrAt w3 rp h.p (nx + j) en (.slice A S.length cap) from HRR2.out.keep hsp3.1 (by simpa using hrpn))
          obtain ⟨y0, y1, y2, y3⟩ := HRR3.out.cells
          have f1 := row_free HRR3.out 1
          have f3 := row_free HRR3.out 3
          have HL3 := Lib.hid hl3
          have HSP3 := Lib.hid hsp3
          have HA3 := Lib.hid hA3
          have HA3S := Lib.hid hA3s
          have hw3 := hsp3.1.size
          clear hl3 hsp3 hA3 hA3s hlo hrpn z0 z1 z3
          obtain ⟨S', hS'⟩ : ∃ S', S' = S ++ sec := ⟨_, rfl⟩
          rw [← hS'] at HL3
          rw [show S.length + sec.length = S'.length by rw [hS', List.length_append]]
          have HS' := Lib.hid hS'
          obtain ⟨w4, hw4⟩ : ∃ w4, w4 = (w3.setCell ⟨rp, 3, none⟩ (.slice A3 S'.length cap3)).setCell ⟨rp, 1, none⟩ (.int .i64 ((nx : Int) + (j : Int) + 1)) := ⟨_, rfl⟩
          have hk4 : Keeps [rp] w3 w4 := by rw [hw4]; exact ((Keeps.refl _ _).setCell (by simp) _).setCell (by simp) _
          have HSPF := Lib.hid (show Sp [rp] A0 w w4 from Sp.step HSP.out HK2.out HSP3.out HAA.out hk4 (fun a ha => by have := HL.out.lt a ha; omega))
          have HRF := Lib.hid (show RdrAt w4 rp h.p (nx + (j + 1)) en (.slice A3 S'.length cap3) by
            unfold RdrAt
            rw [hw4, row_set (row_set HRR3.out 3 _) 1 _, show ((nx + (j + 1) : Nat) : Int) = (nx : Int) + (j : Int) + 1 by push_cast; omega]
            rfl)
          have HLF := Lib.hid (show LeftIn w4 W A3 S' cap3 from HL3.out.keep hk4 (fun z hz => by simp at hz; omega))
          have HSN := Lib.hid (show S' = l ++ L.cat d.last nx (j + 1) by rw [HS'.out, HS.out, cat_next, HSE.out, List.append_assoc])
          have HSLN := Lib.hid (show S'.length = l.length + (j + 1) * d.size by rw [HS'.out, List.length_append, HLEN.out, HSEC.out, Nat.add_mul]; omega)
          have HAF := Lib.hid (show A3 = A0 ∨ ∃ a, A3 = some a ∧ w.heap.size ≤ a.block from by
            rcases HA3.out with e | ⟨a, e, ha⟩
            · rw [e]; exact HAA.out
            · exact .inr ⟨a, e, by omega⟩)
          have hS'l : S'.length = S.length + d.size := by rw [hS', List.length_append, HSEC.out]
          have HS'L := Lib.hid hS'l
          clear hS' hk4 hS'l
          subst hw4
          go_wp2_with fail
          go_roundw
          case rel => exact ⟨j + 1, A3, cap3, by omega, .inr (by have := HLEN.out; simp only [Nat.add_sub_cancel]; omega), by rw [← HSN.out]; exact HSLN.out, by rw [← HSN.out]; exact HRF.out, by rw [← HSN.out]; exact HLF.out, HSPF.out, HAF.out, fun h => by omega⟩
          case measure =>
            rw [leftLen_of HRF.out, HLL.out]
            have := HS'L.out
            omega
      · have hsl := HSL.out
        have hj0 : n = 0 → j = 0 := fun h0 => by rcases HMIN.out with e | e <;> omega
        have hnm : n ≤ l.length + j * d.size := by have := HLEN.out; omega
        obtain ⟨g, off, cs, rfl, hg, hgW, hoff, hlen, hcm, hcs⟩ : ∃ g off cs, A = some ⟨g, off, none⟩ ∧ wr.heap[g]? = some (.cells cs 5 (0, 0)) ∧ W ≤ g ∧ off + cap ≤ cs.size ∧ S.length ≤ cap ∧ cap ≤ maxLen ∧ ∀ k (h : k < S.length), cs[off + k]? = some (.int .u8 ((S[k].toNat : Nat) : Int)) := by
          rcases HLE.out with ⟨_, h1, h2⟩ | h1
          · exfalso
            have hs0 : S.length = 0 := by rw [h1]; rfl
            have hn0' : n = 0 := by omega
            have := HA2.out (hj0 hn0')
            omega
          · exact h1
        have hcs9 : sl ≤ cap := by omega
        have hcm9 := hcm
        unfold maxLen at hcm9
        have hbn : BytesIn wr g (some ⟨g, off, none⟩) S := .inr ⟨off, rfl, fun k hk => by rw [row_cell hg]; exact hcs k hk⟩
        have hnc : (n : Int) ≤ (cap : Int) := by omega
        have hns : (n : Int) ≤ (sl : Int) := by omega
        obtain ⟨A', hA'⟩ : ∃ A', A' = (if cap = n then (some ⟨g, off, none⟩ : Option Addr) else some ⟨g, off + n, none⟩) := ⟨_, rfl⟩
        have hdl : (S.drop n).length = sl - n := by rw [List.length_drop, hsl]
        have HDL := Lib.hid hdl
        obtain ⟨w4, hw4⟩ : ∃ w4, w4 = wr.setCell ⟨rp, 3, none⟩ (.slice A' (sl - n) (cap - n)) := ⟨_, rfl⟩
        have hk4 : Keeps [rp] wr w4 := by rw [hw4]; exact (Keeps.refl _ _).setCell (by simp) _
        have HFIN := Lib.hid (show TakeP w h rp W nx en n A0 l d.last d.size (.returned (.slice (some ⟨g, off, none⟩) n cap)) w4 from by
          refine ⟨j, g, off, cap, A', cap - n, hj, hnm, HMIN.out, rfl, by omega, hcm, ?_, hgW, ?_, ?_, fun hlt2 => ?_, ?_⟩
          · rw [← HS.out]; exact (hbn.take n).keep hk4 (by simp; omega)
          · rw [← HS.out, hdl]; unfold RdrAt; rw [hw4, row_set HRR.out 3 _]; rfl
          · rw [← HS.out]
            have hg4 := block_keep hg hk4 (by simp; omega)
            by_cases hcn : cap = n
            · have hd0 : S.drop n = [] := List.eq_nil_of_length_eq_zero (by omega)
              refine .inr ⟨g, off, cs, by rw [hA', if_pos hcn], hg4, hgW, by omega, by rw [hd0]; exact Nat.zero_le _, by unfold maxLen; omega, fun k hk => by rw [hd0] at hk; simp at hk⟩
            · refine .inr ⟨g, off + n, cs, by rw [hA', if_neg hcn], hg4, hgW, by omega, by omega, by unfold maxLen; omega, fun k hk => ?_⟩
              have hk2 : n + k < S.length := by omega
              rw [Nat.add_assoc, hcs (n + k) hk2]; simp
          · rw [← HS.out] at hlt2
            rw [hA', if_neg (by omega)]
          · exact Sp.step HSP.out (Keeps.refl _ _) (A := A0) ⟨Keeps.refl _ _, fun _ _ _ _ => rfl⟩ (.inl rfl) hk4 (fun a ha => by have := HL.out.lt a ha; omega))
        clear hsl hbn hcs hg hdl hk4 hnm hj0 HA2 HS HMIN HSP HLL HAA HLE hlen
        by_cases hcn : cap = n
        · have hF := HFIN.out
          rw [hw4, hA', if_pos hcn, show cap - n = 0 by omega, show sl - n = 0 by omega] at hF
          have HF := Lib.hid hF
          clear hF hA' hw4 HFIN
          subst hcn
          go_wp2_with fail
          go_ret
          exact HF.out
        · have hF := HFIN.out
          rw [hw4, hA', if_neg hcn] at hF
          have HF := Lib.hid hF
          clear hF hA' hw4 HFIN
          go_wp2_with fail
          go_ret
          exact HF.out
set_option maxRecDepth 100000 in
set_option maxHeartbeats 4000000 in
theorem take_no (w : World) (h : DH) (B : Nat → Prop) (d : Dk) (rp nx en n : Nat) (A0 : Option Addr) (cap0 ll : Nat) (x : DskAt w h B d) (r : RdrAt w rp h.p nx en (.slice A0 ll cap0))
    (hen : nx ≤ en) (hN : en ≤ d.dur.length) (hn : ll + (en - nx) * d.size < n) (hll : ll ≤ 1073741824) (hnb : n ≤ 9223372036854775807) :
    Calls Tryd.prog 67 #[.pointer (some ⟨rp, 0, none⟩), .int .i64 (n : Int)] w fun e w' => e = .panicked stopped ∧ Keeps [] w w' := by
  have hsz := x.ok.size
  have hsecs := x.ok.secs
  have HX := Lib.hid x
  have hmul : (en - nx) * d.size ≤ 4096 * 4096 := Nat.mul_le_mul (by omega) hsz.2
  obtain ⟨m, hm⟩ : ∃ m, m = (en - nx) * d.size := ⟨_, rfl⟩
  have e1 : IntKind.i64.wrap (((en : Int) - (nx : Int)) * (d.size : Int)) = (m : Int) := by
    have : ((en : Int) - (nx : Int)) * (d.size : Int) = (m : Int) := by rw [hm, Int.natCast_mul, Int.natCast_sub hen]
    rw [this]; exact IntWalk.i64_in _ ⟨by omega, by omega⟩
  have e0 : IntKind.i64.wrap ((en : Int) - (nx : Int)) = (en : Int) - (nx : Int) := IntWalk.i64_in _ ⟨by omega, by omega⟩
  have e2 : IntKind.i64.wrap ((ll : Int) + (m : Int)) = ((ll + m : Nat) : Int) := by
    rw [show ((ll + m : Nat) : Int) = (ll : Int) + (m : Int) by push_cast; rfl]; exact IntWalk.i64_in _ ⟨by omega, by omega⟩
  rw [← hm] at hn hmul
  have e3 : decide (n ≤ ll + m) = false := by simp; omega
  have e3' : decide ((n : Int) ≤ (ll : Int) + (m : Int)) = false := by simp; omega
  obtain ⟨c0, c1, c2, c3⟩ := r.cells
  clear x r hm
  go_enter Tryd.func67, Tryd.ntmps67
  go_wp2_with fail
  refine RegP.wp_region_last (fun c w' => c = stopped ∧ Keeps [] w w') 25 [0, 1, 2, 3, 4, 5, 6, 7, 8, 9, 10, 11, 12, 13, 14, 15, 16, 17, 18, 19, 20, 21, 22, 23, 24] (fun w' => Keeps [] w w') (fun _ => False) (Keeps []) (A := ?A)
    [Is (.int .i64 (n : Int)), Is (.pointer (some ⟨rp, 0, none⟩)), Is (.pointer (some ⟨rp, 0, none⟩)), Is (.pointer (some ⟨rp, 3, none⟩)), Is (.slice A0 ll cap0), Is (.int .i64 (ll : Int)),
     Is (.pointer (some ⟨rp, 0, none⟩)), Is (.pointer (some ⟨rp, 0, none⟩)), Is (.pointer (some ⟨rp, 2, none⟩)), Is (.int .i64 (en : Int)), Is (.pointer (some ⟨rp, 0, none⟩)), Is (.pointer (some ⟨rp, 0, none⟩)), Is (.pointer (some ⟨rp, 1, none⟩)), Is (.int .i64 (nx : Int)), Is (.int .i64 ((en : Int) - (nx : Int))),
     Is (.pointer (some ⟨rp, 0, none⟩)), Is (.pointer (some ⟨rp, 0, none⟩)), Is (.pointer (some ⟨rp, 0, none⟩)), Is (.pointer (some ⟨h.p, 0, none⟩)), Is (.pointer (some ⟨h.p, 0, none⟩)), Is (.pointer (some ⟨h.p, 0, none⟩)), Is (.int .i64 (d.size : Int)), Is (.int .i64 (m : Int)), Is (.int .i64 ((ll + m : Nat) : Int)), Is (.bool false), Is (.tuple #[])]
    ?hQ (by kernel_rfl) (by kernel_rfl) (by kernel_rfl) rfl ?hA ?hC ?ho ?hlast ?hend
  case hQ =>
    intro b c w' hb hq
    exact ⟨hb, by rw [hq.1], hq.2⟩
  case hA => intro vs; simp only [Reg.fill, if_true, Nat.zero_add, Nat.reduceAdd, Act.put, List.setIfInBounds_toArray, List.set_cons_succ, List.set_cons_zero]; exact rfl
  case hC => exact (Keeps.refl _ _).drew
  case hlast => repeat (first | exact trivial | refine ⟨Is.keep0, ?_⟩)
  case ho =>
    repeat' apply And.intro
    all_goals
      first
        | exact trivial
        | (intro b vs w' hC hb hd K hK
           have hbb : b = false := by apply hb; decide
           subst hbb
           have hC0 := hC.1 rfl
           try simp only [Reg.Deps, Reg.at_, List.getD_cons_zero, List.getD_cons_succ, Region.binds, true_implies, Is, and_true] at hd
           have q0 := hC0.cell_some c0 (by simp)
           have q1 := hC0.cell_some c1 (by simp)
           have q2 := hC0.cell_some c2 (by simp)
           have q3 := hC0.cell_some c3 (by simp)
           simp only [Reg.wantedV, if_true]
           go_simp
           simp only [RegP.gives_value, RegP.gives_skip, RegP.gives_enter]
           first
             | exact hK _ _ (CB.pre hC0 rfl) (Keeps.refl _ _) rfl
             | skip)
    · refine (size_any w' h B d (HX.out.keep0 hC0)).mono ?_
      rintro e w'' ⟨rfl, rfl⟩
      exact .inl ⟨_, rfl, hK _ _ (CB.pre hC0 rfl) (Keeps.refl _ _) rfl⟩
    · refine (need_no w').mono ?_
      rintro e w'' ⟨rfl, rfl⟩
      exact .inr ⟨_, rfl, rfl, hC0⟩
  case hend => intro vs w' hC; exact hC.elim
end Go.Proofs.YtgjgnieobbhepaaDoor
