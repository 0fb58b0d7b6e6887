/- The reader's frame: the records of the next frame, or the panic that ends the reading. -/
import Derived.Test.YtgjgnieobbhepaaDoorWTake
namespace Go.Proofs.YtgjgnieobbhepaaDoor
open Go.RowKit
open Reg (Is Fact CB)

attribute [local go_sem] Reg.lateFr Reg.wantedV Reg.gives_value Reg.gives_skip Reg.gives_enter
def FrameP (w : World) (h : DH) (rp nx en : Nat) (R : Option (List (List UInt8) × Nat)) (e : Ending) (w' : World) : Prop :=
  match R with
  | some (rs, k) => ∃ v lv, e = .returned v ∧ RowsOwn w' w.heap.size v rs ∧ RdrAt w' rp h.p (nx + k) en lv ∧ Keeps [rp] w w'
  | none => e = .panicked stopped ∧ Keeps [rp] w w'
theorem frameP_none {w w' : World} {h : DH} {rp nx en : Nat} {R : Option (List (List UInt8) × Nat)} (hR : R = none) (hk : Keeps [rp] w w') : FrameP w h rp nx en R (.panicked stopped) w' := by subst hR; exact ⟨rfl, hk⟩
theorem Sp.keeps {S : List Nat} {w w' : World} (h : Sp S none w w') : Keeps S w w' := h.1.mono (fun i hi _ => by simpa [blocks] using hi)
/-- What the first and the second taking amount to. -/
theorem first_take {s j : Nat} (hs : 64 ≤ s) (h1 : 9 ≤ j * s) (h2 : j = 0 ∨ (j - 1) * s < 9) : j = 1 := by
  rcases h2 with rfl | h2
  · omega
  · rcases j with _ | _ | j
    · omega
    · rfl
    · exfalso
      rw [show j + 1 + 1 - 1 = j + 1 by omega, Nat.add_mul] at h2
      omega
theorem second_take {s j n : Nat} (hs : 64 ≤ s) (h1 : n ≤ s - 9 + j * s) (h2 : j = 0 ∨ s - 9 + (j - 1) * s < n) : (9 + n + s - 1) / s = 1 + j := by
  have h3 : (1 + j) * s = s + j * s := by rw [Nat.add_mul]; omega
  refine Nat.div_eq_of_lt_le (by rcases h2 with rfl | h2
                                 · omega
                                 · rcases j with _ | j
                                   · omega
                                   · rw [Nat.add_sub_cancel] at h2
                                     have : (1 + (j + 1)) * s = s + (j * s + s) := by rw [Nat.add_mul, Nat.add_mul]; omega
                                     omega) (by rw [Nat.add_mul]; omega)
theorem cat_prefix {v : Nat → List UInt8} {nx j m : Nat} (h : j ≤ m) (n : Nat) (hn : n ≤ (L.cat v nx j).length) : (L.cat v nx j).take n = (L.cat v nx m).take n := by
  obtain ⟨k, rfl⟩ : ∃ k, m = j + k := ⟨m - j, by omega⟩
  rw [L.cat_add, List.take_append_of_le_length hn]
theorem cat_body {v : Nat → List UInt8} {nx en j s n : Nat} (h9 : 9 ≤ s) (hl : ∀ i, i < en → (v i).length = s) (hj : nx + 1 + j ≤ en) (hn : n ≤ s - 9 + j * s) : ((L.cat v nx 1).drop 9 ++ L.cat v (nx + 1) j).take n = ((L.cat v nx (en - nx)).drop 9).take n := by
  obtain ⟨m, hm⟩ : ∃ m, en - nx = 1 + (j + m) := ⟨en - nx - 1 - j, by omega⟩
  have h1 : (L.cat v nx 1).length = s := by rw [L.cat_one]; exact hl nx (by omega)
  have h2 : (L.cat v (nx + 1) j).length = j * s := L.cat_length fun i _ hi => hl i (by omega)
  rw [hm, L.cat_add 1, L.cat_add j, List.drop_append_of_le_length (by omega), ← List.append_assoc, List.take_append_of_le_length (l₁ := (L.cat v nx 1).drop 9 ++ L.cat v (nx + 1) j) (by rw [List.length_append, List.length_drop, h1, h2]; exact hn)]
theorem RowsOwn.lower {w : World} {W W' : Nat} {v : Value} {rs : List (List UInt8)} (h : RowsOwn w W v rs) (hW : W' ≤ W) : RowsOwn w W' v rs := by
  obtain ⟨xs, ho, he⟩ := h
  refine ⟨xs, ⟨ho.1, ho.2.imp id fun ⟨g, cap, cur, h1, h2, h3⟩ => ⟨g, cap, cur, h1, Nat.le_trans hW h2, h3⟩⟩, fun j hj => ?_⟩
  obtain ⟨x, h1, h2⟩ := he j hj
  exact ⟨x, h1, h2.mono fun y hy => ⟨Nat.le_trans hW hy.1, hy.2⟩⟩
theorem frameP_some {w w4 w5 : World} {h : DH} {rp nx en k : Nat} {R : Option (List (List UInt8) × Nat)} {Rs : Option (List (List UInt8))} {lv : Value} {e : Ending} (hR : R = Rs.map fun rs => (rs, k)) (hs : SplitP w4 Rs e w5) (hW : w.heap.size ≤ w4.heap.size) (hr : RdrAt w4 rp h.p (nx + k) en lv) (hk : Keeps [rp] w w4) : FrameP w h rp nx en R e w5 := by
  subst hR
  cases Rs with
  | none => exact ⟨hs.1, hk.trans hs.2 (by simp)⟩
  | some rs =>
    obtain ⟨v, h1, h2, h3⟩ := hs
    exact ⟨v, lv, h1, h2.lower hW, hr.keep h3 (by simp), hk.trans h3 (by simp)⟩
set_option maxRecDepth 100000 in
set_option maxHeartbeats 8000000 in
theorem frame_read (w : World) (h : DH) (B : Nat → Prop) (d : Dk) (rp nx en : Nat) (lv : Value) (x : DskAt w h B d) (hd : d.dead = false) (r : RdrAt w rp h.p nx en lv) (ht : TabAt w) (hr0 : rp ≠ 0) (hsep : ∀ y, (y ∈ h.l ∨ B y) → y ≠ rp)
    (hen : nx ≤ en) (hN : en ≤ d.dur.length) :
    Calls Tryd.prog 61 #[.pointer (some ⟨rp, 0, none⟩)] w (FrameP w h rp nx en (L.readF d.size (L.cat d.last nx (en - nx)))) := by
  have hsz := x.ok.size
  have hsecs := x.ok.secs
  have hlt := x.lt
  have hrpl := block_lt r
  obtain ⟨S, hS⟩ : ∃ S, S = L.cat d.last nx (en - nx) := ⟨_, rfl⟩
  have hSl : S.length = (en - nx) * d.size := by rw [hS]; exact L.cat_length fun j _ h2 => Dk.last_len x.ok (by omega)
  have hmul : (en - nx) * d.size ≤ 4096 * 4096 := Nat.mul_le_mul (by omega) hsz.2
  rw [← hS]
  obtain ⟨R, hR⟩ : ∃ R, R = L.readF d.size S := ⟨_, rfl⟩
  rw [← hR]
  have HR := Lib.hid hR
  have HS := Lib.hid hS
  have HSL := Lib.hid hSl
  obtain ⟨c0, c1, c2, c3⟩ := r.cells
  have f3 := row_free r 3
  obtain ⟨w1, hw1⟩ : ∃ w1, w1 = w.setCell ⟨rp, 3, none⟩ (.slice none 0 0) := ⟨_, rfl⟩
  have hk1 : Keeps [rp] w w1 := by rw [hw1]; exact (Keeps.refl _ _).setCell (by simp) _
  have hx1 : DskAt w1 h B d := x.keep hk1 (fun z hz => ⟨fun hm => by simp at hz; exact hsep z (.inl hm) hz, fun hb => by simp at hz; exact hsep z (.inr hb) hz⟩)
  have hr1 : RdrAt w1 rp h.p nx en (.slice none ([] : List UInt8).length 0) := by unfold RdrAt; rw [hw1, row_set r 3 _]; rfl
  have hsz1 : w1.heap.size = w.heap.size := by rw [hw1]; simp [World.setCell]
  have HX1 := Lib.hid hx1
  have HR1 := Lib.hid hr1
  have HK1 := Lib.hid hk1
  have HTAB := Lib.hid (ht.keep hk1 (by simp; omega))
  have HTABW := Lib.hid ht
  have HSEP := Lib.hid (show ∀ y, (y ∈ h.l ∨ B y) → y < w.heap.size ∧ y ≠ rp from fun y hy => ⟨by
    rcases hy with hy | hy
    · simp [DH.l] at hy; omega
    · exact x.low y hy, hsep y hy⟩)
  have HD := Lib.hid hd
  by_cases he : nx = en
  · have HNO := Lib.hid (take_no w1 h B d rp nx en 9 none 0 0 hx1 (by simpa using hr1) hen hN (by rw [he]; simp) (by omega) (by omega))
    have HRN := Lib.hid (show R = none by rw [hR]; exact L.readF_short (by rw [hSl, he]; simp))
    clear x r ht hsep hd hx1 hr1 hk1 hsz1 hR hS hSl
    subst hw1
    go_enter Tryd.func61, Tryd.ntmps61
    go_wp2_with fail
    refine HNO.out.mono ?_
    rintro e w2 ⟨rfl, hk2⟩
    have HK2 := Lib.hid (HK1.out.trans hk2 (by simp))
    clear hk2
    go_wp2
    exact ⟨rfl, frameP_none HRN.out HK2.out⟩
  · have hS9 : d.size ≤ S.length := by
      rw [hSl]
      have : 1 * d.size ≤ (en - nx) * d.size := Nat.mul_le_mul_right _ (by omega)
      omega
    have HT1 := Lib.hid (take_ok w1 h B d rp w.heap.size nx en 9 none 0 [] hx1 hd hr1 (.inl ⟨rfl, rfl, rfl⟩) (by omega) hrpl HSEP.out hen hN (by rw [← hSl]; simp; omega) (.inl (by omega)) (by simp) (by omega))
    have HW1 := Lib.hid hsz1
    clear x r ht hsep hd hx1 hr1 hk1 hsz1 hR hS hSl
    subst hw1
    go_enter Tryd.func61, Tryd.ntmps61
    go_wp2_with fail
    refine HT1.out.mono ?_
    rintro e w2 ⟨j, g, off, cap, A', cap', hj, hj1, hj2, rfl, h9c, hcm, hb2, hg, hr2, hl2, hA2, hsp2⟩
    have hjj : j = 1 := first_take hsz.1 (by simpa using hj1) (by simpa using hj2)
    subst hjj
    simp only [List.nil_append] at hb2 hr2 hl2 hA2
    have hk2 := hsp2.keeps
    have hx2 := HX1.out.keep hk2 (fun z hz => by simp at hz; rw [hz]; exact ⟨fun hm => (HSEP.out rp (.inl hm)).2 rfl, fun hb => (HSEP.out rp (.inr hb)).2 rfl⟩)
    have h1en : nx + 1 ≤ en := by omega
    have hone : (L.cat d.last nx 1).length = d.size := by rw [L.cat_one]; exact Dk.last_len HX1.out.ok (by omega)
    have hpre : (L.cat d.last nx 1).take 9 = S.take 9 := by rw [HS.out]; exact cat_prefix (by omega) 9 (by omega)
    rw [hpre] at hb2
    have hS9' : (S.take 9).length = 9 := by rw [List.length_take]; omega
    have hl2len : ((L.cat d.last nx 1).drop 9).length = d.size - 9 := by rw [List.length_drop, hone]
    have hA' := hA2 (by omega)
    subst hA'
    obtain ⟨⟨_, hlb, _⟩, hlc, _⟩ := hl2.bytes
    rw [hl2len] at hlc
    -- the parts of the head
    obtain ⟨o', ho', hcell⟩ : ∃ o', (some ⟨g, off, none⟩ : Option Addr) = some ⟨g, o', none⟩ ∧ ∀ k (h : k < (S.take 9).length), w2.cell? ⟨g, o' + k, none⟩ = some (.int .u8 (((S.take 9)[k].toNat : Nat) : Int)) := by
      rcases hb2 with h0 | h1
      · rw [h0] at hS9'; simp at hS9'
      · exact h1
    obtain rfl : off = o' := by simpa using ho'
    obtain ⟨b0, hb0⟩ : ∃ b0 : UInt8, b0 = S.getD 0 0 := ⟨_, rfl⟩
    have hc0 : w2.cell? ⟨g, off, none⟩ = some (.int .u8 ((b0.toNat : Nat) : Int)) := by
      have := hcell 0 (by omega)
      rw [Nat.add_zero] at this
      rw [this, hb0]
      congr 4
      rw [List.getElem_take, List.getD_eq_getElem?_getD, List.getElem?_eq_getElem (by omega), Option.getD_some]
    have hpart : ∀ w' a m, a + m ≤ 9 → (∀ j, j < off + 9 → w'.cell? ⟨g, j, none⟩ = w2.cell? ⟨g, j, none⟩) → BytesIn w' g (some ⟨g, off + a, none⟩) ((S.drop a).take m) := fun w' a m ham hkeep => .inr ⟨off + a, rfl, fun k hk => by
      have hk' : k < m := by rw [List.length_take] at hk; omega
      have := hcell (a + k) (by omega)
      rw [Nat.add_assoc, hkeep (off + (a + k)) (by omega), this]
      simp⟩
    have HPART := Lib.hid hpart
    have HNUM := Lib.hid (by
      have := number_any w2 g (cap - 1) (some ⟨g, off + 1, none⟩) ((S.drop 1).take 8) (hpart w2 1 8 (by omega) (fun _ _ => rfl)) (by rw [List.length_take, List.length_drop]; omega)
      rw [show ((S.drop 1).take 8).length = 8 by rw [List.length_take, List.length_drop]; omega, L.de_take (by omega) (by rw [List.length_drop]; omega)] at this
      exact this)
    obtain ⟨n, hn⟩ : ∃ n, n = L.de32 (S.drop 1) := ⟨_, rfl⟩
    have hnl : n < 4294967296 := by rw [hn]; exact L.de32_lt _
    rw [← hn] at HNUM
    have HN := Lib.hid hn
    have HB0 := Lib.hid hb0
    have HX2 := Lib.hid hx2
    have HR2 := Lib.hid hr2
    have HL2 := Lib.hid hl2
    have HK2 := Lib.hid (HK1.out.trans hk2 (fun _ h _ => h))
    have HTAB2 := Lib.hid (HTAB.out.keep hk2 (by simp; omega))
    have HONE := Lib.hid hone
    have HLL := Lib.hid hl2len
    have hg2 : g < w2.heap.size := World.block_lt_of_cell? w2 _ hc0
    have hw2s : w.heap.size ≤ w2.heap.size := by have := hk2.size; have := HW1.out; omega
    clear hsp2 hx2 hr2 hl2 hpre hb2 hone hl2len hcell hpart hn hb0 hk2 hj1 hj2 hA2 ho' hlb hS9'
    have hcn1 : ¬ cap = 1 := by omega
    have hcn5 : ¬ cap = 5 := by omega
    by_cases hm : b0 = 1
    · have hm1 : (((b0.toNat : Nat) : Int) == 1) = true := by rw [hm]; rfl
      have HM := Lib.hid hm
      clear hm
      by_cases hfit : n ≤ d.size - 9 + (en - (nx + 1)) * d.size
      · have hmul2 : (en - (nx + 1)) * d.size ≤ 4096 * 4096 := Nat.mul_le_mul (by omega) hsz.2
        have hl2 := HL2.out.bytes
        have HT2 := Lib.hid (take_ok w2 h B d rp w.heap.size (nx + 1) en n (some ⟨g, off + 9, none⟩) cap' ((L.cat d.last nx 1).drop 9) HX2.out HD.out HR2.out HL2.out hw2s hrpl HSEP.out h1en hN (by rw [HLL.out]; exact hfit) (.inr (by omega)) (by rw [HLL.out]; omega) (by omega))
        clear hl2
        go_wp2_with fail
        refine (need_yes w2).mono ?_
        rintro e w' ⟨rfl, rfl⟩
        go_wp2_with fail
        refine HNUM.out.mono ?_
        rintro e w' ⟨rfl, rfl⟩
        go_wp2_with fail
        refine HT2.out.mono ?_
        rintro e w3 ⟨j2, g3, off3, cap3, A3, cap3', hj3, hj31, hj32, rfl, hn3c, hc3m, hb3, hg3, hr3, hl3, hA3, hsp3⟩
        rw [HLL.out] at hj31 hj32
        have hkk := second_take hsz.1 hj31 hj32
        have hbody := cat_body (v := d.last) (by omega) (fun i hi => Dk.last_len HX2.out.ok (by omega)) hj3 hj31
        rw [← HS.out] at hbody
        rw [hbody] at hb3
        obtain ⟨bd, hbd⟩ : ∃ bd, bd = (S.drop 9).take n := ⟨_, rfl⟩
        rw [← hbd] at hb3
        have hSn : 9 + n ≤ S.length := by
          rw [HSL.out]
          have : (en - nx) * d.size = (en - (nx + 1)) * d.size + d.size := by rw [show en - nx = en - (nx + 1) + 1 by omega, Nat.add_mul]; omega
          omega
        have hbl : bd.length = n := by rw [hbd, List.length_take, List.length_drop]; omega
        have hk23 : Keeps [rp] w w3 := ((HK2.out.mono (T := [rp, g]) (by simp)).trans (hsp3.1.mono (T := [rp, g]) (by simp [blocks])) (fun _ h _ => h)).mono (fun i hi hl => by simp at hi ⊢; omega)
        have hlow : ∀ j, j < off + 9 → w3.cell? ⟨g, j, none⟩ = w2.cell? ⟨g, j, none⟩ := fun j hj => hsp3.2 ⟨g, off + 9, none⟩ rfl j hj
        have hg3s : g < w3.heap.size := by have := hsp3.1.size; omega
        have HH1 := Lib.hid (show ∀ w', Keeps [] w3 w' → BytesIn w' g (some ⟨g, off + 1, none⟩) ((S.drop 1).take 4) from fun w' hk => HPART.out w' 1 4 (by omega) (fun j hj => (hk.cell (p := ⟨g, j, none⟩) hg3s (by simp)).trans (hlow j hj)))
        have HH1L := Lib.hid (show ((S.drop 1).take 4).length = 4 by rw [List.length_take, List.length_drop]; omega)
        have HNM5 := Lib.hid (show ∀ w', Keeps [] w3 w' → Calls Tryd.prog 69 #[.slice (some ⟨g, off + 5, none⟩) 4 (cap - 5)] w' fun e w'' => e = .returned (.int .u32 ((L.de32 (S.drop 5) : Nat) : Int)) ∧ w' = w'' from fun w' hk => by
          have := number_any w' g (cap - 5) (some ⟨g, off + 5, none⟩) ((S.drop 5).take 4) (HPART.out w' 5 4 (by omega) (fun j hj => (hk.cell (p := ⟨g, j, none⟩) hg3s (by simp)).trans (hlow j hj))) (by rw [List.length_take, List.length_drop]; omega)
          rwa [show ((S.drop 5).take 4).length = 4 by rw [List.length_take, List.length_drop]; omega, L.de_take (by omega) (by rw [List.length_drop]; omega)] at this)
        obtain ⟨ce, hce⟩ : ∃ ce, ce = L.de32 (S.drop 5) := ⟨_, rfl⟩
        rw [← hce] at HNM5
        have HBD := Lib.hid (show ∀ w', Keeps [] w3 w' → BytesIn w' g3 (some ⟨g3, off3, none⟩) bd from fun w' hk => hb3.keep hk (by simp))
        have HBL := Lib.hid hbl
        obtain ⟨cc, hcc⟩ : ∃ cc, cc = M.crc [(S.drop 1).take 4, bd] := ⟨_, rfl⟩
        have HCC := Lib.hid hcc
        have HT3 := Lib.hid (show ∀ w', Keeps [] w3 w' → TabAt w' from fun w' hk => (HTABW.out.keep hk23 (by simp; omega)).keep hk (by simp))
        have HSPL := Lib.hid (show ∀ w', Keeps [] w3 w' → Calls Tryd.prog 70 #[.slice (some ⟨g3, off3, none⟩) n cap3] w' (SplitP w' (L.split bd)) from fun w' hk => by
          have := split_any w' g3 cap3 (some ⟨g3, off3, none⟩) bd (HBD.out w' hk) (by rw [hbl]; exact hn3c) hc3m (by omega)
          rwa [hbl] at this)
        have HRM := Lib.hid (show cc = ce → R = (L.split bd).map fun rs => (rs, 1 + j2) from fun h => by
          rw [HR.out, L.readF_ok (by omega) (by rw [← HB0.out]; exact HM.out) (by rw [← HN.out]; omega) (by rw [← HN.out, ← hbd, ← hcc, ← hce]; exact h), ← HN.out, ← hbd, hkk])
        have HRX := Lib.hid (show cc ≠ ce → R = none from fun h => by
          rw [HR.out]; exact L.readF_sum (by rw [← HN.out, ← hbd, ← hcc, ← hce]; exact h))
        have HR3 := Lib.hid hr3
        have HK3 := Lib.hid hk23
        have hw3s := hk23.size
        have h5i : (5 : Int) ≤ (9 : Int) := by omega
        have h1cap : (5 : Int) ≤ (cap : Int) := by omega
        clear hj31 hj32 hb3 hr3 hl3 hA3 hsp3 hkk hbody hbd hbl hk23 hlow hce hcc
        by_cases hcm2 : cc = ce
        · have hcb : (((cc : Nat) : Int) == ((ce : Nat) : Int)) = true := by rw [hcm2]; simp
          have HRS := Lib.hid (HRM.out hcm2)
          clear hcm2
          go_wp2_with fail
          refine Reg.wp_region_state (A := ?A) (fun _ w' => Keeps [] w3 w') (Keeps [])
            [Is (.slice (some ⟨g, off, none⟩) 9 cap), Is (.slice (some ⟨g, off + 1, none⟩) 4 (cap - 1)), Is (.slice (some ⟨g3, off3, none⟩) n cap3), NewRow [] w3.heap.size 34 #[.slice (some ⟨g, off + 1, none⟩) 4 (cap - 1), .slice (some ⟨g3, off3, none⟩) n cap3],
              Is (.int .u32 (cc : Int)), Is (.slice (some ⟨g, off, none⟩) 9 cap), Is (.slice (some ⟨g, off + 5, none⟩) 4 (cap - 5)), Is (.int .u32 (ce : Int)), Is (.bool true), Is (.tuple #[])]
            (by kernel_rfl) (by kernel_rfl) rfl ?hA ?hC ?ho ?hlast ?hend
          case hA => intro vs; simp only [Reg.fill, if_true, Nat.zero_add, Nat.reduceAdd, Act.put, List.setIfInBounds_toArray, List.set_cons_succ, List.set_cons_zero]; exact rfl
          case hC => exact (Keeps.refl _ _).drew
          case hlast => repeat (first | exact trivial | refine ⟨Is.keep0, ?_⟩ | refine ⟨NewRow.keep, ?_⟩)
          case ho =>
            repeat' apply And.intro
            all_goals
              first
                | exact trivial
                | (intro Ls vs w' hC0 hL hd K hK
                   try simp only [Reg.Deps, Reg.at_, List.getD_cons_zero, List.getD_cons_succ, Region.binds, true_implies, Is, and_true] at hd
                   go_simp
                   first
                     | exact hK _ _ hC0 (Keeps.refl _ _) rfl
                     | skip)
            · exact hK _ _ (hC0.alloc _) ((Keeps.refl _ _).alloc _) ⟨w'.heap.size, rfl, heap_alloc_new _ _, by simp, hC0.size⟩
            · obtain ⟨x9, hx, hxb, _⟩ := hd
              rw [hx]
              refine (crc_two (HT3.out w' hC0) hxb HH1L.out.symm HBL.out.symm (HH1.out w' hC0) (HBD.out w' hC0) (by rw [HH1L.out]; first | (unfold maxLen; omega) | decide | exact Nat.le_of_ble_eq_true rfl) (by rw [HBL.out]; unfold maxLen; omega)).mono ?_
              rintro e w'' ⟨rfl, rfl⟩
              rw [← HCC.out]
              exact ⟨_, rfl, hK _ _ hC0 (Keeps.refl _ _) rfl⟩
            · refine (HNM5.out w' hC0).mono ?_
              rintro e w'' ⟨rfl, rfl⟩
              exact ⟨_, rfl, hK _ _ hC0 (Keeps.refl _ _) rfl⟩
            · refine (need_yes w').mono ?_
              rintro e w'' ⟨rfl, rfl⟩
              exact ⟨_, rfl, hK _ _ hC0 (Keeps.refl _ _) rfl⟩
          case hend =>
            intro vs w4 hC hall
            have HK4 := Lib.hid hC
            have HSP4 := Lib.hid (HSPL.out w4 hC)
            clear hall hC
            go_wp2_with fail
            refine HSP4.out.mono ?_
            intro e w5 hq
            obtain ⟨fv, hfv⟩ | hpn : (∃ fv, e = .returned fv) ∨ e = .panicked stopped := by
              unfold SplitP at hq
              split at hq
              · obtain ⟨v, hv, _⟩ := hq; exact .inl ⟨v, hv⟩
              · exact .inr hq.1
            · subst hfv
              have HFP := Lib.hid (frameP_some (w := w) (h := h) (rp := rp) (nx := nx) (en := en) HRS.out hq (by have := HK4.out.size; omega) (show RdrAt w4 rp h.p (nx + (1 + j2)) en _ from by have := HR3.out.keep HK4.out (by simp); rwa [Nat.add_assoc] at this) (HK3.out.trans HK4.out (by simp)))
              clear hq
              go_wp2_with fail
              go_ret
              exact HFP.out
            · subst hpn
              have HFP := Lib.hid (frameP_some (w := w) (h := h) (rp := rp) (nx := nx) (en := en) HRS.out hq (by have := HK4.out.size; omega) (show RdrAt w4 rp h.p (nx + (1 + j2)) en _ from by have := HR3.out.keep HK4.out (by simp); rwa [Nat.add_assoc] at this) (HK3.out.trans HK4.out (by simp)))
              clear hq
              go_wp2
              exact ⟨rfl, HFP.out⟩
        · have hcb : (((cc : Nat) : Int) == ((ce : Nat) : Int)) = false := by rw [beq_eq_false_iff_ne]; omega
          have HRS := Lib.hid (HRX.out hcm2)
          clear hcm2
          go_wp2_with fail
          refine RegP.wp_region_last (fun c w' => c = stopped ∧ Keeps [] w3 w') 9 [0, 1, 2, 3, 4, 5, 6, 7, 8] (fun w' => Keeps [] w3 w') (fun _ => False) (Keeps []) (A := ?A9)
            [Is (.slice (some ⟨g, off, none⟩) 9 cap), Is (.slice (some ⟨g, off + 1, none⟩) 4 (cap - 1)), Is (.slice (some ⟨g3, off3, none⟩) n cap3), NewRow [] w3.heap.size 34 #[.slice (some ⟨g, off + 1, none⟩) 4 (cap - 1), .slice (some ⟨g3, off3, none⟩) n cap3],
              Is (.int .u32 (cc : Int)), Is (.slice (some ⟨g, off, none⟩) 9 cap), Is (.slice (some ⟨g, off + 5, none⟩) 4 (cap - 5)), Is (.int .u32 (ce : Int)), Is (.bool false), Is (.tuple #[])]
            ?hQ9 (by kernel_rfl) (by kernel_rfl) (by kernel_rfl) rfl ?hA9 ?hC9 ?ho9 ?hlast9 ?hend9
          case hQ9 =>
            intro b c w' hb hq
            exact ⟨hb, by rw [hq.1]; exact frameP_none HRS.out (HK3.out.trans hq.2 (by simp))⟩
          case hA9 => intro vs; simp only [Reg.fill, if_true, Nat.zero_add, Nat.reduceAdd, Act.put, List.setIfInBounds_toArray, List.set_cons_succ, List.set_cons_zero]; exact rfl
          case hC9 => exact (Keeps.refl _ _).drew
          case hlast9 => repeat (first | exact trivial | refine ⟨Is.keep0, ?_⟩ | refine ⟨NewRow.keep, ?_⟩)
          case ho9 =>
            repeat' apply And.intro
            all_goals
              first
                | exact trivial
                | (intro b vs w' hC hb hd K hK
                   have hbb : b = false := by apply hb; decide
                   subst hbb
                   have hC0 := hC.1 rfl
                   try simp only [Reg.Deps, Reg.at_, List.getD_cons_zero, List.getD_cons_succ, Region.binds, true_implies, Is, and_true] at hd
                   simp only [Reg.wantedV, if_true]
                   go_simp
                   simp only [RegP.gives_value, RegP.gives_skip, RegP.gives_enter]
                   first
                     | exact hK _ _ (CB.pre hC0 rfl) (Keeps.refl _ _) rfl
                     | skip)
            · exact hK _ _ (CB.pre (hC0.alloc _) rfl) ((Keeps.refl _ _).alloc _) ⟨w'.heap.size, rfl, heap_alloc_new _ _, by simp, hC0.size⟩
            · obtain ⟨x9, hx, hxb, _⟩ := hd
              rw [hx]
              refine (crc_two (HT3.out w' hC0) hxb HH1L.out.symm HBL.out.symm (HH1.out w' hC0) (HBD.out w' hC0) (by rw [HH1L.out]; first | (unfold maxLen; omega) | decide | exact Nat.le_of_ble_eq_true rfl) (by rw [HBL.out]; unfold maxLen; omega)).mono ?_
              rintro e w'' ⟨rfl, rfl⟩
              rw [← HCC.out]
              exact .inl ⟨_, rfl, hK _ _ (CB.pre hC0 rfl) (Keeps.refl _ _) rfl⟩
            · refine (HNM5.out w' hC0).mono ?_
              rintro e w'' ⟨rfl, rfl⟩
              exact .inl ⟨_, rfl, hK _ _ (CB.pre hC0 rfl) (Keeps.refl _ _) rfl⟩
            · refine (need_no w').mono ?_
              rintro e w'' ⟨rfl, rfl⟩
              exact .inr ⟨_, rfl, rfl, hC0⟩
          case hend9 => intro vs w' hC; exact hC.elim
      · have HNO := Lib.hid (take_no w2 h B d rp (nx + 1) en n _ cap' (d.size - 9) HX2.out (by have := HR2.out; rwa [HLL.out] at this) h1en hN (by omega) (by omega) (by omega))
        have HRN := Lib.hid (show R = none by
          rw [HR.out]
          refine L.readF_long ?_
          rw [← HN.out, HSL.out]
          have : (en - nx) * d.size = (en - (nx + 1)) * d.size + d.size := by rw [show en - nx = en - (nx + 1) + 1 by omega, Nat.add_mul]; omega
          omega)
        go_wp2_with fail
        refine (need_yes w2).mono ?_
        rintro e w' ⟨rfl, rfl⟩
        go_wp2_with fail
        refine HNUM.out.mono ?_
        rintro e w' ⟨rfl, rfl⟩
        go_wp2_with fail
        refine HNO.out.mono ?_
        rintro e w3 ⟨rfl, hk3⟩
        have HK3 := Lib.hid (HK2.out.trans hk3 (by simp))
        clear hk3
        go_wp2
        exact ⟨rfl, frameP_none HRN.out HK3.out⟩
    · have hm1 : (((b0.toNat : Nat) : Int) == 1) = false := by
        rw [beq_eq_false_iff_ne]
        intro h
        refine hm (UInt8.toNat_inj.1 ?_)
        have : (1 : UInt8).toNat = 1 := rfl
        omega
      have HRN := Lib.hid (show R = none by rw [HR.out]; exact L.readF_unmarked (by rw [← HB0.out]; exact hm))
      clear hm
      go_wp2_with fail
      refine (need_no w2).mono ?_
      rintro e w' ⟨rfl, rfl⟩
      go_wp2
      exact ⟨rfl, frameP_none HRN.out HK2.out⟩
end Go.Proofs.YtgjgnieobbhepaaDoor
