/- perform: a step's sectors are written, and made durable. -/
import Derived.Test.YtgjgnieobbhepaaDoorWMake
namespace Go.Proofs.YtgjgnieobbhepaaDoor
open Go.RowKit
open Reg (Is Fact)

attribute [local go_sem] Reg.lateFr Reg.wantedV Reg.gives_value Reg.gives_skip Reg.gives_enter
/-- The disk became d'; of what was there only its own blocks may have turned. -/
def DskGo (w : World) (h : DH) (B : Nat → Prop) (w' : World) (d' : Dk) : Prop := Keeps h.l w w' ∧ ∃ B', DskAt w' h B' d' ∧ (∀ x, B x → B' x) ∧ (∀ x, B' x → B x ∨ w.heap.size ≤ x)
theorem DskGo.same {w w' : World} {h : DH} {B : Nat → Prop} {d : Dk} (x : DskAt w' h B d) (hk : Keeps h.l w w') : DskGo w h B w' d := ⟨hk, B, x, fun _ h => h, fun _ h => .inl h⟩
theorem DskGo.later {w w1 w2 : World} {h : DH} {B B1 : Nat → Prop} {d2 : Dk} (hk : Keeps h.l w w1) (h1 : ∀ x, B x → B1 x) (h2 : ∀ x, B1 x → B x ∨ w.heap.size ≤ x) (y : DskGo w1 h B1 w2 d2) : DskGo w h B w2 d2 := by
  obtain ⟨k, B2, z, z1, z2⟩ := y
  refine ⟨hk.trans k (fun _ h _ => h), B2, z, fun x hx => z1 x (h1 x hx), fun x hx => ?_⟩
  rcases z2 x hx with e | e
  · exact h2 x e
  · right; have := hk.size; omega
theorem DskGo.then0 {w w1 w2 : World} {h : DH} {B : Nat → Prop} {d : Dk} (y : DskGo w h B w1 d) (hk : Keeps [] w1 w2) : DskGo w h B w2 d := by
  obtain ⟨k, B2, z, z1, z2⟩ := y
  exact ⟨k.trans hk (by simp), B2, z.keep0 hk, z1, z2⟩
theorem DskGo.first0 {w w1 w2 : World} {h : DH} {B : Nat → Prop} {d : Dk} (hk : Keeps [] w w1) (y : DskGo w1 h B w2 d) : DskGo w h B w2 d :=
  DskGo.later (hk.mono (by simp)) (fun _ h => h) (fun _ h => .inl h) y
def PerformP (w : World) (h : DH) (B : Nat → Prop) (p : Nat × Dk) (e : Ending) (w' : World) : Prop := e = .returned (.int .i64 (p.1 : Int)) ∧ DskGo w h B w' p.2
theorem wr_size {d : Dk} (hok : d.Ok) {a : Nat} {b : List UInt8} : ∀ i, (L.wr d a b i).2.Ok ∧ (L.wr d a b i).2.size = d.size
  | 0 => ⟨hok, rfl⟩
  | i + 1 => by
    have ih := wr_size hok (a := a) (b := b) i
    rw [L.wr]
    split
    · exact ih
    · refine ⟨Dk.ok_write ih.1 _ _, ?_⟩
      obtain ⟨s1, _⟩ := Dk.drawn_same (L.wr d a b i).2
      show (Dk.write _ _ _).size = _
      unfold Dk.write
      repeat' split
      all_goals first | exact ih.2 | exact s1.trans ih.2
set_option maxRecDepth 100000 in
set_option maxHeartbeats 2000000 in
theorem perform_any (w : World) (h : DH) (B : Nat → Prop) (d : Dk) (lp : Nat) (g : Lg) (x : DskAt w h B d) (y : LogAt w lp h.p g) (at_ gb cap : Nat) (A : Option Addr) (b : List UInt8) (hat : at_ ≤ 65536) (hb : BytesIn w gb A b) (hbl : b.length ≤ 17179869184) (hcap : b.length ≤ cap) (hcm : cap ≤ maxLen) (hgb : gb ∉ h.l) :
    Calls Tryd.prog 54 #[.pointer (some ⟨lp, 0, none⟩), .agg #[.int .i64 (at_ : Int), .slice A b.length cap]] w (PerformP w h B (L.perform d at_ b)) := by
  obtain ⟨c0, _⟩ := y.cells
  have hsz := x.ok.size
  have hlt := x.lt
  have hll := y.lt
  have hne := y.ne x
  have hcm' := hcm
  unfold maxLen at hcm'
  obtain ⟨w0, hw0⟩ : ∃ w0, w0 = w.alloc (.cells #[.int .i64 (at_ : Int), .slice A b.length cap] 77) := ⟨_, rfl⟩
  have hbox : w0.heap[w.heap.size]? = some (.cells #[.int .i64 (at_ : Int), .slice A b.length cap] 77 (0, 0)) := by rw [hw0]; exact heap_alloc_new w _
  have hk0 : Keeps [] w w0 := by rw [hw0]; exact (Keeps.refl _ _).alloc _
  have hws : w.heap.size < w0.heap.size := block_lt hbox
  have HX := Lib.hid (x.keep0 hk0)
  have HXY := Lib.hid x
  have HB := Lib.hid hb
  have HBOX := Lib.hid hbox
  have HK0 := Lib.hid hk0
  have d0 := hk0.cell_some c0 (by simp)
  have e0 : w0.cell? ⟨w.heap.size, 0, none⟩ = some (.int .i64 (at_ : Int)) := row_cell hbox 0
  have e1 : w0.cell? ⟨w.heap.size, 1, none⟩ = some (.slice A b.length cap) := row_cell hbox 1
  have HW := Lib.hid (wr_size x.ok (a := at_) (b := b))
  obtain ⟨k, hkk⟩ : ∃ k, k = b.length / d.size := ⟨_, rfl⟩
  have hkb : k * d.size ≤ b.length := by rw [hkk]; exact Nat.div_mul_le_self _ _
  have ek : (b.length : Int) / (d.size : Int) = (k : Int) := by rw [hkk]; rfl
  have HKK := Lib.hid hkk
  have HGB := Lib.hid hgb
  have HNE := Lib.hid hne
  have hkl : k ≤ 17179869184 := by
    have : k * 1 ≤ k * d.size := Nat.mul_le_mul_left _ (by omega)
    omega
  clear x y hb hbox hk0 hkk hgb hne c0
  subst hw0
  go_enter Tryd.func54, Tryd.ntmps54
  go_wp2_with fail
  refine (size_any _ h B d HX.out).mono ?_
  rintro e w' ⟨rfl, rfl⟩
  go_wp2_with fail
  go_loopw [20] (fun iv wr => ∃ i : Nat, i ≤ k ∧ iv = .int .i64 i ∧ (L.wr d at_ b i).1 = 0 ∧ DskGo (w.alloc (.cells #[.int .i64 (at_ : Int), .slice A b.length cap] 77)) h B wr (L.wr d at_ b i).2) (fun iv _ => k - (RowKit.intOf iv).toNat)
  case atStart => exact ⟨0, Nat.zero_le _, rfl, rfl, DskGo.same HX.out (Keeps.refl _ _)⟩
  case round =>
    obtain ⟨i, hi, rfl, hw0, hgo⟩ := hrel
    have HGO := Lib.hid hgo
    obtain ⟨hkq, B1, x1, hb1, hb2⟩ := hgo
    have hn2 : w.heap.size ∉ h.l := by have := hlt; simp [DH.l]; omega
    have m0 := hkq.cell_some d0 HNE.out.2.2.2
    have n0 := hkq.cell_some e0 hn2
    have n1 := hkq.cell_some e1 hn2
    obtain ⟨D, hD⟩ : ∃ D, D = (L.wr d at_ b i).2 := ⟨_, rfl⟩
    have hDs := (HW.out i).2
    rw [← hD] at x1 hDs
    have HX1 := Lib.hid x1
    have HD := Lib.hid hD
    have HW0 := Lib.hid hw0
    have HNL := Lib.hid hn2
    have HB1 := Lib.hid hb1
    have HB2 := Lib.hid hb2
    have HKQ := Lib.hid hkq
    clear x1 hD hw0 hn2 hb1 hb2 hkq d0 e0 e1
    by_cases hik : i < k
    · have hb0 := HB.out
      obtain ⟨lo, hlo⟩ : ∃ lo, lo = i * d.size := ⟨_, rfl⟩
      obtain ⟨hi2, hhi⟩ : ∃ hi2, hi2 = (i + 1) * d.size := ⟨_, rfl⟩
      have h1 : hi2 = lo + d.size := by rw [hhi, hlo, Nat.add_mul]; omega
      have h2 : hi2 ≤ k * d.size := by rw [hhi]; exact Nat.mul_le_mul_right _ hik
      have HCH := Lib.hid (show (b.drop lo).take d.size = L.chunk b d.size i by rw [hlo]; rfl)
      have HCL := Lib.hid (show (L.chunk b d.size i).length = d.size from L.chunk_length (by rw [← hhi]; omega))
      have el : IntKind.i64.wrap ((i : Int) * (d.size : Int)) = (lo : Int) := by
        have : (i : Int) * (d.size : Int) = (lo : Int) := by rw [hlo]; push_cast; rfl
        rw [this]; exact IntWalk.i64_in _ ⟨by omega, by omega⟩
      have eh : IntKind.i64.wrap (((i : Int) + 1) * (d.size : Int)) = (hi2 : Int) := by
        have : ((i : Int) + 1) * (d.size : Int) = (hi2 : Int) := by rw [hhi]; push_cast; rfl
        rw [this]; exact IntWalk.i64_in _ ⟨by omega, by omega⟩
      have ei : IntKind.i64.wrap ((i : Int) + 1) = (i : Int) + 1 := IntWalk.i64_in _ ⟨by omega, by omega⟩
      have ea : IntKind.i64.wrap ((at_ : Int) + (i : Int)) = ((at_ + i : Nat) : Int) := by
        rw [show ((at_ + i : Nat) : Int) = (at_ : Int) + (i : Int) by push_cast; rfl]; exact IntWalk.i64_in _ ⟨by omega, by omega⟩
      rcases hb0 with hb0 | ⟨off, rfl, hcell⟩
      · subst hb0; simp at hkb; omega
      · have HCK := Lib.hid (show ∀ w', Keeps h.l wr w' → BytesIn w' gb (some ⟨gb, off + lo, none⟩) (L.chunk b d.size i) from fun w' hk => by
          have hb9 : BytesIn w' gb (some ⟨gb, off, none⟩) b := (HB.out.keep (((HK0.out.mono (T := h.l) (by simp)).trans HKQ.out (fun _ h _ => h)).trans hk (fun _ h _ => h)) HGB.out)
          have := (hb9.drop (cap := cap) lo (by omega)).take d.size
          rw [if_neg (by omega), HCH.out] at this
          simpa [Addr.add_lit] using this)
        have hlen : hi2 - lo = d.size := by omega
        have hcl : ¬ cap = lo := by omega
        have c5 : (lo : Int) ≤ (hi2 : Int) := by omega
        have c6 : (hi2 : Int) ≤ (cap : Int) := by omega
        have HIF := Lib.hid h1
        have HI2 := Lib.hid h2
        obtain ⟨er, her⟩ : ∃ er, er = D.writeErr ((at_ + i : Nat) : Int) (L.chunk b d.size i) := ⟨_, rfl⟩
        have HER := Lib.hid her
        clear hcell hlo hhi h1 her
        go_wp2_with fail
        refine Reg.wp_region_state (A := ?A) (CW 18 wr (fun w' => DskGo wr h B1 w' (D.write ((at_ + i : Nat) : Int) (L.chunk b d.size i)))) (Keeps h.l)
          [Is (.pointer (some ⟨lp, 0, none⟩)), Is (.pointer (some ⟨lp, 0, none⟩)), Is (.pointer (some ⟨lp, 0, none⟩)), Is (.pointer (some ⟨h.p, 0, none⟩)), Is (.pointer (some ⟨w.heap.size, 0, none⟩)), Is (.int .i64 (at_ : Int)), Is (.int .i64 (i : Int)), Is (.int .i64 ((at_ + i : Nat) : Int)),
           Is (.pointer (some ⟨w.heap.size, 1, none⟩)), Is (.slice (some ⟨gb, off, none⟩) b.length cap), Is (.int .i64 (i : Int)), Is (.int .i64 (d.size : Int)), Is (.int .i64 (lo : Int)), Is (.int .i64 (i : Int)), Is (.int .i64 ((i : Int) + 1)), Is (.int .i64 (d.size : Int)), Is (.int .i64 (hi2 : Int)),
           Is (.slice (some ⟨gb, off + lo, none⟩) d.size (cap - lo)), Is (.int .i64 (er : Int)), Is (.int .i64 (er : Int))]
          (by kernel_rfl) (by kernel_rfl) rfl ?hA ?hC ?ho ?hlast ?hend
        case hA => intro vs; simp only [Reg.fill, if_true, Nat.zero_add, Nat.reduceAdd, Act.put, List.setIfInBounds_toArray, List.set_cons_succ, List.set_cons_zero]; exact rfl
        case hC => exact CW.start (by decide)
        case hlast => repeat (first | exact trivial | refine ⟨Is.keepS, ?_⟩)
        case ho =>
          repeat' apply And.intro
          all_goals
            first
              | exact trivial
              | (intro Ls vs w' hC hL hd K hK
                 try simp only [Reg.Deps, Reg.at_, List.getD_cons_zero, List.getD_cons_succ, Region.binds, true_implies, Is, and_true] at hd
                 have hkw : Keeps h.l wr w' := by
                   cases e9 : Ls 18 with
                   | false => exact (hC.1 e9).mono (by simp)
                   | true => exact (hC.2 e9).1
                 have q0 := hkw.cell_some m0 HNE.out.2.2.2
                 have q1 := hkw.cell_some n0 HNL.out
                 have q2 := hkw.cell_some n1 HNL.out
                 go_simp
                 first
                   | exact hK _ _ (hC.lay (by decide) (Keeps.refl _ _) (fun a b hp hk => hp.then0 hk)) (Keeps.refl _ _) rfl
                   | skip)
          · have hk0 := hC.1 hL
            have hbk := HCK.out w' (hk0.mono (by simp))
            have hw := write_any w' h B1 D (HX1.out.keep0 hk0) ((at_ + i : Nat) : Int) (some ⟨gb, off + lo, none⟩) gb (cap - lo) (L.chunk b d.size i) hbk (by rw [HCL.out]; omega)
            rw [HCL.out] at hw
            refine hw.mono ?_
            rintro e w'' ⟨rfl, hk2, B2, x2, p1, p2⟩
            refine ⟨_, rfl, hK _ _ (CW.done (DskGo.first0 hk0 ⟨hk2, B2, x2, p1, p2⟩)) hk2 ?_⟩
            rw [HER.out]
            rfl
        case hend =>
          intro vs w3 hC hall
          have hgo3 := hC.2 rfl
          have HGO3 := Lib.hid (show DskGo (w.alloc (.cells #[.int .i64 (at_ : Int), .slice (some ⟨gb, off, none⟩) b.length cap] 77)) h B w3 (L.wr d at_ b (i + 1)).2 by
            rw [L.wr_next HW0.out]
            simp only []
            rw [← HD.out]
            exact DskGo.later HKQ.out HB1.out HB2.out hgo3)
          have HN1 := Lib.hid (show (L.wr d at_ b (i + 1)).1 = er by rw [L.wr_next HW0.out]; simp only []; rw [← HD.out, HER.out])
          have hv19 : vs 19 = .int .i64 (er : Int) := by
            simp only [Reg.All, Is, and_true, Nat.zero_add, Nat.reduceAdd] at hall
            simp only [hall]
          clear hC hall hgo3
          by_cases h0 : er = 0
          · have hz : ((er : Int) != 0) = false := by rw [h0]; rfl
            have HZ := Lib.hid h0
            clear h0
            go_wp2_with fail
            go_roundw
            case rel => exact ⟨i + 1, by omega, by go_num, by rw [HN1.out, HZ.out], HGO3.out⟩
            case measure => simp [RowKit.intOf]; omega
          · have hz : ((er : Int) != 0) = true := by rw [bne_iff_ne]; omega
            have HP := Lib.hid (show L.perform d at_ b = L.wr d at_ b (i + 1) from L.perform_stuck (by rw [HN1.out]; exact h0) (by rw [← HKK.out]; omega))
            clear h0
            go_wp2_with fail
            go_ret
            refine ⟨?_, DskGo.first0 HK0.out (by rw [HP.out]; exact HGO3.out)⟩
            rw [HP.out, HN1.out]
            exact congrArg Ending.returned hv19
    · have hike : i = k := by omega
      have HP := Lib.hid (show L.perform d at_ b = (D.flushErr, D.flush) by rw [L.perform_full (by rw [← HKK.out, ← hike]; exact HW0.out), ← HKK.out, ← hike, ← HD.out])
      clear hike
      go_wp2_with fail
      refine (flush_any wr h B1 D HX1.out).mono ?_
      rintro e w2 ⟨rfl, x2, hk2⟩
      have HGO2 := Lib.hid (show DskGo w h B w2 D.flush from DskGo.first0 HK0.out (DskGo.later HKQ.out HB1.out HB2.out (DskGo.same x2 hk2)))
      clear x2 hk2
      go_wp2_with fail
      go_ret
      refine ⟨?_, by rw [HP.out]; exact HGO2.out⟩
      rw [HP.out]; rfl
end Go.Proofs.YtgjgnieobbhepaaDoor
