import Derived.Test.YtbikifibfaaggaaGreatDoorVMR
import Derived.StillTailTactics
import Derived.Test.YtbikifibfaaggaaGreatDoorVML
namespace Go.Proofs.YtbikifibfaaggaaGreatDoor
section
set_option maxHeartbeats 4000000
set_option maxRecDepth 100000
open Go.RowKit Go.Shelf
open Lx (Tok Tx)
open Px (Ex Cn)
namespace St
def rank : St → Nat | .live ts _ _ => 1 + ts.length | .dead .. => 0
theorem lift_cases {α : Type} (n : Nat) (g : List Tok → Nat → Nat → Px.R α) (ts : List Tok) (o k : Nat) :
 (∃ a r, g ts o k = .ok a r ∧ (St.live ts o k).lift n kI g = (some a, .live r o k)) ∨ (∃ z r, g ts o k = .err z r ∧ (St.live ts o k).lift n kI g = (none, .dead z (Px.place n r) o)) := by
 cases h : g ts o k with
 | ok a r => exact .inl ⟨a, r, rfl, by simp only [St.lift, h]; rfl⟩
 | err z r => exact .inr ⟨z, r, rfl, by simp only [St.lift, h]⟩
end St
def qrank (w : World) (b : Nat) : Nat := match w.cell? ⟨b, 3, none⟩, w.cell? ⟨b, 0, none⟩, w.cell? ⟨b, 1, none⟩ with | some (.int _ z), some (.slice _ L _), some (.int _ i) => if z = 0 then 1 + (L - i.toNat) else 0 | _, _, _ => 0
theorem SA.rank {w : World} {b n : Nat} {σ : St} (h : SA w b n σ) : qrank w b = σ.rank := by
 cases σ with
 | live ts o k =>
  have c3 : w.cell? ⟨b, 3, none⟩ = some (.int .i64 ((0 : Nat) : Int)) := h.flag
  unfold qrank
  rw [c3]
  obtain ⟨A, cap, g, all, i, h1, h2, rfl, h4, _⟩ := h
  have c0 := row_cell h1 0
  have c1 := row_cell h1 1
  simp only [List.getElem?_toArray, List.getElem?_cons_zero, List.getElem?_cons_succ] at c0 c1
  rw [c0, c1]
  simp [St.rank]
 | dead z p o =>
  have c3 : w.cell? ⟨b, 3, none⟩ = some (.int .i64 (z : Int)) := h.flag
  have hz := h.1
  unfold qrank
  rw [c3]
  obtain ⟨_, _, A, L, cap, i, k, h1⟩ := h
  have c0 := row_cell h1 0
  have c1 := row_cell h1 1
  simp only [List.getElem?_toArray, List.getElem?_cons_zero, List.getElem?_cons_succ] at c0 c1
  rw [c0, c1]
  have : ¬ (z : Int) = 0 := by omega
  exact if_neg this
abbrev eprodL (g : Nat) (x : Ex) : List Tok → Nat → Nat → Px.R Ex := fun ts o _ => Px.prodL g o x ts
abbrev esumL (g : Nat) (x : Ex) : List Tok → Nat → Nat → Px.R Ex := fun ts o _ => Px.sumL g o x ts
def LoopE (F : Nat → Ex → List Tok → Nat → Nat → Px.R Ex) (f c n b lo o k : Nat) (R : Option Ex × St) (w : World) (v : Value) (wr : World) : Prop :=
 IsPtr v ∧ Keeps [b] w wr ∧ ∃ σ, SA wr b n σ ∧ ((∃ g x l, g ≤ f ∧ 4 * l.length + c ≤ g ∧ σ = .live l o k ∧ ExAt wr lo x v ∧ R = σ.lift n kI (F g x)) ∨ (∃ z p, σ = .dead z p o ∧ R = (none, σ)))
theorem prodL_none {n g o k : Nat} {x : Ex} {l : List Tok} (h : Px.mulOp l = none) : (St.live l o k).lift n kI (eprodL (g + 1) x) = (some x, .live l o k) := by
 have hu : Px.prodL (g + 1) o x l = .ok x l := by rw [Px.prodL]; simp only [h]
 simp only [St.lift, eprodL, hu, kI]
theorem prodL_ok {n g o k K : Nat} {x y : Ex} {l r : List Tok} (h : Px.mulOp l = some K) (hu : Px.un g o l.tail = .ok y r) : (St.live l o k).lift n kI (eprodL (g + 1) x) = (St.live r o k).lift n kI (eprodL g (.bin K x y)) := by
 have hu : Px.prodL (g + 1) o x l = Px.prodL g o (.bin K x y) r := by rw [Px.prodL]; simp only [h, hu]
 simp only [St.lift, eprodL, hu]
theorem prodL_err {n g o k K z : Nat} {x : Ex} {l r : List Tok} (h : Px.mulOp l = some K) (hu : Px.un g o l.tail = .err z r) : (St.live l o k).lift n kI (eprodL (g + 1) x) = (none, .dead z (Px.place n r) o) := by
 have hu : Px.prodL (g + 1) o x l = .err z r := by rw [Px.prodL]; simp only [h, hu]
 simp only [St.lift, eprodL, hu]
theorem sumL_none {n g o k : Nat} {x : Ex} {l : List Tok} (h : Px.addOp l = none) : (St.live l o k).lift n kI (esumL (g + 1) x) = (some x, .live l o k) := by
 have hu : Px.sumL (g + 1) o x l = .ok x l := by rw [Px.sumL]; simp only [h]
 simp only [St.lift, esumL, hu, kI]
theorem sumL_ok {n g o k K : Nat} {x y : Ex} {l r : List Tok} (h : Px.addOp l = some K) (hu : Px.prod g o l.tail = .ok y r) : (St.live l o k).lift n kI (esumL (g + 1) x) = (St.live r o k).lift n kI (esumL g (.bin K x y)) := by
 have hu : Px.sumL (g + 1) o x l = Px.sumL g o (.bin K x y) r := by rw [Px.sumL]; simp only [h, hu]
 simp only [St.lift, esumL, hu]
theorem sumL_err {n g o k K z : Nat} {x : Ex} {l r : List Tok} (h : Px.addOp l = some K) (hu : Px.prod g o l.tail = .err z r) : (St.live l o k).lift n kI (esumL (g + 1) x) = (none, .dead z (Px.place n r) o) := by
 have hu : Px.sumL (g + 1) o x l = .err z r := by rw [Px.sumL]; simp only [h, hu]
 simp only [St.lift, esumL, hu]
theorem prod_ok {n f o k : Nat} {x : Ex} {ts r : List Tok} (h : Px.un f o ts = .ok x r) : (St.live ts o k).lift n kI (eprod (f + 1)) = (St.live r o k).lift n kI (eprodL f x) := by
 have hu : Px.prod (f + 1) o ts = Px.prodL f o x r := by rw [Px.prod]; simp only [h]
 simp only [St.lift, eprod, eprodL, hu]
theorem prod_err {n f o k z : Nat} {ts r : List Tok} (h : Px.un f o ts = .err z r) : (St.live ts o k).lift n kI (eprod (f + 1)) = (none, .dead z (Px.place n r) o) := by
 have hu : Px.prod (f + 1) o ts = .err z r := by rw [Px.prod]; simp only [h]
 simp only [St.lift, eprod, hu]
theorem sum_ok {n f o k : Nat} {x : Ex} {ts r : List Tok} (h : Px.prod f o ts = .ok x r) : (St.live ts o k).lift n kI (esum (f + 1)) = (St.live r o k).lift n kI (esumL f x) := by
 have hu : Px.sum (f + 1) o ts = Px.sumL f o x r := by rw [Px.sum]; simp only [h]
 simp only [St.lift, esum, esumL, hu]
theorem sum_err {n f o k z : Nat} {ts r : List Tok} (h : Px.prod f o ts = .err z r) : (St.live ts o k).lift n kI (esum (f + 1)) = (none, .dead z (Px.place n r) o) := by
 have hu : Px.sum (f + 1) o ts = .err z r := by rw [Px.sum]; simp only [h]
 simp only [St.lift, esum, hu]
theorem sees_tail {l : List Tok} {c : UInt8} (h : Px.sees l [c] = true) : l.tail.length + 1 = l.length := by
 obtain ⟨t, r, rfl, _⟩ := sees_cons (by simp) h
 simp
theorem loopE_start {F : Nat → Ex → List Tok → Nat → Nat → Px.R Ex} {G : List Tok → Nat → Nat → Px.R Ex} {T : List Tok → Nat → Nat → Px.R Ex} {f c n b lo o k : Nat} {ts : List Tok} {w wr : World} {v : Value}
 (hok : ∀ x r, G ts o k = .ok x r → (St.live ts o k).lift n kI T = (St.live r o k).lift n kI (F f x) ∧ 4 * r.length + c ≤ f) (herr : ∀ z r, G ts o k = .err z r → (St.live ts o k).lift n kI T = (none, .dead z (Px.place n r) o))
 (hv : IsPtr v) (hk : Keeps [b] w wr) (hs : SA wr b n ((St.live ts o k).lift n kI G).2) (ha : ∀ a, ((St.live ts o k).lift n kI G).1 = some a → ExAt wr lo a v) : LoopE F f c n b lo o k ((St.live ts o k).lift n kI T) w v wr := by
 refine ⟨hv, hk, _, hs, ?_⟩
 rcases St.lift_cases n G ts o k with ⟨a, r, h1, h2⟩ | ⟨z, r, h1, h2⟩
 ·
  rw [h2] at ha ⊢
  exact .inl ⟨f, a, r, Nat.le_refl _, (hok a r h1).2, rfl, ha a rfl, (hok a r h1).1⟩
 ·
  rw [h2]
  exact .inr ⟨z, _, rfl, herr z r h1⟩
theorem loopE_next {FL : Nat → Ex → List Tok → Nat → Nat → Px.R Ex} {G : List Tok → Nat → Nat → Px.R Ex} {op : List Tok → Option Nat} {f g c n b lo o k K : Nat} {x : Ex} {l : List Tok} {R : Option Ex × St} {w wr : World} {q q2 : Option Addr}
 (hop : op l = some K) (hR : R = (St.live l o k).lift n kI (FL (g + 1) x)) (hg : g + 1 ≤ f) (hgl : 4 * l.tail.length + 4 + c ≤ g + 1)
 (hok : ∀ y r, G l.tail o k = .ok y r → (St.live l o k).lift n kI (FL (g + 1) x) = (St.live r o k).lift n kI (FL g (.bin K x y))) (herr : ∀ z r, G l.tail o k = .err z r → (St.live l o k).lift n kI (FL (g + 1) x) = (none, .dead z (Px.place n r) o))
 (hlen : ∀ y r, G l.tail o k = .ok y r → r.length < l.tail.length)
 (hk : Keeps [b] w wr) (hs : SA wr b n ((St.live l.tail o k).lift n kI G).2) (ha : ∀ a, ((St.live l.tail o k).lift n kI G).1 = some a → ExAt wr lo a (.pointer q2)) (hx : ExAt wr lo x (.pointer q)) (hlo : lo < wr.heap.size) :
 LoopE FL f c n b lo o k R w (.pointer (some ⟨wr.heap.size, 0, none⟩)) (wr.alloc (.cells #[.int .i64 (K : Int), .int .i64 0, .string .empty, .pointer q, .pointer q2] 74)) := by
 refine ⟨⟨_, rfl⟩, hk.alloc _, _, hs.keep ((Keeps.refl _ _).alloc _), ?_⟩
 rcases St.lift_cases n G l.tail o k with ⟨a, r, h1, h2⟩ | ⟨z, r, h1, h2⟩
 ·
  rw [h2] at ha ⊢
  have := hlen a r h1
  exact .inl ⟨g, .bin K x a, r, by omega, by omega, rfl, ⟨_, _, _, rfl, hlo, heap_alloc_new _ _, hx.alloc _, (ha a rfl).alloc _⟩, hR.trans (hok a r h1)⟩
 ·
  rw [h2]
  exact .inr ⟨z, _, rfl, hR.trans (herr z r h1)⟩
theorem qprod_live (f : Nat) (w : World) (b n : Nat) (ts : List Tok) (o k lo : Nat) (h : SA w b n (.live ts o k)) (ho2 : o ≤ 1000) (hf : 4 * ts.length + 2 ≤ f + 1) (hb : b ≤ lo) (hlo : lo < w.heap.size) (hE : ∀ g, g ≤ f → QE g) :
 Calls Tryz.prog 152 #[pp b] w (QS ExAt IsPtr lo w b n ((St.live ts o k).lift n kI (eprod (f + 1)))) := by
 have HU := Hd ((hE f (Nat.le_refl _)).un w b n (.live ts o k) lo h ⟨ho2, by omega⟩ hb hlo)
 have HST := Hd (fun (wr : World) (v : Value) => loopE_start (F := eprodL) (G := eun f) (T := eprod (f + 1)) (f := f) (c := 2) (n := n) (b := b) (lo := lo) (o := o) (k := k) (ts := ts) (w := w) (wr := wr) (v := v) (fun x r h => ⟨prod_ok h, by have := (Px.ex_len _).1 _ _ _ _ h; omega⟩) (fun z r h => prod_err h))
 obtain ⟨R, hR0⟩ : ∃ R, R = (St.live ts o k).lift n kI (eprod (f + 1)) := ⟨_, rfl⟩
 rw [← hR0] at HST ⊢
 clear h hR0 hf
 go_enter Tryz.func152, Tryz.ntmps152
 go_wp2_with fail
 refine (HU.out).mono ?_
 rintro e w1 ⟨v, rfl, ⟨q, rfl⟩, hk, hs, ha⟩
 have HST := Hd (HST.out w1 _ ⟨q, rfl⟩ hk hs ha)
 clear hk hs ha HU
 go_wp2_with fail
 go_loopw [3] (fun ev wr => LoopE eprodL f 2 n b lo o k R w ev wr) (fun _ wr => qrank wr b)
 case atStart => exact HST.out
 case round =>
  obtain ⟨hv, hk, σ, hs, hc⟩ := hrel
  have c3 := hs.flag
  rcases hc with ⟨g, x, l, hg, hgl, rfl, hx, hR⟩ | ⟨z, p, rfl, hR⟩
  ·
   simp only [St.err] at c3
   obtain ⟨q, rfl⟩ := hv
   have HS0 := Hd hs
   match g, hgl with
   | g + 1, hgl =>
   by_cases hs42 : Px.sees l [42] = true
   ·
    have hop : Px.mulOp l = some 4 := by unfold Px.mulOp; simp only [hs42]; simp
    have HI42 := Hd (fun w' (h : SA w' b n (.live l o k)) => qis_any w' b n _ h [42])
    have hse42 : (St.live l o k).sees [42] = true := hs42
    rw [hse42] at HI42
    have hll := sees_tail hs42
    have HX := Hd hx
    have HS := Hd hs
    have HK := Hd hk
    have HR := Hd hR
    have HOP := Hd hop
    have HLL := Hd hll
    have HU := Hd (fun w' (h' : SA w' b n (.live l.tail o k)) (hlo' : lo < w'.heap.size) => (hE g (by omega)).un w' b n (.live l.tail o k) lo h' ⟨ho2, by omega⟩ hb hlo')
    clear hx hs hk hR hop hll hs42 hse42
    go_wp2_with fail
    refine (HI42.out _ HS.out).mono ?_
    rintro e w42 ⟨rfl, hk⟩
    have HK := Hd (HK.out.trans (hk.mono (T := [b]) (by simp)) (fun _ h _ => h))
    have HX := Hd (HX.out.keep hk (by simp))
    have H42 := Hd (HS.out.keep hk)
    clear hk
    obtain ⟨t, r, rfl⟩ : ∃ t r, l = t :: r := by
     match l, HLL.out with
     | t :: r, _ => exact ⟨t, r, rfl⟩
    have hs2 := H42.out
    obtain ⟨g2, off2, L2, cap2, i2, d0, c1, hi, hL, e0, d1, e1, f1, hq⟩ := hs2.prev
    have HQ := Hd hq
    have HXK := Hd (HX.out.keep (S := [b]) ((Keeps.refl _ _).set1 1 (.int .i64 ((i2 : Int) + 1))) (by simp; omega))
    have HK := Hd (HK.out.set1 1 (.int .i64 ((i2 : Int) + 1)))
    clear hs2 hq d0 e0 d1 e1
    go_wp2_with fail
    refine (HU.out _ HQ.out (by have := HK.out.size; omega)).mono ?_
    rintro e w9 ⟨v, rfl, ⟨q2, rfl⟩, hk, hs, ha⟩
    have HK := zV HK hk
    have HX := Hd (HXK.out.keep hk (by simp; omega))
    have HS := Hd hs
    have HA := Hd ha
    clear hk hs ha c1 f1
    go_wp2_with fail
    go_roundw
    · exact loopE_next (FL := eprodL) (c := 2) (G := eun g) (K := 4) HOP.out HR.out hg (by simp only [List.length_cons, List.tail_cons] at hgl ⊢; omega) (fun y r h => prodL_ok HOP.out h) (fun z r h => prodL_err HOP.out h) (fun y r h => by have := (Px.ex_len _).1 _ _ _ _ h; exact this) HK.out HS.out HA.out HX.out (by have := HK.out.size; omega)
    ·
     rw [((HS.out).keep ((Keeps.refl _ _).alloc _)).rank, HS0.out.rank]
     rcases St.lift_cases n (eun g) r o k with ⟨a, r', h1, h2⟩ | ⟨z, r', h1, h2⟩
     ·
      rw [List.tail_cons, h2]
      have := (Px.ex_len _).1 _ _ _ _ h1
      simp [St.rank]; omega
     ·
      rw [List.tail_cons, h2]
      show 0 < 1 + (t :: r).length
      omega
   ·
    replace hs42 : Px.sees l [42] = false := by simpa using hs42
    by_cases hs47 : Px.sees l [47] = true
    ·
     have hop : Px.mulOp l = some 5 := by unfold Px.mulOp; simp only [hs42, hs47]; simp
     have HI42 := Hd (fun w' (h : SA w' b n (.live l o k)) => qis_any w' b n _ h [42])
     have hse42 : (St.live l o k).sees [42] = false := hs42
     rw [hse42] at HI42
     have HI47 := Hd (fun w' (h : SA w' b n (.live l o k)) => qis_any w' b n _ h [47])
     have hse47 : (St.live l o k).sees [47] = true := hs47
     rw [hse47] at HI47
     have hll := sees_tail hs47
     have HX := Hd hx
     have HS := Hd hs
     have HK := Hd hk
     have HR := Hd hR
     have HOP := Hd hop
     have HLL := Hd hll
     have HU := Hd (fun w' (h' : SA w' b n (.live l.tail o k)) (hlo' : lo < w'.heap.size) => (hE g (by omega)).un w' b n (.live l.tail o k) lo h' ⟨ho2, by omega⟩ hb hlo')
     clear hx hs hk hR hop hll hs42 hse42 hs47 hse47
     go_wp2_with fail
     refine (HI42.out _ HS.out).mono ?_
     rintro e w42 ⟨rfl, hk⟩
     have HK := Hd (HK.out.trans (hk.mono (T := [b]) (by simp)) (fun _ h _ => h))
     have HX := Hd (HX.out.keep hk (by simp))
     have H42 := Hd (HS.out.keep hk)
     clear hk
     go_wp2_with fail
     refine (HI47.out _ H42.out).mono ?_
     rintro e w47 ⟨rfl, hk⟩
     have HK := Hd (HK.out.trans (hk.mono (T := [b]) (by simp)) (fun _ h _ => h))
     have HX := Hd (HX.out.keep hk (by simp))
     have H47 := Hd (H42.out.keep hk)
     clear hk
     obtain ⟨t, r, rfl⟩ : ∃ t r, l = t :: r := by
      match l, HLL.out with
      | t :: r, _ => exact ⟨t, r, rfl⟩
     have hs2 := H47.out
     obtain ⟨g2, off2, L2, cap2, i2, d0, c1, hi, hL, e0, d1, e1, f1, hq⟩ := hs2.prev
     have HQ := Hd hq
     have HXK := Hd (HX.out.keep (S := [b]) ((Keeps.refl _ _).set1 1 (.int .i64 ((i2 : Int) + 1))) (by simp; omega))
     have HK := Hd (HK.out.set1 1 (.int .i64 ((i2 : Int) + 1)))
     clear hs2 hq d0 e0 d1 e1
     go_wp2_with fail
     refine (HU.out _ HQ.out (by have := HK.out.size; omega)).mono ?_
     rintro e w9 ⟨v, rfl, ⟨q2, rfl⟩, hk, hs, ha⟩
     have HK := zV HK hk
     have HX := Hd (HXK.out.keep hk (by simp; omega))
     have HS := Hd hs
     have HA := Hd ha
     clear hk hs ha c1 f1
     go_wp2_with fail
     go_roundw
     · exact loopE_next (FL := eprodL) (c := 2) (G := eun g) (K := 5) HOP.out HR.out hg (by simp only [List.length_cons, List.tail_cons] at hgl ⊢; omega) (fun y r h => prodL_ok HOP.out h) (fun z r h => prodL_err HOP.out h) (fun y r h => by have := (Px.ex_len _).1 _ _ _ _ h; exact this) HK.out HS.out HA.out HX.out (by have := HK.out.size; omega)
     ·
      rw [((HS.out).keep ((Keeps.refl _ _).alloc _)).rank, HS0.out.rank]
      rcases St.lift_cases n (eun g) r o k with ⟨a, r', h1, h2⟩ | ⟨z, r', h1, h2⟩
      ·
       rw [List.tail_cons, h2]
       have := (Px.ex_len _).1 _ _ _ _ h1
       simp [St.rank]; omega
      ·
       rw [List.tail_cons, h2]
       show 0 < 1 + (t :: r).length
       omega
    ·
     replace hs47 : Px.sees l [47] = false := by simpa using hs47
     by_cases hs37 : Px.sees l [37] = true
     ·
      have hop : Px.mulOp l = some 6 := by unfold Px.mulOp; simp only [hs42, hs47, hs37]; simp
      have HI42 := Hd (fun w' (h : SA w' b n (.live l o k)) => qis_any w' b n _ h [42])
      have hse42 : (St.live l o k).sees [42] = false := hs42
      rw [hse42] at HI42
      have HI47 := Hd (fun w' (h : SA w' b n (.live l o k)) => qis_any w' b n _ h [47])
      have hse47 : (St.live l o k).sees [47] = false := hs47
      rw [hse47] at HI47
      have HI37 := Hd (fun w' (h : SA w' b n (.live l o k)) => qis_any w' b n _ h [37])
      have hse37 : (St.live l o k).sees [37] = true := hs37
      rw [hse37] at HI37
      have hll := sees_tail hs37
      have HX := Hd hx
      have HS := Hd hs
      have HK := Hd hk
      have HR := Hd hR
      have HOP := Hd hop
      have HLL := Hd hll
      have HU := Hd (fun w' (h' : SA w' b n (.live l.tail o k)) (hlo' : lo < w'.heap.size) => (hE g (by omega)).un w' b n (.live l.tail o k) lo h' ⟨ho2, by omega⟩ hb hlo')
      clear hx hs hk hR hop hll hs42 hse42 hs47 hse47 hs37 hse37
      go_wp2_with fail
      refine (HI42.out _ HS.out).mono ?_
      rintro e w42 ⟨rfl, hk⟩
      have HK := Hd (HK.out.trans (hk.mono (T := [b]) (by simp)) (fun _ h _ => h))
      have HX := Hd (HX.out.keep hk (by simp))
      have H42 := Hd (HS.out.keep hk)
      clear hk
      go_wp2_with fail
      refine (HI47.out _ H42.out).mono ?_
      rintro e w47 ⟨rfl, hk⟩
      have HK := Hd (HK.out.trans (hk.mono (T := [b]) (by simp)) (fun _ h _ => h))
      have HX := Hd (HX.out.keep hk (by simp))
      have H47 := Hd (H42.out.keep hk)
      clear hk
      go_wp2_with fail
      refine (HI37.out _ H47.out).mono ?_
      rintro e w37 ⟨rfl, hk⟩
      have HK := Hd (HK.out.trans (hk.mono (T := [b]) (by simp)) (fun _ h _ => h))
      have HX := Hd (HX.out.keep hk (by simp))
      have H37 := Hd (H47.out.keep hk)
      clear hk
      obtain ⟨t, r, rfl⟩ : ∃ t r, l = t :: r := by
       match l, HLL.out with
       | t :: r, _ => exact ⟨t, r, rfl⟩
      have hs2 := H37.out
      obtain ⟨g2, off2, L2, cap2, i2, d0, c1, hi, hL, e0, d1, e1, f1, hq⟩ := hs2.prev
      have HQ := Hd hq
      have HXK := Hd (HX.out.keep (S := [b]) ((Keeps.refl _ _).set1 1 (.int .i64 ((i2 : Int) + 1))) (by simp; omega))
      have HK := Hd (HK.out.set1 1 (.int .i64 ((i2 : Int) + 1)))
      clear hs2 hq d0 e0 d1 e1
      go_wp2_with fail
      refine (HU.out _ HQ.out (by have := HK.out.size; omega)).mono ?_
      rintro e w9 ⟨v, rfl, ⟨q2, rfl⟩, hk, hs, ha⟩
      have HK := zV HK hk
      have HX := Hd (HXK.out.keep hk (by simp; omega))
      have HS := Hd hs
      have HA := Hd ha
      clear hk hs ha c1 f1
      go_wp2_with fail
      go_roundw
      · exact loopE_next (FL := eprodL) (c := 2) (G := eun g) (K := 6) HOP.out HR.out hg (by simp only [List.length_cons, List.tail_cons] at hgl ⊢; omega) (fun y r h => prodL_ok HOP.out h) (fun z r h => prodL_err HOP.out h) (fun y r h => by have := (Px.ex_len _).1 _ _ _ _ h; exact this) HK.out HS.out HA.out HX.out (by have := HK.out.size; omega)
      ·
       rw [((HS.out).keep ((Keeps.refl _ _).alloc _)).rank, HS0.out.rank]
       rcases St.lift_cases n (eun g) r o k with ⟨a, r', h1, h2⟩ | ⟨z, r', h1, h2⟩
       ·
        rw [List.tail_cons, h2]
        have := (Px.ex_len _).1 _ _ _ _ h1
        simp [St.rank]; omega
       ·
        rw [List.tail_cons, h2]
        show 0 < 1 + (t :: r).length
        omega
     ·
      replace hs37 : Px.sees l [37] = false := by simpa using hs37
      have hop : Px.mulOp l = none := by unfold Px.mulOp; simp only [hs42, hs47, hs37]; simp
      have HI42 := Hd (fun w' (h : SA w' b n (.live l o k)) => qis_any w' b n _ h [42])
      have hse42 : (St.live l o k).sees [42] = false := hs42
      rw [hse42] at HI42
      have HI47 := Hd (fun w' (h : SA w' b n (.live l o k)) => qis_any w' b n _ h [47])
      have hse47 : (St.live l o k).sees [47] = false := hs47
      rw [hse47] at HI47
      have HI37 := Hd (fun w' (h : SA w' b n (.live l o k)) => qis_any w' b n _ h [37])
      have hse37 : (St.live l o k).sees [37] = false := hs37
      rw [hse37] at HI37
      have HX := Hd hx
      have HS := Hd hs
      have HK := Hd hk
      have HR := Hd (hR.trans (prodL_none hop))
      clear hx hs hk hR hop hs42 hse42 hs47 hse47 hs37 hse37
      go_wp2_with fail
      refine (HI42.out _ HS.out).mono ?_
      rintro e w42 ⟨rfl, hk⟩
      have HK := Hd (HK.out.trans (hk.mono (T := [b]) (by simp)) (fun _ h _ => h))
      have HX := Hd (HX.out.keep hk (by simp))
      have H42 := Hd (HS.out.keep hk)
      clear hk
      go_wp2_with fail
      refine (HI47.out _ H42.out).mono ?_
      rintro e w47 ⟨rfl, hk⟩
      have HK := Hd (HK.out.trans (hk.mono (T := [b]) (by simp)) (fun _ h _ => h))
      have HX := Hd (HX.out.keep hk (by simp))
      have H47 := Hd (H42.out.keep hk)
      clear hk
      go_wp2_with fail
      refine (HI37.out _ H47.out).mono ?_
      rintro e w37 ⟨rfl, hk⟩
      have HK := Hd (HK.out.trans (hk.mono (T := [b]) (by simp)) (fun _ h _ => h))
      have HX := Hd (HX.out.keep hk (by simp))
      have H37 := Hd (H47.out.keep hk)
      clear hk
      go_wp2
      go_ret
      exact ⟨.pointer q, rfl, ⟨_, rfl⟩, HK.out, by rw [HR.out]; exact H37.out, fun a h => by
       rw [HR.out] at h
       obtain rfl := Option.some.inj h
       exact HX.out⟩
  ·
   simp only [St.err] at c3
   obtain ⟨q, rfl⟩ := hv
   have hz : ((z : Int) == 0) = false := by have := hs.1; simp; omega
   have hz' : decide ((z : Int) = 0) = false := by have := hs.1; simp; omega
   have HS := Hd hs
   have HK := Hd hk
   clear hs hk
   go_wp2
   go_ret
   exact ⟨.pointer q, rfl, ⟨_, rfl⟩, HK.out, by rw [hR]; exact HS.out, fun a h => by rw [hR] at h; cases h⟩
theorem qsum_live (f : Nat) (w : World) (b n : Nat) (ts : List Tok) (o k lo : Nat) (h : SA w b n (.live ts o k)) (ho2 : o ≤ 1000) (hf : 4 * ts.length + 3 ≤ f + 1) (hb : b ≤ lo) (hlo : lo < w.heap.size) (hE : ∀ g, g ≤ f → QE g) :
 Calls Tryz.prog 115 #[pp b] w (QS ExAt IsPtr lo w b n ((St.live ts o k).lift n kI (esum (f + 1)))) := by
 have HU := Hd ((hE f (Nat.le_refl _)).prod w b n (.live ts o k) lo h ⟨ho2, by omega⟩ hb hlo)
 have HST := Hd (fun (wr : World) (v : Value) => loopE_start (F := esumL) (G := eprod f) (T := esum (f + 1)) (f := f) (c := 3) (n := n) (b := b) (lo := lo) (o := o) (k := k) (ts := ts) (w := w) (wr := wr) (v := v) (fun x r h => ⟨sum_ok h, by have := (Px.ex_len _).2.2.1 _ _ _ _ h; omega⟩) (fun z r h => sum_err h))
 obtain ⟨R, hR0⟩ : ∃ R, R = (St.live ts o k).lift n kI (esum (f + 1)) := ⟨_, rfl⟩
 rw [← hR0] at HST ⊢
 clear h hR0 hf
 go_enter Tryz.func115, Tryz.ntmps115
 go_wp2_with fail
 refine (HU.out).mono ?_
 rintro e w1 ⟨v, rfl, ⟨q, rfl⟩, hk, hs, ha⟩
 have HST := Hd (HST.out w1 _ ⟨q, rfl⟩ hk hs ha)
 clear hk hs ha HU
 go_wp2_with fail
 go_loopw [3] (fun ev wr => LoopE esumL f 3 n b lo o k R w ev wr) (fun _ wr => qrank wr b)
 case atStart => exact HST.out
 case round =>
  obtain ⟨hv, hk, σ, hs, hc⟩ := hrel
  have c3 := hs.flag
  rcases hc with ⟨g, x, l, hg, hgl, rfl, hx, hR⟩ | ⟨z, p, rfl, hR⟩
  ·
   simp only [St.err] at c3
   obtain ⟨q, rfl⟩ := hv
   have HS0 := Hd hs
   match g, hgl with
   | g + 1, hgl =>
   by_cases hs45 : Px.sees l [45] = true
   ·
    have hop : Px.addOp l = some 3 := by
     have h43 : Px.sees l [43] = false := by unfold Px.sees at hs45 ⊢; rw [eq_of_beq hs45]; rfl
     unfold Px.addOp; simp only [h43, hs45]; simp
    have HI45 := Hd (fun w' (h : SA w' b n (.live l o k)) => qis_any w' b n _ h [45])
    have hse45 : (St.live l o k).sees [45] = true := hs45
    rw [hse45] at HI45
    have hll := sees_tail hs45
    have HX := Hd hx
    have HS := Hd hs
    have HK := Hd hk
    have HR := Hd hR
    have HOP := Hd hop
    have HLL := Hd hll
    have HU := Hd (fun w' (h' : SA w' b n (.live l.tail o k)) (hlo' : lo < w'.heap.size) => (hE g (by omega)).prod w' b n (.live l.tail o k) lo h' ⟨ho2, by omega⟩ hb hlo')
    clear hx hs hk hR hop hll hs45 hse45
    go_wp2_with fail
    refine (HI45.out _ HS.out).mono ?_
    rintro e w45 ⟨rfl, hk⟩
    have HK := Hd (HK.out.trans (hk.mono (T := [b]) (by simp)) (fun _ h _ => h))
    have HX := Hd (HX.out.keep hk (by simp))
    have H45 := Hd (HS.out.keep hk)
    clear hk
    obtain ⟨t, r, rfl⟩ : ∃ t r, l = t :: r := by
     match l, HLL.out with
     | t :: r, _ => exact ⟨t, r, rfl⟩
    have hs2 := H45.out
    obtain ⟨g2, off2, L2, cap2, i2, d0, c1, hi, hL, e0, d1, e1, f1, hq⟩ := hs2.prev
    have HQ := Hd hq
    have HXK := Hd (HX.out.keep (S := [b]) ((Keeps.refl _ _).set1 1 (.int .i64 ((i2 : Int) + 1))) (by simp; omega))
    have HK := Hd (HK.out.set1 1 (.int .i64 ((i2 : Int) + 1)))
    clear hs2 hq d0 e0 d1 e1
    go_wp2_with fail
    refine (HU.out _ HQ.out (by have := HK.out.size; omega)).mono ?_
    rintro e w9 ⟨v, rfl, ⟨q2, rfl⟩, hk, hs, ha⟩
    have HK := zV HK hk
    have HX := Hd (HXK.out.keep hk (by simp; omega))
    have HS := Hd hs
    have HA := Hd ha
    clear hk hs ha c1 f1
    go_wp2_with fail
    go_roundw
    · exact loopE_next (FL := esumL) (c := 3) (G := eprod g) (K := 3) HOP.out HR.out hg (by simp only [List.length_cons, List.tail_cons] at hgl ⊢; omega) (fun y r h => sumL_ok HOP.out h) (fun z r h => sumL_err HOP.out h) (fun y r h => by have := (Px.ex_len _).2.2.1 _ _ _ _ h; exact this) HK.out HS.out HA.out HX.out (by have := HK.out.size; omega)
    ·
     rw [((HS.out).keep ((Keeps.refl _ _).alloc _)).rank, HS0.out.rank]
     rcases St.lift_cases n (eprod g) r o k with ⟨a, r', h1, h2⟩ | ⟨z, r', h1, h2⟩
     ·
      rw [List.tail_cons, h2]
      have := (Px.ex_len _).2.2.1 _ _ _ _ h1
      simp [St.rank]; omega
     ·
      rw [List.tail_cons, h2]
      show 0 < 1 + (t :: r).length
      omega
   ·
    replace hs45 : Px.sees l [45] = false := by simpa using hs45
    by_cases hs43 : Px.sees l [43] = true
    ·
     have hop : Px.addOp l = some 2 := by unfold Px.addOp; simp only [hs45, hs43]; simp
     have HI45 := Hd (fun w' (h : SA w' b n (.live l o k)) => qis_any w' b n _ h [45])
     have hse45 : (St.live l o k).sees [45] = false := hs45
     rw [hse45] at HI45
     have HI43 := Hd (fun w' (h : SA w' b n (.live l o k)) => qis_any w' b n _ h [43])
     have hse43 : (St.live l o k).sees [43] = true := hs43
     rw [hse43] at HI43
     have hll := sees_tail hs43
     have HX := Hd hx
     have HS := Hd hs
     have HK := Hd hk
     have HR := Hd hR
     have HOP := Hd hop
     have HLL := Hd hll
     have HU := Hd (fun w' (h' : SA w' b n (.live l.tail o k)) (hlo' : lo < w'.heap.size) => (hE g (by omega)).prod w' b n (.live l.tail o k) lo h' ⟨ho2, by omega⟩ hb hlo')
     clear hx hs hk hR hop hll hs45 hse45 hs43 hse43
     go_wp2_with fail
     refine (HI45.out _ HS.out).mono ?_
     rintro e w45 ⟨rfl, hk⟩
     have HK := Hd (HK.out.trans (hk.mono (T := [b]) (by simp)) (fun _ h _ => h))
     have HX := Hd (HX.out.keep hk (by simp))
     have H45 := Hd (HS.out.keep hk)
     clear hk
     go_wp2_with fail
     refine (HI43.out _ H45.out).mono ?_
     rintro e w43 ⟨rfl, hk⟩
     have HK := Hd (HK.out.trans (hk.mono (T := [b]) (by simp)) (fun _ h _ => h))
     have HX := Hd (HX.out.keep hk (by simp))
     have H43 := Hd (H45.out.keep hk)
     clear hk
     obtain ⟨t, r, rfl⟩ : ∃ t r, l = t :: r := by
      match l, HLL.out with
      | t :: r, _ => exact ⟨t, r, rfl⟩
     have hs2 := H43.out
     obtain ⟨g2, off2, L2, cap2, i2, d0, c1, hi, hL, e0, d1, e1, f1, hq⟩ := hs2.prev
     have HQ := Hd hq
     have HXK := Hd (HX.out.keep (S := [b]) ((Keeps.refl _ _).set1 1 (.int .i64 ((i2 : Int) + 1))) (by simp; omega))
     have HK := Hd (HK.out.set1 1 (.int .i64 ((i2 : Int) + 1)))
     clear hs2 hq d0 e0 d1 e1
     go_wp2_with fail
     refine (HU.out _ HQ.out (by have := HK.out.size; omega)).mono ?_
     rintro e w9 ⟨v, rfl, ⟨q2, rfl⟩, hk, hs, ha⟩
     have HK := zV HK hk
     have HX := Hd (HXK.out.keep hk (by simp; omega))
     have HS := Hd hs
     have HA := Hd ha
     clear hk hs ha c1 f1
     go_wp2_with fail
     go_roundw
     · exact loopE_next (FL := esumL) (c := 3) (G := eprod g) (K := 2) HOP.out HR.out hg (by simp only [List.length_cons, List.tail_cons] at hgl ⊢; omega) (fun y r h => sumL_ok HOP.out h) (fun z r h => sumL_err HOP.out h) (fun y r h => by have := (Px.ex_len _).2.2.1 _ _ _ _ h; exact this) HK.out HS.out HA.out HX.out (by have := HK.out.size; omega)
     ·
      rw [((HS.out).keep ((Keeps.refl _ _).alloc _)).rank, HS0.out.rank]
      rcases St.lift_cases n (eprod g) r o k with ⟨a, r', h1, h2⟩ | ⟨z, r', h1, h2⟩
      ·
       rw [List.tail_cons, h2]
       have := (Px.ex_len _).2.2.1 _ _ _ _ h1
       simp [St.rank]; omega
      ·
       rw [List.tail_cons, h2]
       show 0 < 1 + (t :: r).length
       omega
    ·
     replace hs43 : Px.sees l [43] = false := by simpa using hs43
     have hop : Px.addOp l = none := by unfold Px.addOp; simp only [hs45, hs43]; simp
     have HI45 := Hd (fun w' (h : SA w' b n (.live l o k)) => qis_any w' b n _ h [45])
     have hse45 : (St.live l o k).sees [45] = false := hs45
     rw [hse45] at HI45
     have HI43 := Hd (fun w' (h : SA w' b n (.live l o k)) => qis_any w' b n _ h [43])
     have hse43 : (St.live l o k).sees [43] = false := hs43
     rw [hse43] at HI43
     have HX := Hd hx
     have HS := Hd hs
     have HK := Hd hk
     have HR := Hd (hR.trans (sumL_none hop))
     clear hx hs hk hR hop hs45 hse45 hs43 hse43
     go_wp2_with fail
     refine (HI45.out _ HS.out).mono ?_
     rintro e w45 ⟨rfl, hk⟩
     have HK := Hd (HK.out.trans (hk.mono (T := [b]) (by simp)) (fun _ h _ => h))
     have HX := Hd (HX.out.keep hk (by simp))
     have H45 := Hd (HS.out.keep hk)
     clear hk
     go_wp2_with fail
     refine (HI43.out _ H45.out).mono ?_
     rintro e w43 ⟨rfl, hk⟩
     have HK := Hd (HK.out.trans (hk.mono (T := [b]) (by simp)) (fun _ h _ => h))
     have HX := Hd (HX.out.keep hk (by simp))
     have H43 := Hd (H45.out.keep hk)
     clear hk
     go_wp2
     go_ret
     exact ⟨.pointer q, rfl, ⟨_, rfl⟩, HK.out, by rw [HR.out]; exact H43.out, fun a h => by
      rw [HR.out] at h
      obtain rfl := Option.some.inj h
      exact HX.out⟩
  ·
   simp only [St.err] at c3
   obtain ⟨q, rfl⟩ := hv
   have hz : ((z : Int) == 0) = false := by have := hs.1; simp; omega
   have hz' : decide ((z : Int) = 0) = false := by have := hs.1; simp; omega
   have HS := Hd hs
   have HK := Hd hk
   clear hs hk
   go_wp2
   go_ret
   exact ⟨.pointer q, rfl, ⟨_, rfl⟩, HK.out, by rw [hR]; exact HS.out, fun a h => by rw [hR] at h; cases h⟩
theorem qprod_dead (w : World) (b n z p o lo : Nat) (h : SA w b n (.dead z p o)) (hU : Calls Tryz.prog 183 #[pp b] w (QS ExAt IsPtr lo w b n (none, .dead z p o))) :
 Calls Tryz.prog 152 #[pp b] w (QS ExAt IsPtr lo w b n (none, .dead z p o)) := by
 have hz : ((z : Int) == 0) = false := by have := h.1; simp; omega
 have hz' : decide ((z : Int) = 0) = false := by have := h.1; simp; omega
 have HU := Hd hU
 clear h hU
 go_enter Tryz.func152, Tryz.ntmps152
 go_wp2_with fail
 refine (HU.out).mono ?_
 rintro e w1 ⟨v, rfl, ⟨q, rfl⟩, hk, hs, ha⟩
 have c3 : w1.cell? ⟨b, 3, none⟩ = some (.int .i64 (z : Int)) := hs.flag
 have HS := Hd hs
 have HK := Hd hk
 clear hk hs ha
 go_wp2
 go_loop [3] (fun ev => ev = .pointer q) (fun _ => 0)
 case atStart => rfl
 case round =>
  subst hrel
  go_wp2
  go_ret
  exact ⟨.pointer q, rfl, ⟨_, rfl⟩, HK.out, HS.out, fun _ h => by cases h⟩
theorem qsum_dead (w : World) (b n z p o lo : Nat) (h : SA w b n (.dead z p o)) (hU : Calls Tryz.prog 152 #[pp b] w (QS ExAt IsPtr lo w b n (none, .dead z p o))) :
 Calls Tryz.prog 115 #[pp b] w (QS ExAt IsPtr lo w b n (none, .dead z p o)) := by
 have hz : ((z : Int) == 0) = false := by have := h.1; simp; omega
 have hz' : decide ((z : Int) = 0) = false := by have := h.1; simp; omega
 have HU := Hd hU
 clear h hU
 go_enter Tryz.func115, Tryz.ntmps115
 go_wp2_with fail
 refine (HU.out).mono ?_
 rintro e w1 ⟨v, rfl, ⟨q, rfl⟩, hk, hs, ha⟩
 have c3 : w1.cell? ⟨b, 3, none⟩ = some (.int .i64 (z : Int)) := hs.flag
 have HS := Hd hs
 have HK := Hd hk
 clear hk hs ha
 go_wp2
 go_loop [3] (fun ev => ev = .pointer q) (fun _ => 0)
 case atStart => rfl
 case round =>
  subst hrel
  go_wp2
  go_ret
  exact ⟨.pointer q, rfl, ⟨_, rfl⟩, HK.out, HS.out, fun _ h => by cases h⟩
theorem qe : ∀ f, QE f := fun f => by
 induction f using Nat.strongRecOn with
 | _ f ih =>
  match f, ih with
  | 0, _ =>
   have hd : ∀ w b n σ (lo : Nat) c, 0 < c → SA w b n σ → σ.fits 0 c → ∃ z p o, σ = .dead z p o := fun w b n σ (lo : Nat) c hc h hf => by
    cases σ with
    | live ts o k => have := hf.2; omega
    | dead z p o => exact ⟨z, p, o, rfl⟩
   refine ⟨fun w b n σ lo h hf hb hlo => ?_, fun w b n σ lo h hf hb hlo => ?_, fun w b n σ lo h hf hb hlo => ?_⟩
   ·
    obtain ⟨z, p, o, rfl⟩ := hd w b n σ lo 1 (by omega) h hf
    exact qun_dead w b n z p o lo h _ rfl
   ·
    obtain ⟨z, p, o, rfl⟩ := hd w b n σ lo 2 (by omega) h hf
    exact qprod_dead w b n z p o lo h (qun_dead w b n z p o lo h _ rfl)
   ·
    obtain ⟨z, p, o, rfl⟩ := hd w b n σ lo 3 (by omega) h hf
    exact qsum_dead w b n z p o lo h (qprod_dead w b n z p o lo h (qun_dead w b n z p o lo h _ rfl))
  | f + 1, ih =>
   have hle : ∀ g, g ≤ f → QE g := fun g hg => ih g (by omega)
   refine ⟨fun w b n σ lo h hf hb hlo => qun_step f (hle f (Nat.le_refl _)) w b n σ lo h hf hb hlo, fun w b n σ lo h hf hb hlo => ?_, fun w b n σ lo h hf hb hlo => ?_⟩
   ·
    cases σ with
    | live ts o k => exact qprod_live f w b n ts o k lo h hf.1 hf.2 hb hlo hle
    | dead z p o => exact qprod_dead w b n z p o lo h (qun_dead w b n z p o lo h _ rfl)
   ·
    cases σ with
    | live ts o k => exact qsum_live f w b n ts o k lo h hf.1 hf.2 hb hlo hle
    | dead z p o => exact qsum_dead w b n z p o lo h (qprod_dead w b n z p o lo h (qun_dead w b n z p o lo h _ rfl))
end
section
set_option maxHeartbeats 4000000
set_option maxRecDepth 100000
open Go.RowKit Go.Shelf
open Lx (Tok Tx)
open Px (Ex Cn)
open Reg (Is Fact)
attribute [local go_sem] Reg.wantedV Reg.gives_value Reg.gives_skip Reg.gives_enter
abbrev cnot (f : Nat) : List Tok → Nat → Nat → Px.R Cn := fun ts o _ => Px.not f o ts
abbrev cand (f : Nat) : List Tok → Nat → Nat → Px.R Cn := fun ts o _ => Px.and f o ts
abbrev ccond (f : Nat) : List Tok → Nat → Nat → Px.R Cn := fun ts o _ => Px.cond f o ts
abbrev ccmp (f : Nat) : List Tok → Nat → Nat → Px.R Cn := fun ts o _ => Px.cmp f o ts
theorem CnAt.low {w : World} {lo hi : Nat} (h : lo ≤ hi) : ∀ {e : Cn} {v : Value}, CnAt w hi e v → CnAt w lo e v
 | .cmp k a c, v, ⟨x, va, vc, h1, h2, h3, h4, h5⟩ => ⟨x, va, vc, h1, by omega, h3, h4.low h, h5.low h⟩
 | .null s, v, ⟨x, h1, h2, h3⟩ => ⟨x, h1, by omega, h3⟩
 | .not a, v, ⟨x, va, h1, h2, h3, h4⟩ => ⟨x, va, h1, by omega, h3, h4.low h⟩
 | .two k a c, v, ⟨x, va, vc, h1, h2, h3, h4, h5⟩ => ⟨x, va, vc, h1, by omega, h3, h4.low h, h5.low h⟩
structure QC (f : Nat) : Prop where
 not : ∀ w b n σ lo, SA w b n σ → σ.fits f 5 → b ≤ lo → lo < w.heap.size → Calls Tryz.prog 184 #[pp b] w (QS CnAt IsPtr lo w b n (σ.lift n kI (cnot f)))
 and : ∀ w b n σ lo, SA w b n σ → σ.fits f 6 → b ≤ lo → lo < w.heap.size → Calls Tryz.prog 153 #[pp b] w (QS CnAt IsPtr lo w b n (σ.lift n kI (cand f)))
 cond : ∀ w b n σ lo, SA w b n σ → σ.fits f 7 → b ≤ lo → lo < w.heap.size → Calls Tryz.prog 116 #[pp b] w (QS CnAt IsPtr lo w b n (σ.lift n kI (ccond f)))
theorem SA.three {w : World} {b n : Nat} {t0 t1 t2 : Tok} {r : List Tok} {o k : Nat} (h : SA w b n (.live (t0 :: t1 :: t2 :: r) o k)) : ∃ g off L cap i, w.cell? ⟨b, 0, none⟩ = some (.slice (some ⟨g, off, none⟩) L cap) ∧ w.cell? ⟨b, 1, none⟩ = some (.int .i64 ((i : Nat) : Int)) ∧ i + 2 < L ∧ L ≤ 5000 ∧ g < b ∧
 w.cell? ⟨g, off + i * 3 + 1, none⟩ = some (.string (strO t0.text)) ∧ w.cell? ⟨g, off + (i + 1) * 3 + 1, none⟩ = some (.string (strO t1.text)) ∧ w.cell? ⟨g, off + (i + 2) * 3 + 1, none⟩ = some (.string (strO t2.text)) := by
 obtain ⟨A, cap, g, all, i, h1, h2, h3, h4, h5, h6, h7, h8⟩ := h
 have hl := congrArg List.length h3
 simp at hl
 have hget : ∀ j t, (t0 :: t1 :: t2 :: r)[j]? = some t → all[i + j]? = some t := fun j t hj => by
  rw [← h3] at hj
  simpa using hj
 have hg : ∀ j t (hlt : i + j < all.length), (t0 :: t1 :: t2 :: r)[j]? = some t → all[i + j] = t := fun j t hlt hj => by
  have := hget j t hj
  rw [List.getElem?_eq_getElem hlt] at this
  exact Option.some.inj this
 rcases h2 with h2 | ⟨off, rfl, hc⟩
 · subst h2; simp at hl
 ·
  have c0 := row_cell h1 0
  have c1 := row_cell h1 1
  simp only [List.getElem?_toArray, List.getElem?_cons_zero, List.getElem?_cons_succ] at c0 c1
  have q0 := (hc (i + 0) (by omega)).2.1
  have q1 := (hc (i + 1) (by omega)).2.1
  have q2 := (hc (i + 2) (by omega)).2.1
  rw [hg 0 t0 (by omega) rfl] at q0
  rw [hg 1 t1 (by omega) rfl] at q1
  rw [hg 2 t2 (by omega) rfl] at q2
  exact ⟨g, off, all.length, cap, i, c0, c1, by omega, h8.len, h5, q0, q1, q2⟩
theorem SA.setI3 {w : World} {b n : Nat} {t0 t1 t2 : Tok} {r : List Tok} {o k : Nat} (h : SA w b n (.live (t0 :: t1 :: t2 :: r) o k)) {i : Nat} (hi : w.cell? ⟨b, 1, none⟩ = some (.int .i64 ((i : Nat) : Int))) : SA (w.setCell ⟨b, 1, none⟩ (.int .i64 ((i : Int) + 3))) b n (.live r o k) := by
 obtain ⟨A, cap, g, all, j, h1, h2, h3, h4, h5, h6, h7, h8⟩ := h
 have c1 := row_cell h1 1
 simp only [List.getElem?_toArray, List.getElem?_cons_zero, List.getElem?_cons_succ] at c1
 rw [c1] at hi
 have hij : j = i := by simp at hi; omega
 subst hij
 have hl := congrArg List.length h3
 simp at hl
 refine ⟨A, cap, g, all, j + 3, by rw [row_set h1]; rfl, h2.keep (S := [b]) ((Keeps.refl _ _).setCell (by simp) _) (by simp; omega), ?_, by omega, h5, h6, h7, h8⟩
 have := congrArg (List.drop 3) h3
 simpa using this
theorem new_set2 (w : World) (p : Addr) (v : Value) (cs : Array Value) (T : TypeId) (x : Nat) (h : x = w.heap.size ∧ p.block ≠ x) : ((w.alloc (.cells cs T)).setCell p v).heap[x]? = some (.cells cs T (0, 0)) := by
 obtain ⟨rfl, hn⟩ := h
 have hk : Keeps [p.block] (w.alloc (.cells cs T)) ((w.alloc (.cells cs T)).setCell p v) := (Keeps.refl _ _).setCell (by simp) _
 exact block_keep (heap_alloc_new w _) hk (by simpa using Ne.symm hn)
theorem null_lift {n f o k : Nat} {ts : List Tok} (h0 : Px.sees ts [33] = false) (h1 : Px.sees ts [40] = false) (h : Px.isNull ts = true) : (St.live ts o k).lift n kI (cnot (f + 1)) = (some (Px.nullCn ts), .live (ts.drop 3) o k) := by
 have hu : Px.not (f + 1) o ts = .ok (Px.nullCn ts) (ts.drop 3) := by rw [Px.not]; simp only [h0, h1, h]; rfl
 simp only [St.lift, cnot, hu, kI]
theorem qnot_nullE (w : World) (b n : Nat) (t0 t1 t2 : Tok) (r : List Tok) (o k lo : Nat) (h : SA w b n (.live (t0 :: t1 :: t2 :: r) o k)) (hb : b ≤ lo) (hlo : lo < w.heap.size) (hse : (St.live (t0 :: t1 :: t2 :: r) o k).sees [33] = false) (hse2 : (St.live (t0 :: t1 :: t2 :: r) o k).sees [40] = false)
 (hnm : (St.live (t0 :: t1 :: t2 :: r) o k).named = true) (ht2 : t2.text = [110, 117, 108, 108]) (ht1 : t1.text = [61, 61]) :
 Calls Tryz.prog 184 #[pp b] w (QS CnAt IsPtr lo w b n (some (.null t0.text), .live r o k)) := by
 have HI := Hd (fun w' (h : SA w' b n (.live (t0 :: t1 :: t2 :: r) o k)) => qis_any w' b n _ h [33])
 rw [hse] at HI
 have HI2 := Hd (fun w' (h : SA w' b n (.live (t0 :: t1 :: t2 :: r) o k)) => qis_any w' b n _ h [40])
 rw [hse2] at HI2
 have HNM := Hd (fun w' (h : SA w' b n (.live (t0 :: t1 :: t2 :: r) o k)) => qnamed_any w' b n _ h)
 have H := Hd h
 rw [hnm] at HNM
 have HT1 := Hd ht1
 have HT2 := Hd ht2
 clear h hse hse2 hnm ht1 ht2
 go_enter Tryz.func184, Tryz.ntmps184
 go_wp2_with fail
 refine (HI.out _ H.out).mono ?_
 rintro e w1 ⟨rfl, hk⟩
 have HK := Hd hk
 have H1 := Hd (H.out.keep hk)
 clear hk
 go_wp2_with fail
 refine (HI2.out _ H1.out).mono ?_
 rintro e w2 ⟨rfl, hk⟩
 have HK := zV HK hk
 have h2 := H1.out.keep hk
 have H2 := Hd h2
 clear hk
 obtain ⟨g, off, L, cap, i, c0, c1, hi, hL, hgb, d0, d1, d2⟩ := h2.three
 obtain ⟨j1, hj1⟩ : ∃ j, j = i + 1 := ⟨_, rfl⟩
 obtain ⟨j2, hj2⟩ : ∃ j, j = i + 2 := ⟨_, rfl⟩
 have hs1 : IntKind.i64.wrap ((i : Int) + 1) = (j1 : Int) := by rw [IntWalk.i64_in _ (by omega)]; omega
 have hs2 : IntKind.i64.wrap ((i : Int) + 2) = (j2 : Int) := by rw [IntWalk.i64_in _ (by omega)]; omega
 rw [← hj1] at d1
 rw [← hj2] at d2
 obtain ⟨x1, hx1⟩ : ∃ x, x = strO t1.text := ⟨_, rfl⟩
 obtain ⟨x2, hx2⟩ : ∃ x, x = strO t2.text := ⟨_, rfl⟩
 have e1 : w2.cell? ⟨g, off + j1 * 3 + 1, none⟩ = some (.string x1) := by rw [hx1]; exact d1
 have e2 : w2.cell? ⟨g, off + j2 * 3 + 1, none⟩ = some (.string x2) := by rw [hx2]; exact d2
 have y2 : (x2.toList == [110, 117, 108, 108]) = true := by rw [hx2, strO_toList, HT2.out]; rfl
 have y1 : (x1.toList == [61, 61]) = true := by rw [hx1, strO_toList, HT1.out]; rfl
 have y1' : (x1.toList == [33, 61]) = false := by rw [hx1, strO_toList, HT1.out]; rfl
 have hl1 : (j1 : Int) < (L : Int) := by omega
 have hl2 : (j2 : Int) < (L : Int) := by omega
 have hl0 : (i : Int) < (L : Int) := by omega
 have hm2 : decide ((j2 : Int) < (L : Int)) = true := by simp; omega
 have hn2 : decide (j2 < L) = true := by simp; omega
 have hp1 : (0 : Int) ≤ (j1 : Int) := by omega
 have hp2 : (0 : Int) ≤ (j2 : Int) := by omega
 have hne : g ≠ b := by omega
 clear h2 hi d1 d2 hx1 hx2 hj1 hj2 HT1 HT2
 go_wp2_with fail
 refine Reg.wp_region_state (A := ?AE) (fun _ w' => Keeps [] w2 w') (fun _ _ => True)
  (Is (.pointer (some ⟨b, 0, none⟩)) :: Is (.bool true) :: Is (.bool true) :: Is (.pointer (some ⟨b, 0, none⟩)) :: Is (.pointer (some ⟨b, 0, none⟩)) :: Is (.pointer (some ⟨b, 1, none⟩)) :: Is (.int .i64 (i : Int)) :: Is (.int .i64 (j2 : Int)) :: Is (.pointer (some ⟨b, 0, none⟩)) :: Is (.pointer (some ⟨b, 0, none⟩)) :: Is (.pointer (some ⟨b, 0, none⟩)) :: Is (.slice (some ⟨g, off, none⟩) L cap) :: Is (.int .i64 (L : Int)) :: Is (.bool true) :: Is (.bool true) :: Is (.bool true) :: Is (.pointer (some ⟨b, 0, none⟩)) :: Is (.pointer (some ⟨b, 0, none⟩)) :: Is (.pointer (some ⟨b, 0, none⟩)) :: Is (.slice (some ⟨g, off, none⟩) L cap) :: Is (.pointer (some ⟨b, 0, none⟩)) :: Is (.pointer (some ⟨b, 0, none⟩)) :: Is (.pointer (some ⟨b, 1, none⟩)) :: Is (.int .i64 (i : Int)) :: Is (.int .i64 (j2 : Int)) :: Is (.pointer (some ⟨g, off + j2 * 3, none⟩)) :: Is (.pointer (some ⟨g, off + j2 * 3 + 1, none⟩)) :: Is (.string x2) :: Is (.bool true) :: Is (.bool true) :: Is (.bool true) :: Is (.pointer (some ⟨b, 0, none⟩)) :: Is (.pointer (some ⟨b, 0, none⟩)) :: Is (.pointer (some ⟨b, 0, none⟩)) :: Is (.slice (some ⟨g, off, none⟩) L cap) :: Is (.pointer (some ⟨b, 0, none⟩)) :: Is (.pointer (some ⟨b, 0, none⟩)) :: Is (.pointer (some ⟨b, 1, none⟩)) :: Is (.int .i64 (i : Int)) :: Is (.int .i64 (j1 : Int)) :: Is (.pointer (some ⟨g, off + j1 * 3, none⟩)) :: Is (.pointer (some ⟨g, off + j1 * 3 + 1, none⟩)) :: Is (.string x1) :: Is (.bool true) :: Is (.bool true) :: Is undef :: Is undef :: Is undef :: Is undef :: Is undef :: Is undef :: Is undef :: Is undef :: Is undef :: Is undef :: Is undef :: Is undef :: Is undef :: Is (.bool true) :: Is (.bool true) :: [])
  (by kernel_rfl) (by kernel_rfl) rfl ?hrEA ?hrEC ?hrEo ?hrElast ?hrEend
 case hrEA => intro vs; simp only [Reg.fill, if_true, Nat.zero_add, Nat.reduceAdd, Act.put, List.setIfInBounds_toArray, List.set_cons_succ, List.set_cons_zero]; exact rfl
 case hrEC => exact (Keeps.refl _ _).drew
 case hrElast => repeat (first | exact trivial | refine ⟨fun _ _ _ h _ => h, ?_⟩)
 case hrEo =>
  repeat' apply And.intro
  all_goals
   first
    | exact trivial
    | (
     intro Ls vs w' hC hLs hd K hK
     try simp only [Reg.Deps, Reg.at_, List.getD_cons_zero, List.getD_cons_succ, Region.binds, true_implies, Is, and_true] at hd
     have cx0 := hC.cell_some c0 (by simp)
     have cx1 := hC.cell_some c1 (by simp)
     have cx2 := hC.cell_some e1 (by simp)
     have cx3 := hC.cell_some e2 (by simp)
     go_simp
     first
      | exact hK _ _ hC trivial rfl
      | skip)
  ·
   refine (HNM.out _ (H2.out.keep hC)).mono ?_
   rintro e w9 ⟨rfl, hk⟩
   exact ⟨_, rfl, hK _ _ (hC.trans hk (fun _ h _ => h)) trivial rfl⟩
 case hrEend =>
  intro vs w3 hC hall
  simp only [Reg.All, Is, and_true, Nat.zero_add, Nat.reduceAdd] at hall
  obtain ⟨-, -, -, -, -, -, -, -, -, -, -, -, -, -, -, -, -, -, -, -, -, -, -, -, -, -, -, -, -, -, -, -, -, -, -, -, -, -, -, -, -, -, -, -, -, -, -, -, -, -, -, -, -, -, -, -, -, -, -, eL⟩ := hall
  rw [eL]
  have hk := hC
  have HK := zV HK hk
  have H3 := Hd (H2.out.keep hk)
  have c0' := hk.cell_some c0 (by simp)
  have c1' := hk.cell_some c1 (by simp)
  have d0' := hk.cell_some d0 (by simp)
  have e1' := hk.cell_some e1 (by simp)
  clear hk hC c0 c1 e1 e2 eL d0
  obtain ⟨x0, hx0⟩ : ∃ x, x = strO t0.text := ⟨_, rfl⟩
  rw [← hx0] at d0'
  have HX0 := Hd hx0
  clear hx0
  go_wp2
  go_still_tail 11, (by kernel_rfl)
  change wpList _ _ _ _ _ w3.drew
  have HK := Hd (HK.out.drew)
  have H4 := Hd (H3.out.keep ((Keeps.refl [] w3).drew))
  have hk := (Keeps.refl [] w3).drew
  have c0 := hk.cell_some c0' (by simp)
  have c1 := hk.cell_some c1' (by simp)
  have e1 := hk.cell_some e1' (by simp)
  clear hk c0' c1' d0' e1'
  generalize w3.drew = w4 at HK H4 c0 c1 e1 ⊢
  have ha := (Keeps.refl [] w4).alloc (.cells #[.int .i64 9, .pointer none, .pointer none, .pointer none, .pointer none, .string x0] 105)
  have c0' := ha.cell_some c0 (by simp)
  have c1' := ha.cell_some c1 (by simp)
  have e1' := ha.cell_some e1 (by simp)
  have H5 := Hd (H4.out.keep ha)
  have HB := Hd (heap_alloc_new w4 (.cells #[.int .i64 9, .pointer none, .pointer none, .pointer none, .pointer none, .string x0] 105))
  clear ha c0 c1 e1
  obtain ⟨cs, hrow, -, -, -, -, -, hfz⟩ := H5.out.row
  have f1 := hfz 1
  have hs3 : IntKind.i64.wrap ((i : Int) + 3) = (i : Int) + 3 := IntWalk.i64_in _ (by omega)
  clear hrow hfz
  go_wp2
  go_region
  go_wp2
  go_ret
  refine ⟨.pointer (some ⟨w4.heap.size, 0, none⟩), rfl, ⟨_, rfl⟩, (((HK.out.mono (by simp)).alloc _).drewN _).set1 _ _, (H5.out.drewN _).setI3 (by simpa using c1'), fun a h => ?_⟩
  obtain rfl := Option.some.inj h
  have hlo2 : lo < w4.heap.size := by have := HK.out.size; omega
  exact ⟨_, rfl, hlo2, by rw [← HX0.out]; exact block_keep HB.out (((Keeps.refl [b] _).drewN _).set1 _ _) (by simp; omega)⟩
theorem qnot_nullF (w : World) (b n : Nat) (t0 t1 t2 : Tok) (r : List Tok) (o k lo : Nat) (h : SA w b n (.live (t0 :: t1 :: t2 :: r) o k)) (hb : b ≤ lo) (hlo : lo < w.heap.size) (hse : (St.live (t0 :: t1 :: t2 :: r) o k).sees [33] = false) (hse2 : (St.live (t0 :: t1 :: t2 :: r) o k).sees [40] = false)
 (hnm : (St.live (t0 :: t1 :: t2 :: r) o k).named = true) (ht2 : t2.text = [110, 117, 108, 108]) (ht1 : t1.text = [33, 61]) :
 Calls Tryz.prog 184 #[pp b] w (QS CnAt IsPtr lo w b n (some (.not (.null t0.text)), .live r o k)) := by
 have HI := Hd (fun w' (h : SA w' b n (.live (t0 :: t1 :: t2 :: r) o k)) => qis_any w' b n _ h [33])
 rw [hse] at HI
 have HI2 := Hd (fun w' (h : SA w' b n (.live (t0 :: t1 :: t2 :: r) o k)) => qis_any w' b n _ h [40])
 rw [hse2] at HI2
 have HNM := Hd (fun w' (h : SA w' b n (.live (t0 :: t1 :: t2 :: r) o k)) => qnamed_any w' b n _ h)
 have H := Hd h
 rw [hnm] at HNM
 have HT1 := Hd ht1
 have HT2 := Hd ht2
 clear h hse hse2 hnm ht1 ht2
 go_enter Tryz.func184, Tryz.ntmps184
 go_wp2_with fail
 refine (HI.out _ H.out).mono ?_
 rintro e w1 ⟨rfl, hk⟩
 have HK := Hd hk
 have H1 := Hd (H.out.keep hk)
 clear hk
 go_wp2_with fail
 refine (HI2.out _ H1.out).mono ?_
 rintro e w2 ⟨rfl, hk⟩
 have HK := zV HK hk
 have h2 := H1.out.keep hk
 have H2 := Hd h2
 clear hk
 obtain ⟨g, off, L, cap, i, c0, c1, hi, hL, hgb, d0, d1, d2⟩ := h2.three
 obtain ⟨j1, hj1⟩ : ∃ j, j = i + 1 := ⟨_, rfl⟩
 obtain ⟨j2, hj2⟩ : ∃ j, j = i + 2 := ⟨_, rfl⟩
 have hs1 : IntKind.i64.wrap ((i : Int) + 1) = (j1 : Int) := by rw [IntWalk.i64_in _ (by omega)]; omega
 have hs2 : IntKind.i64.wrap ((i : Int) + 2) = (j2 : Int) := by rw [IntWalk.i64_in _ (by omega)]; omega
 rw [← hj1] at d1
 rw [← hj2] at d2
 obtain ⟨x1, hx1⟩ : ∃ x, x = strO t1.text := ⟨_, rfl⟩
 obtain ⟨x2, hx2⟩ : ∃ x, x = strO t2.text := ⟨_, rfl⟩
 have e1 : w2.cell? ⟨g, off + j1 * 3 + 1, none⟩ = some (.string x1) := by rw [hx1]; exact d1
 have e2 : w2.cell? ⟨g, off + j2 * 3 + 1, none⟩ = some (.string x2) := by rw [hx2]; exact d2
 have y2 : (x2.toList == [110, 117, 108, 108]) = true := by rw [hx2, strO_toList, HT2.out]; rfl
 have y1 : (x1.toList == [61, 61]) = false := by rw [hx1, strO_toList, HT1.out]; rfl
 have y1' : (x1.toList == [33, 61]) = true := by rw [hx1, strO_toList, HT1.out]; rfl
 have hl1 : (j1 : Int) < (L : Int) := by omega
 have hl2 : (j2 : Int) < (L : Int) := by omega
 have hl0 : (i : Int) < (L : Int) := by omega
 have hm2 : decide ((j2 : Int) < (L : Int)) = true := by simp; omega
 have hn2 : decide (j2 < L) = true := by simp; omega
 have hp1 : (0 : Int) ≤ (j1 : Int) := by omega
 have hp2 : (0 : Int) ≤ (j2 : Int) := by omega
 have hne : g ≠ b := by omega
 clear h2 hi d1 d2 hx1 hx2 hj1 hj2 HT1 HT2
 go_wp2_with fail
 refine Reg.wp_region_state (A := ?AF) (fun _ w' => Keeps [] w2 w') (fun _ _ => True)
  (Is (.pointer (some ⟨b, 0, none⟩)) :: Is (.bool true) :: Is (.bool true) :: Is (.pointer (some ⟨b, 0, none⟩)) :: Is (.pointer (some ⟨b, 0, none⟩)) :: Is (.pointer (some ⟨b, 1, none⟩)) :: Is (.int .i64 (i : Int)) :: Is (.int .i64 (j2 : Int)) :: Is (.pointer (some ⟨b, 0, none⟩)) :: Is (.pointer (some ⟨b, 0, none⟩)) :: Is (.pointer (some ⟨b, 0, none⟩)) :: Is (.slice (some ⟨g, off, none⟩) L cap) :: Is (.int .i64 (L : Int)) :: Is (.bool true) :: Is (.bool true) :: Is (.bool true) :: Is (.pointer (some ⟨b, 0, none⟩)) :: Is (.pointer (some ⟨b, 0, none⟩)) :: Is (.pointer (some ⟨b, 0, none⟩)) :: Is (.slice (some ⟨g, off, none⟩) L cap) :: Is (.pointer (some ⟨b, 0, none⟩)) :: Is (.pointer (some ⟨b, 0, none⟩)) :: Is (.pointer (some ⟨b, 1, none⟩)) :: Is (.int .i64 (i : Int)) :: Is (.int .i64 (j2 : Int)) :: Is (.pointer (some ⟨g, off + j2 * 3, none⟩)) :: Is (.pointer (some ⟨g, off + j2 * 3 + 1, none⟩)) :: Is (.string x2) :: Is (.bool true) :: Is (.bool true) :: Is (.bool true) :: Is (.pointer (some ⟨b, 0, none⟩)) :: Is (.pointer (some ⟨b, 0, none⟩)) :: Is (.pointer (some ⟨b, 0, none⟩)) :: Is (.slice (some ⟨g, off, none⟩) L cap) :: Is (.pointer (some ⟨b, 0, none⟩)) :: Is (.pointer (some ⟨b, 0, none⟩)) :: Is (.pointer (some ⟨b, 1, none⟩)) :: Is (.int .i64 (i : Int)) :: Is (.int .i64 (j1 : Int)) :: Is (.pointer (some ⟨g, off + j1 * 3, none⟩)) :: Is (.pointer (some ⟨g, off + j1 * 3 + 1, none⟩)) :: Is (.string x1) :: Is (.bool false) :: Is (.bool false) :: Is (.pointer (some ⟨b, 0, none⟩)) :: Is (.pointer (some ⟨b, 0, none⟩)) :: Is (.pointer (some ⟨b, 0, none⟩)) :: Is (.slice (some ⟨g, off, none⟩) L cap) :: Is (.pointer (some ⟨b, 0, none⟩)) :: Is (.pointer (some ⟨b, 0, none⟩)) :: Is (.pointer (some ⟨b, 1, none⟩)) :: Is (.int .i64 (i : Int)) :: Is (.int .i64 (j1 : Int)) :: Is (.pointer (some ⟨g, off + j1 * 3, none⟩)) :: Is (.pointer (some ⟨g, off + j1 * 3 + 1, none⟩)) :: Is (.string x1) :: Is (.bool true) :: Is (.bool true) :: Is (.bool true) :: [])
  (by kernel_rfl) (by kernel_rfl) rfl ?hrFA ?hrFC ?hrFo ?hrFlast ?hrFend
 case hrFA => intro vs; simp only [Reg.fill, if_true, Nat.zero_add, Nat.reduceAdd, Act.put, List.setIfInBounds_toArray, List.set_cons_succ, List.set_cons_zero]; exact rfl
 case hrFC => exact (Keeps.refl _ _).drew
 case hrFlast => repeat (first | exact trivial | refine ⟨fun _ _ _ h _ => h, ?_⟩)
 case hrFo =>
  repeat' apply And.intro
  all_goals
   first
    | exact trivial
    | (
     intro Ls vs w' hC hLs hd K hK
     try simp only [Reg.Deps, Reg.at_, List.getD_cons_zero, List.getD_cons_succ, Region.binds, true_implies, Is, and_true] at hd
     have cx0 := hC.cell_some c0 (by simp)
     have cx1 := hC.cell_some c1 (by simp)
     have cx2 := hC.cell_some e1 (by simp)
     have cx3 := hC.cell_some e2 (by simp)
     go_simp
     first
      | exact hK _ _ hC trivial rfl
      | skip)
  ·
   refine (HNM.out _ (H2.out.keep hC)).mono ?_
   rintro e w9 ⟨rfl, hk⟩
   exact ⟨_, rfl, hK _ _ (hC.trans hk (fun _ h _ => h)) trivial rfl⟩
 case hrFend =>
  intro vs w3 hC hall
  simp only [Reg.All, Is, and_true, Nat.zero_add, Nat.reduceAdd] at hall
  obtain ⟨-, -, -, -, -, -, -, -, -, -, -, -, -, -, -, -, -, -, -, -, -, -, -, -, -, -, -, -, -, -, -, -, -, -, -, -, -, -, -, -, -, -, -, -, -, -, -, -, -, -, -, -, -, -, -, -, -, -, -, eL⟩ := hall
  rw [eL]
  have hk := hC
  have HK := zV HK hk
  have H3 := Hd (H2.out.keep hk)
  have c0' := hk.cell_some c0 (by simp)
  have c1' := hk.cell_some c1 (by simp)
  have d0' := hk.cell_some d0 (by simp)
  have e1' := hk.cell_some e1 (by simp)
  clear hk hC c0 c1 e1 e2 eL d0
  obtain ⟨x0, hx0⟩ : ∃ x, x = strO t0.text := ⟨_, rfl⟩
  rw [← hx0] at d0'
  have HX0 := Hd hx0
  clear hx0
  go_wp2
  go_still_tail 11, (by kernel_rfl)
  change wpList _ _ _ _ _ w3.drew
  have HK := Hd (HK.out.drew)
  have H4 := Hd (H3.out.keep ((Keeps.refl [] w3).drew))
  have hk := (Keeps.refl [] w3).drew
  have c0 := hk.cell_some c0' (by simp)
  have c1 := hk.cell_some c1' (by simp)
  have e1 := hk.cell_some e1' (by simp)
  clear hk c0' c1' d0' e1'
  generalize w3.drew = w4 at HK H4 c0 c1 e1 ⊢
  have ha := (Keeps.refl [] w4).alloc (.cells #[.int .i64 9, .pointer none, .pointer none, .pointer none, .pointer none, .string x0] 105)
  have c0' := ha.cell_some c0 (by simp)
  have c1' := ha.cell_some c1 (by simp)
  have e1' := ha.cell_some e1 (by simp)
  have H5 := Hd (H4.out.keep ha)
  have HB := Hd (heap_alloc_new w4 (.cells #[.int .i64 9, .pointer none, .pointer none, .pointer none, .pointer none, .string x0] 105))
  clear ha c0 c1 e1
  obtain ⟨cs, hrow, -, -, -, -, -, hfz⟩ := H5.out.row
  have f1 := hfz 1
  have hs3 : IntKind.i64.wrap ((i : Int) + 3) = (i : Int) + 3 := IntWalk.i64_in _ (by omega)
  have hkb : Keeps [] (w4.alloc (.cells #[.int .i64 9, .pointer none, .pointer none, .pointer none, .pointer none, .string x0] 105)) ((w4.alloc (.cells #[.int .i64 9, .pointer none, .pointer none, .pointer none, .pointer none, .string x0] 105)).alloc (.cells #[.int .i64 8, .pointer none, .pointer none, .pointer (some ⟨w4.heap.size, 0, none⟩), .pointer none, .string ⟨#[]⟩] 105)) := (Keeps.refl _ _).alloc _
  have c1F := hkb.cell_some c1' (by simp)
  have f1F : ((w4.alloc (.cells #[.int .i64 9, .pointer none, .pointer none, .pointer none, .pointer none, .string x0] 105)).alloc (.cells #[.int .i64 8, .pointer none, .pointer none, .pointer (some ⟨w4.heap.size, 0, none⟩), .pointer none, .string ⟨#[]⟩] 105)).frozen? ⟨b, 1, none⟩ = false := by
   obtain ⟨cs, hrow, -, -, -, -, -, hfz⟩ := (H5.out.keep hkb).row
   exact hfz 1
  have HKB := Hd hkb
  clear hkb
  clear hrow hfz
  go_wp2
  go_region
  go_wp2
  go_ret
  refine ⟨.pointer (some ⟨w4.heap.size + 1, 0, none⟩), rfl, ⟨_, rfl⟩, ((((HK.out.mono (by simp)).alloc _).alloc _).drewN _).set1 _ _, ((H5.out.keep HKB.out).drewN _).setI3 (by simpa using c1F), fun a h => ?_⟩
  obtain rfl := Option.some.inj h
  have hlo2 : lo < w4.heap.size := by have := HK.out.size; omega
  exact ⟨_, _, rfl, by omega, new_set2 ((w4.alloc (.cells #[.int .i64 9, .pointer none, .pointer none, .pointer none, .pointer none, .string x0] 105)).drewN _) ⟨b, 1, none⟩ _ _ _ _ ⟨by simp, by simp; omega⟩, ⟨_, rfl, hlo2, by rw [← HX0.out]; exact block_keep HB.out (((HKB.out.mono (T := [b]) (by simp)).drewN _).set1 _ _) (by simp; omega)⟩⟩
end
end Go.Proofs.YtbikifibfaaggaaGreatDoor
